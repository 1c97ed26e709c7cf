import Derived.Test.YtljmlacnfnmjbaaGreatTkal
import Derived.Test.YtljmlacnfnmjbaaGreatTkaa
import Derived.ProofKit
import Derived.OpenShut
import Derived.ShutString
import Derived.ChangeOld
import Derived.Below
import Derived.Deep.Strs
import Derived.ChangeMaps5
namespace Go.Proofs.YtljmlacnfnmjbaaGreat
open Go.RowKit
set_option linter.unusedVariables false
set_option linter.unusedSimpArgs false

theorem nm_cells (U : World) {R : Nat} (hR : R < 5) : (U.alloc (.cells #[.string ⟨#[107]⟩, .string ⟨#[118]⟩, .string ⟨#[110]⟩, .string ⟨#[114]⟩, .string ⟨#[113]⟩] 9)).cell? ⟨U.heap.size, R, none⟩ = some (.string (nmP R)) := by
  refine (cell_new U _ _ _ R).trans ?_
  match R, hR with
  | 0, _ => rfl
  | 1, _ => rfl
  | 2, _ => rfl
  | 3, _ => rfl
  | 4, _ => rfl
/-- What a name is told of. -/
def nmC (h0 h1 bk br bv : Bool) : Prop := (h0 = true ∧ h1 = true ∧ bk = true ∧ br = false ∧ bv = false) ∨ (h0 = true ∧ h1 = false ∧ bk = false ∧ br = false ∧ bv = true) ∨ (h0 = true ∧ h1 = true ∧ bk = false ∧ br = false ∧ bv = false) ∨ (h0 = false ∧ h1 = true ∧ bk = false ∧ br = true ∧ bv = false) ∨ (h0 = false ∧ h1 = false ∧ bk = false ∧ br = false ∧ bv = false)
theorem nm_cases {R : Nat} (hR : R < 5) : nmC (haveT (nmP R)) (haveU (nmP R)) (decide (nmP R = ⟨#[107]⟩)) (decide (nmP R = ⟨#[114]⟩)) (decide (nmP R = ⟨#[118]⟩)) := by
  match R, hR with
  | 0, _ => exact .inl (by decide +kernel)
  | 1, _ => exact .inr (.inl (by decide +kernel))
  | 2, _ => exact .inr (.inr (.inl (by decide +kernel)))
  | 3, _ => exact .inr (.inr (.inr (.inl (by decide +kernel))))
  | 4, _ => exact .inr (.inr (.inr (.inr (by decide +kernel))))
theorem idx_0 (a b : Bool) (w : World) : (Instr.index 62 (.agg #[.bool a, .bool b]) (.int .i64 0)).run Tryz.prog w = .ok (.bool a) w := by kernel_rfl
theorem idx_1 (a b : Bool) (w : World) : (Instr.index 62 (.agg #[.bool a, .bool b]) (.int .i64 1)).run Tryz.prog w = .ok (.bool b) w := by kernel_rfl
theorem sqB_key (nm : ByteArray) (u text : Bool) : SqB (keyM nm u text) := ⟨by simp [keyM], by simp [keyM], by simp [keyM], by simp [keyM], by simp [keyM]⟩

set_option maxRecDepth 100000 in
set_option maxHeartbeats 4000000 in
theorem typedKeys_any (n : Nat) (hn : n ≤ 255) (u text : Bool) (w : World) : Calls Tryz.prog 8 #[.int .u8 (n : Int), .bool u, .bool text] w fun e w' => e = .returned (.bool true) ∧ Below w.heap.size w w' := by
  have H0 : Hid _ := hid (begun10_any w)
  have HS : Hid (∀ w1, _) := hid fun w1 => schemaT_any w1
  obtain ⟨R, hR⟩ : ∃ R, n % 5 = R := ⟨_, rfl⟩
  have hR5 : R < 5 := by omega
  have hRi : (R : Int) < 5 := by omega
  have nt : (n : Int).tmod 5 = (R : Int) := by rw [Int.tmod_eq_emod_of_nonneg (by omega)]; omega
  have hcs := nm_cases hR5
  have HX := keys_plain R hR5 u text
  have HN : Hid (∀ w1, _) := hid fun w1 => have_any (nmP R) w1
  have HW : wantK (nmP R) u text = if (if u then haveU (nmP R) else haveT (nmP R)) = false then 10 else if decide (nmP R = ⟨#[107]⟩) || decide (nmP R = ⟨#[114]⟩) then 24 else if decide (nmP R = ⟨#[118]⟩) != text then 11 else 0 := rfl
  have ek := eq_lit (nmP R) 107
  have er := eq_lit (nmP R) 114
  have ev := eq_lit (nmP R) 118
  rw [HW] at HX
  have HC : Hid (∀ U : World, _) := hid fun U => nm_cells U hR5
  obtain ⟨nm, hnm⟩ : ∃ nm, nmP R = nm := ⟨_, rfl⟩
  rw [hnm] at hcs HX HN ek er ev HC
  obtain ⟨X, hX⟩ : ∃ X, X = (if (if u then haveU nm else haveT nm) = false then 10 else if decide (nm = ⟨#[107]⟩) || decide (nm = ⟨#[114]⟩) then 24 else if decide (nm = ⟨#[118]⟩) != text then (11 : Int) else 0) := ⟨_, rfl⟩
  rw [← hX] at HX
  generalize haveT nm = h0 at *
  generalize haveU nm = h1 at *
  have HCk : Hid (∀ (sv : Sv) (b : Nat) w1, IsT w1 tbs (some ⟨b, 0, none⟩) 2 2 → IsQ w1 (keyM nm u text) sv → sv.inn.2.1 = 0 → _) := hid fun sv b w1 hT hq hi => by
    have h := check_upd (vb := none) (vm := 0) (vd := 0) (sqB_key nm u text) hT hq rfl
    rw [hi, HX] at h
    exact h
  generalize decide (nm = ⟨#[107]⟩) = bk at *
  generalize decide (nm = ⟨#[114]⟩) = br at *
  generalize decide (nm = ⟨#[118]⟩) = bv at *
  replace hcs : Hid _ := hid hcs
  replace ek : Hid _ := hid ek
  replace er : Hid _ := hid er
  replace ev : Hid _ := hid ev
  replace hX : Hid _ := hid hX
  clear hR HW HX hnm
  go_enter Tryz.func8, Tryz.ntmps8
  go_wp2_with fail
  refine Calls.mono H0.out ?_
  rintro e U ⟨rfl, hw⟩
  clear H0
  have sR := HC.out U
  have hA := bal (Below.refl U.heap.size U) (.cells #[.string ⟨#[107]⟩, .string ⟨#[118]⟩, .string ⟨#[110]⟩, .string ⟨#[114]⟩, .string ⟨#[113]⟩] 9)
  go_upto_region 3 with fail
  go_upto_region 4 with fail
  clear sR
  generalize U.alloc (.cells #[.string ⟨#[107]⟩, .string ⟨#[118]⟩, .string ⟨#[110]⟩, .string ⟨#[114]⟩, .string ⟨#[113]⟩] 9) = U1 at *
  replace hw := Below.on hw hA
  clear hA HC nt
  cases u with
  | false =>
    cases text with
    | false =>
      have hb2 := bal (bal (Below.refl U1.heap.size U1) (.cells #[.int .i64 1, .int .i64 1, .int .i64 0, .string ⟨#[]⟩, .string ⟨#[]⟩, .string ⟨#[]⟩, .slice none 0 0] 28)) (.cells #[.int .i64 7, .string ⟨#[116]⟩, .string nm, .slice none 0 0, .slice none 0 0, .slice (some ⟨U1.heap.size, 0, none⟩) 1 1, .slice none 0 0, .string ⟨#[]⟩, .slice none 0 0, .slice none 0 0, .slice none 0 0, .bool false, .slice none 0 0] 43)
      have b1 := (Bk.new U1 (.cells #[.int .i64 1, .int .i64 1, .int .i64 0, .string ⟨#[]⟩, .string ⟨#[]⟩, .string ⟨#[]⟩, .slice none 0 0] 28)).later (bal (Below.refl _ _) (.cells #[.int .i64 7, .string ⟨#[116]⟩, .string nm, .slice none 0 0, .slice none 0 0, .slice (some ⟨U1.heap.size, 0, none⟩) 1 1, .slice none 0 0, .string ⟨#[]⟩, .slice none 0 0, .slice none 0 0, .slice none 0 0, .bool false, .slice none 0 0] 43))
      have b2 := Bk.new (U1.alloc (.cells #[.int .i64 1, .int .i64 1, .int .i64 0, .string ⟨#[]⟩, .string ⟨#[]⟩, .string ⟨#[]⟩, .slice none 0 0] 28)) (.cells #[.int .i64 7, .string ⟨#[116]⟩, .string nm, .slice none 0 0, .slice none 0 0, .slice (some ⟨U1.heap.size, 0, none⟩) 1 1, .slice none 0 0, .string ⟨#[]⟩, .slice none 0 0, .slice none 0 0, .slice none 0 0, .bool false, .slice none 0 0] 43)
      rw [World.size_alloc] at b2
      go_upto_region 9 with fail
      generalize ((U1.alloc (.cells #[.int .i64 1, .int .i64 1, .int .i64 0, .string ⟨#[]⟩, .string ⟨#[]⟩, .string ⟨#[]⟩, .slice none 0 0] 28)).alloc (.cells #[.int .i64 7, .string ⟨#[116]⟩, .string nm, .slice none 0 0, .slice none 0 0, .slice (some ⟨U1.heap.size, 0, none⟩) 1 1, .slice none 0 0, .string ⟨#[]⟩, .slice none 0 0, .slice none 0 0, .slice none 0 0, .bool false, .slice none 0 0] 43)) = W at *
      replace hw := Below.on hw hb2
      generalize U1.heap.size + 1 = q at *
      generalize U1.heap.size = qe at *
      clear hb2
      have z0 := b2.cell 0
      have z1 := b2.cell 1
      have z2 := b2.cell 2
      have z3 := b2.cell 3
      have z4 := b2.cell 4
      have z5 := b2.cell 5
      have z6 := b2.cell 6
      have z7 := b2.cell 7
      have z8 := b2.cell 8
      have z9 := b2.cell 9
      have z10 := b2.cell 10
      have z11 := b2.cell 11
      have z12 := b2.cell 12
      have p0 := b1.cell 0
      have p1 := b1.cell 1
      have p2 := b1.cell 2
      have p3 := b1.cell 3
      have p4 := b1.cell 4
      have p5 := b1.cell 5
      have p6 := b1.cell 6
      simp only [List.getElem?_toArray, List.getElem?_cons_zero, List.getElem?_cons_succ] at z0 z1 z2 z3 z4 z5 z6 z7 z8 z9 z10 z11 z12 p0 p1 p2 p3 p4 p5 p6
      have HQ : Hid (∀ w1, Below W.heap.size W w1 → IsQ w1 (keyM nm false false) ⟨7, ⟨#[116]⟩, nm, (none, 0, 0), (none, 0, 0), (some ⟨qe, 0, none⟩, 1, 1), (none, 0, 0), ⟨#[]⟩, (none, 0, 0), (none, 0, 0), (none, 0, 0), false, (none, 0, 0)⟩) := hid fun w1 hb =>
        ⟨rfl, rfl, rfl, rfl, row1_g (x := (litP 1 0, .nil)) ⟨cell_later hb p0, cell_later hb p1, cell_later hb p2, cell_later hb p3, cell_later hb p4, cell_later hb p5, cell_later hb p6⟩ (SlF.nil _ _), RowIs.nil _ _ _, RowIs.nil _ _ _, RowIs.nil _ _ _, RowIs.nil _ _ _⟩
      clear b1 b2 p0 p1 p2 p3 p4 p5 p6
      have hC := Below.refl W.heap.size W
      have i0 := idx_0 h0 h1
      have i1 := idx_1 h0 h1
      go_wp2_with fail
      refine Calls.mono (HN.out _) ?_
      rintro e V0 ⟨rfl, hv0⟩
      replace hC := Below.on hC hv0
      clear hv0
      go_upto_region 12 with fail
      have ek2 := ek.out
      have er2 := er.out
      have ev2 := ev.out
      clear HN ek er ev
      replace z0 := cell_later hC z0
      replace z1 := cell_later hC z1
      replace z2 := cell_later hC z2
      replace z3 := cell_later hC z3
      replace z4 := cell_later hC z4
      replace z5 := cell_later hC z5
      replace z6 := cell_later hC z6
      replace z7 := cell_later hC z7
      replace z8 := cell_later hC z8
      replace z9 := cell_later hC z9
      replace z10 := cell_later hC z10
      replace z11 := cell_later hC z11
      replace z12 := cell_later hC z12
      have HQ2 : Hid (∀ w1, Below V0.heap.size V0 w1 → _) := hid fun w1 hb => HQ.out w1 (Below.on hC hb)
      replace hw := Below.on hw hC
      clear hC HQ
      rcases hcs.out with ⟨rfl, rfl, rfl, rfl, rfl⟩ | ⟨rfl, rfl, rfl, rfl, rfl⟩ | ⟨rfl, rfl, rfl, rfl, rfl⟩ | ⟨rfl, rfl, rfl, rfl, rfl⟩ | ⟨rfl, rfl, rfl, rfl, rfl⟩
      all_goals
        have hX2 := hX.out
        simp at hX2
        rw [hX2] at HCk
        clear hX hX2 hcs
        go_wp2
        have hC : Below V0.heap.size V0 V0.drew := (Below.refl _ V0).drew
        go_region_held (fun w' => w'.cell? ⟨q, 0, none⟩ = some (.int .i64 7) ∧ w'.cell? ⟨q, 1, none⟩ = some (.string ⟨#[116]⟩) ∧ w'.cell? ⟨q, 2, none⟩ = some (.string nm) ∧ w'.cell? ⟨q, 3, none⟩ = some (.slice none 0 0) ∧ w'.cell? ⟨q, 4, none⟩ = some (.slice none 0 0) ∧ w'.cell? ⟨q, 5, none⟩ = some (.slice (some ⟨qe, 0, none⟩) 1 1) ∧ w'.cell? ⟨q, 6, none⟩ = some (.slice none 0 0) ∧ w'.cell? ⟨q, 7, none⟩ = some (.string ⟨#[]⟩) ∧ w'.cell? ⟨q, 8, none⟩ = some (.slice none 0 0) ∧ w'.cell? ⟨q, 9, none⟩ = some (.slice none 0 0) ∧ w'.cell? ⟨q, 10, none⟩ = some (.slice none 0 0) ∧ w'.cell? ⟨q, 11, none⟩ = some (.bool false) ∧ w'.cell? ⟨q, 12, none⟩ = some (.slice none 0 0))
          (first | exact ⟨cell_later hC z0, cell_later hC z1, cell_later hC z2, cell_later hC z3, cell_later hC z4, cell_later hC z5, cell_later hC z6, cell_later hC z7, cell_later hC z8, cell_later hC z9, cell_later hC z10, cell_later hC z11, cell_later hC z12⟩)
          (first
          | (go_at_call 17; with_reducible refine Calls.mono (HS.out _) ?_; rintro e y1 ⟨b, rfl, hT, -, hb1⟩; replace hC := Below.on hC hb1; have HT : Hid _ := hid hT; clear hT)
          | (go_at_call 15; with_reducible refine Calls.mono (HCk.out _ _ _ HT.out (HQ2.out _ hC) rfl) ?_; rintro e y2 ⟨rfl, hb2⟩; replace hC := Below.on hC hb2))
        all_goals
          go_wp2
          go_ret
          exact ⟨rfl, Below.on hw hC⟩
    | true =>
      have hb2 := bal (bal (Below.refl U1.heap.size U1) (.cells #[.int .i64 1, .int .i64 2, .int .i64 0, .string ⟨#[]⟩, .string ⟨#[]⟩, .string ⟨#[]⟩, .slice none 0 0] 28)) (.cells #[.int .i64 7, .string ⟨#[116]⟩, .string nm, .slice none 0 0, .slice none 0 0, .slice (some ⟨U1.heap.size, 0, none⟩) 1 1, .slice none 0 0, .string ⟨#[]⟩, .slice none 0 0, .slice none 0 0, .slice none 0 0, .bool false, .slice none 0 0] 43)
      have b1 := (Bk.new U1 (.cells #[.int .i64 1, .int .i64 2, .int .i64 0, .string ⟨#[]⟩, .string ⟨#[]⟩, .string ⟨#[]⟩, .slice none 0 0] 28)).later (bal (Below.refl _ _) (.cells #[.int .i64 7, .string ⟨#[116]⟩, .string nm, .slice none 0 0, .slice none 0 0, .slice (some ⟨U1.heap.size, 0, none⟩) 1 1, .slice none 0 0, .string ⟨#[]⟩, .slice none 0 0, .slice none 0 0, .slice none 0 0, .bool false, .slice none 0 0] 43))
      have b2 := Bk.new (U1.alloc (.cells #[.int .i64 1, .int .i64 2, .int .i64 0, .string ⟨#[]⟩, .string ⟨#[]⟩, .string ⟨#[]⟩, .slice none 0 0] 28)) (.cells #[.int .i64 7, .string ⟨#[116]⟩, .string nm, .slice none 0 0, .slice none 0 0, .slice (some ⟨U1.heap.size, 0, none⟩) 1 1, .slice none 0 0, .string ⟨#[]⟩, .slice none 0 0, .slice none 0 0, .slice none 0 0, .bool false, .slice none 0 0] 43)
      rw [World.size_alloc] at b2
      go_upto_region 9 with fail
      generalize ((U1.alloc (.cells #[.int .i64 1, .int .i64 2, .int .i64 0, .string ⟨#[]⟩, .string ⟨#[]⟩, .string ⟨#[]⟩, .slice none 0 0] 28)).alloc (.cells #[.int .i64 7, .string ⟨#[116]⟩, .string nm, .slice none 0 0, .slice none 0 0, .slice (some ⟨U1.heap.size, 0, none⟩) 1 1, .slice none 0 0, .string ⟨#[]⟩, .slice none 0 0, .slice none 0 0, .slice none 0 0, .bool false, .slice none 0 0] 43)) = W at *
      replace hw := Below.on hw hb2
      generalize U1.heap.size + 1 = q at *
      generalize U1.heap.size = qe at *
      clear hb2
      have z0 := b2.cell 0
      have z1 := b2.cell 1
      have z2 := b2.cell 2
      have z3 := b2.cell 3
      have z4 := b2.cell 4
      have z5 := b2.cell 5
      have z6 := b2.cell 6
      have z7 := b2.cell 7
      have z8 := b2.cell 8
      have z9 := b2.cell 9
      have z10 := b2.cell 10
      have z11 := b2.cell 11
      have z12 := b2.cell 12
      have p0 := b1.cell 0
      have p1 := b1.cell 1
      have p2 := b1.cell 2
      have p3 := b1.cell 3
      have p4 := b1.cell 4
      have p5 := b1.cell 5
      have p6 := b1.cell 6
      simp only [List.getElem?_toArray, List.getElem?_cons_zero, List.getElem?_cons_succ] at z0 z1 z2 z3 z4 z5 z6 z7 z8 z9 z10 z11 z12 p0 p1 p2 p3 p4 p5 p6
      have HQ : Hid (∀ w1, Below W.heap.size W w1 → IsQ w1 (keyM nm false true) ⟨7, ⟨#[116]⟩, nm, (none, 0, 0), (none, 0, 0), (some ⟨qe, 0, none⟩, 1, 1), (none, 0, 0), ⟨#[]⟩, (none, 0, 0), (none, 0, 0), (none, 0, 0), false, (none, 0, 0)⟩) := hid fun w1 hb =>
        ⟨rfl, rfl, rfl, rfl, row1_g (x := (litP 2 0, .nil)) ⟨cell_later hb p0, cell_later hb p1, cell_later hb p2, cell_later hb p3, cell_later hb p4, cell_later hb p5, cell_later hb p6⟩ (SlF.nil _ _), RowIs.nil _ _ _, RowIs.nil _ _ _, RowIs.nil _ _ _, RowIs.nil _ _ _⟩
      clear b1 b2 p0 p1 p2 p3 p4 p5 p6
      have hC := Below.refl W.heap.size W
      have i0 := idx_0 h0 h1
      have i1 := idx_1 h0 h1
      go_wp2_with fail
      refine Calls.mono (HN.out _) ?_
      rintro e V0 ⟨rfl, hv0⟩
      replace hC := Below.on hC hv0
      clear hv0
      go_upto_region 12 with fail
      have ek2 := ek.out
      have er2 := er.out
      have ev2 := ev.out
      clear HN ek er ev
      replace z0 := cell_later hC z0
      replace z1 := cell_later hC z1
      replace z2 := cell_later hC z2
      replace z3 := cell_later hC z3
      replace z4 := cell_later hC z4
      replace z5 := cell_later hC z5
      replace z6 := cell_later hC z6
      replace z7 := cell_later hC z7
      replace z8 := cell_later hC z8
      replace z9 := cell_later hC z9
      replace z10 := cell_later hC z10
      replace z11 := cell_later hC z11
      replace z12 := cell_later hC z12
      have HQ2 : Hid (∀ w1, Below V0.heap.size V0 w1 → _) := hid fun w1 hb => HQ.out w1 (Below.on hC hb)
      replace hw := Below.on hw hC
      clear hC HQ
      rcases hcs.out with ⟨rfl, rfl, rfl, rfl, rfl⟩ | ⟨rfl, rfl, rfl, rfl, rfl⟩ | ⟨rfl, rfl, rfl, rfl, rfl⟩ | ⟨rfl, rfl, rfl, rfl, rfl⟩ | ⟨rfl, rfl, rfl, rfl, rfl⟩
      all_goals
        have hX2 := hX.out
        simp at hX2
        rw [hX2] at HCk
        clear hX hX2 hcs
        go_wp2
        have hC : Below V0.heap.size V0 V0.drew := (Below.refl _ V0).drew
        go_region_held (fun w' => w'.cell? ⟨q, 0, none⟩ = some (.int .i64 7) ∧ w'.cell? ⟨q, 1, none⟩ = some (.string ⟨#[116]⟩) ∧ w'.cell? ⟨q, 2, none⟩ = some (.string nm) ∧ w'.cell? ⟨q, 3, none⟩ = some (.slice none 0 0) ∧ w'.cell? ⟨q, 4, none⟩ = some (.slice none 0 0) ∧ w'.cell? ⟨q, 5, none⟩ = some (.slice (some ⟨qe, 0, none⟩) 1 1) ∧ w'.cell? ⟨q, 6, none⟩ = some (.slice none 0 0) ∧ w'.cell? ⟨q, 7, none⟩ = some (.string ⟨#[]⟩) ∧ w'.cell? ⟨q, 8, none⟩ = some (.slice none 0 0) ∧ w'.cell? ⟨q, 9, none⟩ = some (.slice none 0 0) ∧ w'.cell? ⟨q, 10, none⟩ = some (.slice none 0 0) ∧ w'.cell? ⟨q, 11, none⟩ = some (.bool false) ∧ w'.cell? ⟨q, 12, none⟩ = some (.slice none 0 0))
          (first | exact ⟨cell_later hC z0, cell_later hC z1, cell_later hC z2, cell_later hC z3, cell_later hC z4, cell_later hC z5, cell_later hC z6, cell_later hC z7, cell_later hC z8, cell_later hC z9, cell_later hC z10, cell_later hC z11, cell_later hC z12⟩)
          (first
          | (go_at_call 17; with_reducible refine Calls.mono (HS.out _) ?_; rintro e y1 ⟨b, rfl, hT, -, hb1⟩; replace hC := Below.on hC hb1; have HT : Hid _ := hid hT; clear hT)
          | (go_at_call 15; with_reducible refine Calls.mono (HCk.out _ _ _ HT.out (HQ2.out _ hC) rfl) ?_; rintro e y2 ⟨rfl, hb2⟩; replace hC := Below.on hC hb2))
        all_goals
          go_wp2
          go_ret
          exact ⟨rfl, Below.on hw hC⟩
  | true =>
    cases text with
    | false =>
      have hb2 := bal (bal (Below.refl U1.heap.size U1) (.cells #[.int .i64 1, .int .i64 1, .int .i64 0, .string ⟨#[]⟩, .string ⟨#[]⟩, .string ⟨#[]⟩, .slice none 0 0] 28)) (.cells #[.int .i64 7, .string ⟨#[117]⟩, .string nm, .slice none 0 0, .slice none 0 0, .slice (some ⟨U1.heap.size, 0, none⟩) 1 1, .slice none 0 0, .string ⟨#[]⟩, .slice none 0 0, .slice none 0 0, .slice none 0 0, .bool false, .slice none 0 0] 43)
      have b1 := (Bk.new U1 (.cells #[.int .i64 1, .int .i64 1, .int .i64 0, .string ⟨#[]⟩, .string ⟨#[]⟩, .string ⟨#[]⟩, .slice none 0 0] 28)).later (bal (Below.refl _ _) (.cells #[.int .i64 7, .string ⟨#[117]⟩, .string nm, .slice none 0 0, .slice none 0 0, .slice (some ⟨U1.heap.size, 0, none⟩) 1 1, .slice none 0 0, .string ⟨#[]⟩, .slice none 0 0, .slice none 0 0, .slice none 0 0, .bool false, .slice none 0 0] 43))
      have b2 := Bk.new (U1.alloc (.cells #[.int .i64 1, .int .i64 1, .int .i64 0, .string ⟨#[]⟩, .string ⟨#[]⟩, .string ⟨#[]⟩, .slice none 0 0] 28)) (.cells #[.int .i64 7, .string ⟨#[117]⟩, .string nm, .slice none 0 0, .slice none 0 0, .slice (some ⟨U1.heap.size, 0, none⟩) 1 1, .slice none 0 0, .string ⟨#[]⟩, .slice none 0 0, .slice none 0 0, .slice none 0 0, .bool false, .slice none 0 0] 43)
      rw [World.size_alloc] at b2
      go_upto_region 9 with fail
      generalize ((U1.alloc (.cells #[.int .i64 1, .int .i64 1, .int .i64 0, .string ⟨#[]⟩, .string ⟨#[]⟩, .string ⟨#[]⟩, .slice none 0 0] 28)).alloc (.cells #[.int .i64 7, .string ⟨#[117]⟩, .string nm, .slice none 0 0, .slice none 0 0, .slice (some ⟨U1.heap.size, 0, none⟩) 1 1, .slice none 0 0, .string ⟨#[]⟩, .slice none 0 0, .slice none 0 0, .slice none 0 0, .bool false, .slice none 0 0] 43)) = W at *
      replace hw := Below.on hw hb2
      generalize U1.heap.size + 1 = q at *
      generalize U1.heap.size = qe at *
      clear hb2
      have z0 := b2.cell 0
      have z1 := b2.cell 1
      have z2 := b2.cell 2
      have z3 := b2.cell 3
      have z4 := b2.cell 4
      have z5 := b2.cell 5
      have z6 := b2.cell 6
      have z7 := b2.cell 7
      have z8 := b2.cell 8
      have z9 := b2.cell 9
      have z10 := b2.cell 10
      have z11 := b2.cell 11
      have z12 := b2.cell 12
      have p0 := b1.cell 0
      have p1 := b1.cell 1
      have p2 := b1.cell 2
      have p3 := b1.cell 3
      have p4 := b1.cell 4
      have p5 := b1.cell 5
      have p6 := b1.cell 6
      simp only [List.getElem?_toArray, List.getElem?_cons_zero, List.getElem?_cons_succ] at z0 z1 z2 z3 z4 z5 z6 z7 z8 z9 z10 z11 z12 p0 p1 p2 p3 p4 p5 p6
      have HQ : Hid (∀ w1, Below W.heap.size W w1 → IsQ w1 (keyM nm true false) ⟨7, ⟨#[117]⟩, nm, (none, 0, 0), (none, 0, 0), (some ⟨qe, 0, none⟩, 1, 1), (none, 0, 0), ⟨#[]⟩, (none, 0, 0), (none, 0, 0), (none, 0, 0), false, (none, 0, 0)⟩) := hid fun w1 hb =>
        ⟨rfl, rfl, rfl, rfl, row1_g (x := (litP 1 0, .nil)) ⟨cell_later hb p0, cell_later hb p1, cell_later hb p2, cell_later hb p3, cell_later hb p4, cell_later hb p5, cell_later hb p6⟩ (SlF.nil _ _), RowIs.nil _ _ _, RowIs.nil _ _ _, RowIs.nil _ _ _, RowIs.nil _ _ _⟩
      clear b1 b2 p0 p1 p2 p3 p4 p5 p6
      have hC := Below.refl W.heap.size W
      have i0 := idx_0 h0 h1
      have i1 := idx_1 h0 h1
      go_wp2_with fail
      refine Calls.mono (HN.out _) ?_
      rintro e V0 ⟨rfl, hv0⟩
      replace hC := Below.on hC hv0
      clear hv0
      go_wp2_with fail
      refine Calls.mono (HN.out _) ?_
      rintro e V1 ⟨rfl, hv1⟩
      replace hC := Below.on hC hv1
      clear hv1
      go_upto_region 12 with fail
      have ek2 := ek.out
      have er2 := er.out
      have ev2 := ev.out
      clear HN ek er ev
      replace z0 := cell_later hC z0
      replace z1 := cell_later hC z1
      replace z2 := cell_later hC z2
      replace z3 := cell_later hC z3
      replace z4 := cell_later hC z4
      replace z5 := cell_later hC z5
      replace z6 := cell_later hC z6
      replace z7 := cell_later hC z7
      replace z8 := cell_later hC z8
      replace z9 := cell_later hC z9
      replace z10 := cell_later hC z10
      replace z11 := cell_later hC z11
      replace z12 := cell_later hC z12
      have HQ2 : Hid (∀ w1, Below V1.heap.size V1 w1 → _) := hid fun w1 hb => HQ.out w1 (Below.on hC hb)
      replace hw := Below.on hw hC
      clear hC HQ
      rcases hcs.out with ⟨rfl, rfl, rfl, rfl, rfl⟩ | ⟨rfl, rfl, rfl, rfl, rfl⟩ | ⟨rfl, rfl, rfl, rfl, rfl⟩ | ⟨rfl, rfl, rfl, rfl, rfl⟩ | ⟨rfl, rfl, rfl, rfl, rfl⟩
      all_goals
        have hX2 := hX.out
        simp at hX2
        rw [hX2] at HCk
        clear hX hX2 hcs
        go_wp2
        have hC : Below V1.heap.size V1 V1.drew := (Below.refl _ V1).drew
        go_region_held (fun w' => w'.cell? ⟨q, 0, none⟩ = some (.int .i64 7) ∧ w'.cell? ⟨q, 1, none⟩ = some (.string ⟨#[117]⟩) ∧ w'.cell? ⟨q, 2, none⟩ = some (.string nm) ∧ w'.cell? ⟨q, 3, none⟩ = some (.slice none 0 0) ∧ w'.cell? ⟨q, 4, none⟩ = some (.slice none 0 0) ∧ w'.cell? ⟨q, 5, none⟩ = some (.slice (some ⟨qe, 0, none⟩) 1 1) ∧ w'.cell? ⟨q, 6, none⟩ = some (.slice none 0 0) ∧ w'.cell? ⟨q, 7, none⟩ = some (.string ⟨#[]⟩) ∧ w'.cell? ⟨q, 8, none⟩ = some (.slice none 0 0) ∧ w'.cell? ⟨q, 9, none⟩ = some (.slice none 0 0) ∧ w'.cell? ⟨q, 10, none⟩ = some (.slice none 0 0) ∧ w'.cell? ⟨q, 11, none⟩ = some (.bool false) ∧ w'.cell? ⟨q, 12, none⟩ = some (.slice none 0 0))
          (first | exact ⟨cell_later hC z0, cell_later hC z1, cell_later hC z2, cell_later hC z3, cell_later hC z4, cell_later hC z5, cell_later hC z6, cell_later hC z7, cell_later hC z8, cell_later hC z9, cell_later hC z10, cell_later hC z11, cell_later hC z12⟩)
          (first
          | (go_at_call 17; with_reducible refine Calls.mono (HS.out _) ?_; rintro e y1 ⟨b, rfl, hT, -, hb1⟩; replace hC := Below.on hC hb1; have HT : Hid _ := hid hT; clear hT)
          | (go_at_call 15; with_reducible refine Calls.mono (HCk.out _ _ _ HT.out (HQ2.out _ hC) rfl) ?_; rintro e y2 ⟨rfl, hb2⟩; replace hC := Below.on hC hb2))
        all_goals
          go_wp2
          go_ret
          exact ⟨rfl, Below.on hw hC⟩
    | true =>
      have hb2 := bal (bal (Below.refl U1.heap.size U1) (.cells #[.int .i64 1, .int .i64 2, .int .i64 0, .string ⟨#[]⟩, .string ⟨#[]⟩, .string ⟨#[]⟩, .slice none 0 0] 28)) (.cells #[.int .i64 7, .string ⟨#[117]⟩, .string nm, .slice none 0 0, .slice none 0 0, .slice (some ⟨U1.heap.size, 0, none⟩) 1 1, .slice none 0 0, .string ⟨#[]⟩, .slice none 0 0, .slice none 0 0, .slice none 0 0, .bool false, .slice none 0 0] 43)
      have b1 := (Bk.new U1 (.cells #[.int .i64 1, .int .i64 2, .int .i64 0, .string ⟨#[]⟩, .string ⟨#[]⟩, .string ⟨#[]⟩, .slice none 0 0] 28)).later (bal (Below.refl _ _) (.cells #[.int .i64 7, .string ⟨#[117]⟩, .string nm, .slice none 0 0, .slice none 0 0, .slice (some ⟨U1.heap.size, 0, none⟩) 1 1, .slice none 0 0, .string ⟨#[]⟩, .slice none 0 0, .slice none 0 0, .slice none 0 0, .bool false, .slice none 0 0] 43))
      have b2 := Bk.new (U1.alloc (.cells #[.int .i64 1, .int .i64 2, .int .i64 0, .string ⟨#[]⟩, .string ⟨#[]⟩, .string ⟨#[]⟩, .slice none 0 0] 28)) (.cells #[.int .i64 7, .string ⟨#[117]⟩, .string nm, .slice none 0 0, .slice none 0 0, .slice (some ⟨U1.heap.size, 0, none⟩) 1 1, .slice none 0 0, .string ⟨#[]⟩, .slice none 0 0, .slice none 0 0, .slice none 0 0, .bool false, .slice none 0 0] 43)
      rw [World.size_alloc] at b2
      go_upto_region 9 with fail
      generalize ((U1.alloc (.cells #[.int .i64 1, .int .i64 2, .int .i64 0, .string ⟨#[]⟩, .string ⟨#[]⟩, .string ⟨#[]⟩, .slice none 0 0] 28)).alloc (.cells #[.int .i64 7, .string ⟨#[117]⟩, .string nm, .slice none 0 0, .slice none 0 0, .slice (some ⟨U1.heap.size, 0, none⟩) 1 1, .slice none 0 0, .string ⟨#[]⟩, .slice none 0 0, .slice none 0 0, .slice none 0 0, .bool false, .slice none 0 0] 43)) = W at *
      replace hw := Below.on hw hb2
      generalize U1.heap.size + 1 = q at *
      generalize U1.heap.size = qe at *
      clear hb2
      have z0 := b2.cell 0
      have z1 := b2.cell 1
      have z2 := b2.cell 2
      have z3 := b2.cell 3
      have z4 := b2.cell 4
      have z5 := b2.cell 5
      have z6 := b2.cell 6
      have z7 := b2.cell 7
      have z8 := b2.cell 8
      have z9 := b2.cell 9
      have z10 := b2.cell 10
      have z11 := b2.cell 11
      have z12 := b2.cell 12
      have p0 := b1.cell 0
      have p1 := b1.cell 1
      have p2 := b1.cell 2
      have p3 := b1.cell 3
      have p4 := b1.cell 4
      have p5 := b1.cell 5
      have p6 := b1.cell 6
      simp only [List.getElem?_toArray, List.getElem?_cons_zero, List.getElem?_cons_succ] at z0 z1 z2 z3 z4 z5 z6 z7 z8 z9 z10 z11 z12 p0 p1 p2 p3 p4 p5 p6
      have HQ : Hid (∀ w1, Below W.heap.size W w1 → IsQ w1 (keyM nm true true) ⟨7, ⟨#[117]⟩, nm, (none, 0, 0), (none, 0, 0), (some ⟨qe, 0, none⟩, 1, 1), (none, 0, 0), ⟨#[]⟩, (none, 0, 0), (none, 0, 0), (none, 0, 0), false, (none, 0, 0)⟩) := hid fun w1 hb =>
        ⟨rfl, rfl, rfl, rfl, row1_g (x := (litP 2 0, .nil)) ⟨cell_later hb p0, cell_later hb p1, cell_later hb p2, cell_later hb p3, cell_later hb p4, cell_later hb p5, cell_later hb p6⟩ (SlF.nil _ _), RowIs.nil _ _ _, RowIs.nil _ _ _, RowIs.nil _ _ _, RowIs.nil _ _ _⟩
      clear b1 b2 p0 p1 p2 p3 p4 p5 p6
      have hC := Below.refl W.heap.size W
      have i0 := idx_0 h0 h1
      have i1 := idx_1 h0 h1
      go_wp2_with fail
      refine Calls.mono (HN.out _) ?_
      rintro e V0 ⟨rfl, hv0⟩
      replace hC := Below.on hC hv0
      clear hv0
      go_wp2_with fail
      refine Calls.mono (HN.out _) ?_
      rintro e V1 ⟨rfl, hv1⟩
      replace hC := Below.on hC hv1
      clear hv1
      go_upto_region 12 with fail
      have ek2 := ek.out
      have er2 := er.out
      have ev2 := ev.out
      clear HN ek er ev
      replace z0 := cell_later hC z0
      replace z1 := cell_later hC z1
      replace z2 := cell_later hC z2
      replace z3 := cell_later hC z3
      replace z4 := cell_later hC z4
      replace z5 := cell_later hC z5
      replace z6 := cell_later hC z6
      replace z7 := cell_later hC z7
      replace z8 := cell_later hC z8
      replace z9 := cell_later hC z9
      replace z10 := cell_later hC z10
      replace z11 := cell_later hC z11
      replace z12 := cell_later hC z12
      have HQ2 : Hid (∀ w1, Below V1.heap.size V1 w1 → _) := hid fun w1 hb => HQ.out w1 (Below.on hC hb)
      replace hw := Below.on hw hC
      clear hC HQ
      rcases hcs.out with ⟨rfl, rfl, rfl, rfl, rfl⟩ | ⟨rfl, rfl, rfl, rfl, rfl⟩ | ⟨rfl, rfl, rfl, rfl, rfl⟩ | ⟨rfl, rfl, rfl, rfl, rfl⟩ | ⟨rfl, rfl, rfl, rfl, rfl⟩
      all_goals
        have hX2 := hX.out
        simp at hX2
        rw [hX2] at HCk
        clear hX hX2 hcs
        go_wp2
        have hC : Below V1.heap.size V1 V1.drew := (Below.refl _ V1).drew
        go_region_held (fun w' => w'.cell? ⟨q, 0, none⟩ = some (.int .i64 7) ∧ w'.cell? ⟨q, 1, none⟩ = some (.string ⟨#[117]⟩) ∧ w'.cell? ⟨q, 2, none⟩ = some (.string nm) ∧ w'.cell? ⟨q, 3, none⟩ = some (.slice none 0 0) ∧ w'.cell? ⟨q, 4, none⟩ = some (.slice none 0 0) ∧ w'.cell? ⟨q, 5, none⟩ = some (.slice (some ⟨qe, 0, none⟩) 1 1) ∧ w'.cell? ⟨q, 6, none⟩ = some (.slice none 0 0) ∧ w'.cell? ⟨q, 7, none⟩ = some (.string ⟨#[]⟩) ∧ w'.cell? ⟨q, 8, none⟩ = some (.slice none 0 0) ∧ w'.cell? ⟨q, 9, none⟩ = some (.slice none 0 0) ∧ w'.cell? ⟨q, 10, none⟩ = some (.slice none 0 0) ∧ w'.cell? ⟨q, 11, none⟩ = some (.bool false) ∧ w'.cell? ⟨q, 12, none⟩ = some (.slice none 0 0))
          (first | exact ⟨cell_later hC z0, cell_later hC z1, cell_later hC z2, cell_later hC z3, cell_later hC z4, cell_later hC z5, cell_later hC z6, cell_later hC z7, cell_later hC z8, cell_later hC z9, cell_later hC z10, cell_later hC z11, cell_later hC z12⟩)
          (first
          | (go_at_call 17; with_reducible refine Calls.mono (HS.out _) ?_; rintro e y1 ⟨b, rfl, hT, -, hb1⟩; replace hC := Below.on hC hb1; have HT : Hid _ := hid hT; clear hT)
          | (go_at_call 15; with_reducible refine Calls.mono (HCk.out _ _ _ HT.out (HQ2.out _ hC) rfl) ?_; rintro e y2 ⟨rfl, hb2⟩; replace hC := Below.on hC hb2))
        all_goals
          go_wp2
          go_ret
          exact ⟨rfl, Below.on hw hC⟩

end Go.Proofs.YtljmlacnfnmjbaaGreat
namespace Go.Proofs.YtljmlacnfnmjbaaGreat
open Go.ChangeShapes Go.WideShapes Go.ChangeAt Go.RowKit
set_option linter.unusedVariables false

theorem own : ownKnob Tryz.prog.godebug = none := by kernel_rfl
/-- A byte that came in. -/
theorem u8_is {a : Int} (h : (Lit.int .u8 a).wf = true) : ∃ x : UInt8, a = (x.toNat : Int) := by
  have := bounds_u8 h
  refine ⟨UInt8.ofNat a.toNat, ?_⟩
  rw [UInt8.toNat_ofNat']
  omega

end Go.Proofs.YtljmlacnfnmjbaaGreat
