import Derived.Test.YtbmfehacnigknaaQnal
import Derived.Test.YtbmfehacnigknaaQnaa
import Derived.ProofKit
import Derived.OpenShut
import Derived.ShutString
import Derived.ChangeOld
import Derived.Below
import Derived.Deep.Strs
import Derived.ChangeMaps5
namespace Go.Proofs.Ytbmfehacnigknaa
open Go.RowKit
set_option linter.unusedVariables false
set_option linter.unusedSimpArgs false

/-- Two literals, one beside the other, and a way. -/
abbrev litV (v : Vt) : Pg := (1, v.1, v.2.1, v.2.2, ⟨#[]⟩, ⟨#[]⟩)
abbrev xTwo (op : Int) (a b : Vt) : Pg × Tg := ((op, nP), .node 0 0 (litV a) .nil (.node 0 0 (litV b) .nil .nil))
theorem xTwo_in (op : Int) (a b : Vt) (w1 : World) : eG.E (fun _ => True) (w1.alloc (.cells #[.int .i64 1, .int .i64 a.1, .int .i64 a.2.1, .string a.2.2, .string ⟨#[]⟩, .string ⟨#[]⟩, .slice none 0 0, .int .i64 1, .int .i64 b.1, .int .i64 b.2.1, .string b.2.2, .string ⟨#[]⟩, .string ⟨#[]⟩, .slice none 0 0] 41)) (xTwo op a b) [.int .i64 op, .int .i64 0, .int .i64 0, .string ⟨#[]⟩, .string ⟨#[]⟩, .string ⟨#[]⟩, .slice (some ⟨w1.heap.size, 0, none⟩) 2 2] := by
  have hc2 := cell_new w1 #[.int .i64 1, .int .i64 a.1, .int .i64 a.2.1, .string a.2.2, .string ⟨#[]⟩, .string ⟨#[]⟩, .slice none 0 0, .int .i64 1, .int .i64 b.1, .int .i64 b.2.1, .string b.2.2, .string ⟨#[]⟩, .string ⟨#[]⟩, .slice none 0 0] 41 (0, 0)
  exact ⟨_, _, _, rfl, slF2 (p := litV a) (q := litV b) ⟨hc2 0, hc2 1, hc2 2, hc2 3, hc2 4, hc2 5, hc2 6⟩ (SlF.nil _ _) ⟨hc2 7, hc2 8, hc2 9, hc2 10, hc2 11, hc2 12, hc2 13⟩ (SlF.nil _ _)⟩
theorem xTwo_wf {op : Int} (hop : 5 ≤ op ∧ op ≤ 15) {a b : Vt} (ha : Gd a) (hb : Gd b) : wfT (xTwo op a b) := ⟨by show (2 : Int) = partsP op; unfold partsP; rw [if_neg (by omega), if_neg (by omega), if_neg (by omega), if_neg (by omega), if_pos hop], gd_z, ⟨⟨rfl, ha, trivial⟩, ⟨rfl, hb, trivial⟩, trivial⟩⟩
theorem xTwo_kd {op : Int} (hop : 5 ≤ op ∧ op ≤ 13) (a b : Int) : ∃ k, kdT (pairP [] []) (xTwo op (1, a, ⟨#[]⟩) (1, b, ⟨#[]⟩)) = (k, 0) := by
  rcases (show op = 5 ∨ op = 6 ∨ op = 7 ∨ op = 8 ∨ op = 9 ∨ op = 10 ∨ op = 11 ∨ op = 12 ∨ op = 13 by omega) with rfl | rfl | rfl | rfl | rfl | rfl | rfl | rfl | rfl <;> exact ⟨_, rfl⟩
theorem xTwo_lf {op : Int} (hop : op ≠ 1) {a b : Vt} (ha : VF a.1 a) (hb : VF b.1 b) : lfT (xTwo op a b) := ⟨fun h => absurd h hop, ⟨fun _ => ha, trivial⟩, ⟨fun _ => hb, trivial⟩, trivial⟩
/-- Both Evals of two literals. -/
theorem evTwo_any {op : Int} (hop : 5 ≤ op ∧ op ≤ 15) {a b : Vt} (ha : Gd a) (hb : Gd b) (Q : Nat → Prop) {w : World} {cs : List Value} (hx : eG.E Q w (xTwo op a b) cs) :
    Calls Try.prog 14 #[.slice none 0 0, .slice none 0 0, .agg cs.toArray] w fun en w' => en = .returned (.tuple #[vV (evE [] [] (xTwo op a b)).1, .int .i64 (evE [] [] (xTwo op a b)).2]) ∧ Below w.heap.size w w' :=
  evalV_any (by simp) rfl (fun v hv => by simp at hv) _ (wf_ft (xTwo_wf hop ha hb)) (evT_gd (fun v hv => by simp at hv) gd_z).2 (RowIs.nil _ _ _) (RowIs.nil _ _ _) hx
theorem rfTwo_any {op : Int} (hop : 5 ≤ op ∧ op ≤ 15) {a b : Vt} (ha : Gd a) (hb : Gd b) (Q : Nat → Prop) {w : World} {cs : List Value} (hx : eG.E Q w (xTwo op a b) cs) :
    Calls Try.prog 15 #[.slice none 0 0, .slice none 0 0, .agg cs.toArray] w fun en w' => en = .returned (.tuple #[vV (rfT [] [] (xTwo op a b)).1, .int .i64 (rfT [] [] (xTwo op a b)).2]) ∧ Below w.heap.size w w' :=
  rv_any (by simp) rfl (fun v hv => by simp at hv) _ (xTwo_wf hop ha hb) Q w cs none 0 0 none 0 0 (RowIs.nil _ _ _) (RowIs.nil _ _ _) hx
theorem begun_plain : evE [] [] (xTwo 5 (1, 1, ⟨#[]⟩) (1, 1, ⟨#[]⟩)) = ((1, 2, ⟨#[]⟩), 0) := by decide +kernel
set_option maxRecDepth 100000 in
set_option maxHeartbeats 4000000 in
theorem begun11_any (w : World) : Calls Try.prog 8 #[] w fun e w' => e = .returned (.bool true) ∧ Below w.heap.size w w' := by
  have hw := bal (Below.refl w.heap.size w) (.cells #[.int .i64 1, .int .i64 1, .int .i64 1, .string ⟨#[]⟩, .string ⟨#[]⟩, .string ⟨#[]⟩, .slice none 0 0] 41)
  have bx := Bk.new w (.cells #[.int .i64 1, .int .i64 1, .int .i64 1, .string ⟨#[]⟩, .string ⟨#[]⟩, .string ⟨#[]⟩, .slice none 0 0] 41)
  have HK1 : Hid (∀ w1 : World, Calls Try.prog 14 #[.slice none 0 0, .slice none 0 0, .agg #[.int .i64 5, .int .i64 0, .int .i64 0, .string ⟨#[]⟩, .string ⟨#[]⟩, .string ⟨#[]⟩, .slice (some ⟨w1.heap.size, 0, none⟩) 2 2]] (w1.alloc (.cells #[.int .i64 1, .int .i64 1, .int .i64 1, .string ⟨#[]⟩, .string ⟨#[]⟩, .string ⟨#[]⟩, .slice none 0 0, .int .i64 1, .int .i64 1, .int .i64 1, .string ⟨#[]⟩, .string ⟨#[]⟩, .string ⟨#[]⟩, .slice none 0 0] 41)) fun en w' => en = .returned (.tuple #[vV (1, 2, ⟨#[]⟩), .int .i64 0]) ∧ Below (w1.alloc (.cells #[.int .i64 1, .int .i64 1, .int .i64 1, .string ⟨#[]⟩, .string ⟨#[]⟩, .string ⟨#[]⟩, .slice none 0 0, .int .i64 1, .int .i64 1, .int .i64 1, .string ⟨#[]⟩, .string ⟨#[]⟩, .string ⟨#[]⟩, .slice none 0 0] 41)).heap.size (w1.alloc (.cells #[.int .i64 1, .int .i64 1, .int .i64 1, .string ⟨#[]⟩, .string ⟨#[]⟩, .string ⟨#[]⟩, .slice none 0 0, .int .i64 1, .int .i64 1, .int .i64 1, .string ⟨#[]⟩, .string ⟨#[]⟩, .string ⟨#[]⟩, .slice none 0 0] 41)) w') := hid fun w1 => by
    have h := evTwo_any (op := 5) (by decide) (a := (1, 1, ⟨#[]⟩)) (b := (1, 1, ⟨#[]⟩)) ⟨by decide, by decide⟩ ⟨by decide, by decide⟩ _ (xTwo_in 5 (1, 1, ⟨#[]⟩) (1, 1, ⟨#[]⟩) w1)
    rw [begun_plain] at h
    exact h
  have HN : Hid _ := hid holdsNil_any
  go_enter Try.func8, Try.ntmps8
  go_upto_region 2 with fail
  generalize w.alloc (.cells #[.int .i64 1, .int .i64 1, .int .i64 1, .string ⟨#[]⟩, .string ⟨#[]⟩, .string ⟨#[]⟩, .slice none 0 0] 41) = W at *
  have d0 := bx.cell 0
  have d1 := bx.cell 1
  have d2 := bx.cell 2
  have d3 := bx.cell 3
  have d4 := bx.cell 4
  have d5 := bx.cell 5
  have d6 := bx.cell 6
  simp only [List.getElem?_toArray, List.getElem?_cons_zero, List.getElem?_cons_succ] at d0 d1 d2 d3 d4 d5 d6
  clear bx
  go_wp2_with fail
  refine Calls.mono (HK1.out _) ?_
  rintro e w2 ⟨rfl, hb2⟩
  have hB2 := bal (Below.on hw (Below.on (bal (Below.refl _ W) _) hb2)) (.cells #[.int .i64 1, .int .i64 2, .string ⟨#[]⟩] 38)
  have by0 := Bk.new w2 (.cells #[.int .i64 1, .int .i64 2, .string ⟨#[]⟩] 38)
  clear hb2 HK1 d0 d1 d2 d3 d4 d5 d6
  go_upto_region 3 with fail
  generalize w2.alloc (.cells #[.int .i64 1, .int .i64 2, .string ⟨#[]⟩] 38) = W2 at *
  have y0 := by0.cell 0
  have y1 := by0.cell 1
  simp only [List.getElem?_toArray, List.getElem?_cons_zero, List.getElem?_cons_succ] at y0 y1
  clear by0
  go_wp2_with fail
  refine Calls.mono (HN.out _) ?_
  rintro e w3 ⟨rfl, hb3⟩
  have hB3 := Below.on hB2 hb3
  replace y0 := cell_later hb3 y0
  replace y1 := cell_later hb3 y1
  clear HN hb3 hB2
  go_wp2
  go_ret
  exact ⟨rfl, hB3⟩

theorem runV_eq (k i : Int) (s : ByteArray) (w : World) :
    (binOp .eql 38 (.agg #[.int .i64 k, .int .i64 i, .string s]) (.agg #[.int .i64 k, .int .i64 i, .string s])).run Try.prog w = .ok (.bool true) w := by
  go_simp
theorem wrapK {K : Int} (h0 : 0 ≤ K) (h1 : K ≤ 1000) : IntKind.i64.wrap K = K := by
  show (if (true && decide (K % (2 ^ 64 : Int) ≥ (2 ^ (64 - 1) : Int))) = true then K % (2 ^ 64 : Int) - (2 ^ 64 : Int) else K % (2 ^ 64 : Int)) = _
  rw [if_neg (by simp; omega)]
  omega
set_option maxRecDepth 100000 in
set_option maxHeartbeats 8000000 in
theorem evalNumbers_any (a b : Int) (ha : Fits a) (hb : Fits b) (n : Nat) (hn : n ≤ 255) (w : World) : Calls Try.prog 4 #[.int .i64 a, .int .i64 b, .int .u8 (n : Int)] w fun e w' => e = .returned (.bool true) ∧ Below w.heap.size w w' := by
  have H0 : Hid _ := hid (begun11_any w)
  obtain ⟨K, hK⟩ : ∃ R, n % 9 = R := ⟨_, rfl⟩
  have hK9 : K < 9 := by omega
  have nt : (n : Int).tmod 9 = (K : Int) := by rw [Int.tmod_eq_emod_of_nonneg (by omega)]; omega
  have hwK : IntKind.i64.wrap (K : Int) = (K : Int) := wrapK (by omega) (by omega)
  have hwK1 : IntKind.i64.wrap (5 + (K : Int)) = 5 + (K : Int) := wrapK (by omega) (by omega)
  obtain ⟨kd, hkd⟩ := xTwo_kd (op := 5 + (K : Int)) (by omega) a b
  have hag := (ag_any (C := []) (K := []) (V := []) rfl rfl (fun i h1 => by simp at h1) _ (xTwo_lf (op := 5 + (K : Int)) (by omega) (a := (1, a, ⟨#[]⟩)) (b := (1, b, ⟨#[]⟩)) (VF.num a) (VF.num b))) kd hkd
  have h1 := fun Q w cs (hx : eG.E Q w (xTwo (5 + (K : Int)) (1, a, ⟨#[]⟩) (1, b, ⟨#[]⟩)) cs) => evTwo_any (op := 5 + (K : Int)) (by omega) (a := (1, a, ⟨#[]⟩)) (b := (1, b, ⟨#[]⟩)) ⟨ha, Nat.zero_le 500⟩ ⟨hb, Nat.zero_le 500⟩ Q hx
  have h2 := fun Q w cs (hx : eG.E Q w (xTwo (5 + (K : Int)) (1, a, ⟨#[]⟩) (1, b, ⟨#[]⟩)) cs) => rfTwo_any (op := 5 + (K : Int)) (by omega) (a := (1, a, ⟨#[]⟩)) (b := (1, b, ⟨#[]⟩)) ⟨ha, Nat.zero_le 500⟩ ⟨hb, Nat.zero_le 500⟩ Q hx
  rw [evE_nz, hag.1] at h1
  have hIn := fun w1 => xTwo_in (5 + (K : Int)) (1, a, ⟨#[]⟩) (1, b, ⟨#[]⟩) w1
  have HI : Hid _ := hid hIn
  generalize rfT [] [] (xTwo (5 + (K : Int)) (1, a, ⟨#[]⟩) (1, b, ⟨#[]⟩)) = R at *
  have H1 : Hid _ := hid h1
  have H2 : Hid _ := hid h2
  have hrq := fun w => runV_eq R.1.1 R.1.2.1 R.1.2.2 w
  clear hag hkd h1 h2 hIn ha hb
  go_enter Try.func4, Try.ntmps4
  go_wp2_with fail
  refine Calls.mono H0.out ?_
  rintro e w1 ⟨rfl, hb1⟩
  clear H0
  go_upto_region 4 with fail
  have bX : Bk ((w1.alloc (.cells #[.int .i64 1, .int .i64 1, .int .i64 a, .string ⟨#[]⟩, .string ⟨#[]⟩, .string ⟨#[]⟩, .slice none 0 0] 41)).alloc (.cells #[.int .i64 1, .int .i64 1, .int .i64 b, .string ⟨#[]⟩, .string ⟨#[]⟩, .string ⟨#[]⟩, .slice none 0 0] 41)) w1.heap.size (.cells #[.int .i64 1, .int .i64 1, .int .i64 a, .string ⟨#[]⟩, .string ⟨#[]⟩, .string ⟨#[]⟩, .slice none 0 0] 41) := (Bk.new w1 _).later (bal (Below.refl _ _) _)
  have bY : Bk ((w1.alloc (.cells #[.int .i64 1, .int .i64 1, .int .i64 a, .string ⟨#[]⟩, .string ⟨#[]⟩, .string ⟨#[]⟩, .slice none 0 0] 41)).alloc (.cells #[.int .i64 1, .int .i64 1, .int .i64 b, .string ⟨#[]⟩, .string ⟨#[]⟩, .string ⟨#[]⟩, .slice none 0 0] 41)) (w1.heap.size + 1) (.cells #[.int .i64 1, .int .i64 1, .int .i64 b, .string ⟨#[]⟩, .string ⟨#[]⟩, .string ⟨#[]⟩, .slice none 0 0] 41) := by
    have := Bk.new (w1.alloc (.cells #[.int .i64 1, .int .i64 1, .int .i64 a, .string ⟨#[]⟩, .string ⟨#[]⟩, .string ⟨#[]⟩, .slice none 0 0] 41)) (.cells #[.int .i64 1, .int .i64 1, .int .i64 b, .string ⟨#[]⟩, .string ⟨#[]⟩, .string ⟨#[]⟩, .slice none 0 0] 41)
    rwa [World.size_alloc] at this
  have hBU := bal (bal hb1 (.cells #[.int .i64 1, .int .i64 1, .int .i64 a, .string ⟨#[]⟩, .string ⟨#[]⟩, .string ⟨#[]⟩, .slice none 0 0] 41)) (.cells #[.int .i64 1, .int .i64 1, .int .i64 b, .string ⟨#[]⟩, .string ⟨#[]⟩, .string ⟨#[]⟩, .slice none 0 0] 41)
  generalize (w1.alloc (.cells #[.int .i64 1, .int .i64 1, .int .i64 a, .string ⟨#[]⟩, .string ⟨#[]⟩, .string ⟨#[]⟩, .slice none 0 0] 41)).alloc (.cells #[.int .i64 1, .int .i64 1, .int .i64 b, .string ⟨#[]⟩, .string ⟨#[]⟩, .string ⟨#[]⟩, .slice none 0 0] 41) = U at *
  have x0 := bX.cell 0
  have x1 := bX.cell 1
  have x2 := bX.cell 2
  have x3 := bX.cell 3
  have x4 := bX.cell 4
  have x5 := bX.cell 5
  have x6 := bX.cell 6
  have y0 := bY.cell 0
  have y1 := bY.cell 1
  have y2 := bY.cell 2
  have y3 := bY.cell 3
  have y4 := bY.cell 4
  have y5 := bY.cell 5
  have y6 := bY.cell 6
  simp only [List.getElem?_toArray, List.getElem?_cons_zero, List.getElem?_cons_succ] at x0 x1 x2 x3 x4 x5 x6 y0 y1 y2 y3 y4 y5 y6
  clear bX bY
  have hE := HI.out U
  have hB2 := bal (bal hBU (.cells #[.int .i64 1, .int .i64 1, .int .i64 a, .string ⟨#[]⟩, .string ⟨#[]⟩, .string ⟨#[]⟩, .slice none 0 0, .int .i64 1, .int .i64 1, .int .i64 b, .string ⟨#[]⟩, .string ⟨#[]⟩, .string ⟨#[]⟩, .slice none 0 0] 41)) (.cells #[.int .i64 (5 + (K : Int)), .int .i64 0, .int .i64 0, .string ⟨#[]⟩, .string ⟨#[]⟩, .string ⟨#[]⟩, .slice (some ⟨U.heap.size, 0, none⟩) 2 2] 41)
  replace hE := eG.keep (fun b _ hl => (bal (Below.refl _ _) (.cells #[.int .i64 (5 + (K : Int)), .int .i64 0, .int .i64 0, .string ⟨#[]⟩, .string ⟨#[]⟩, .string ⟨#[]⟩, .slice (some ⟨U.heap.size, 0, none⟩) 2 2] 41)).block b hl) hE
  have bZ : Bk ((U.alloc (.cells #[.int .i64 1, .int .i64 1, .int .i64 a, .string ⟨#[]⟩, .string ⟨#[]⟩, .string ⟨#[]⟩, .slice none 0 0, .int .i64 1, .int .i64 1, .int .i64 b, .string ⟨#[]⟩, .string ⟨#[]⟩, .string ⟨#[]⟩, .slice none 0 0] 41)).alloc (.cells #[.int .i64 (5 + (K : Int)), .int .i64 0, .int .i64 0, .string ⟨#[]⟩, .string ⟨#[]⟩, .string ⟨#[]⟩, .slice (some ⟨U.heap.size, 0, none⟩) 2 2] 41)) (U.heap.size + 1) (.cells #[.int .i64 (5 + (K : Int)), .int .i64 0, .int .i64 0, .string ⟨#[]⟩, .string ⟨#[]⟩, .string ⟨#[]⟩, .slice (some ⟨U.heap.size, 0, none⟩) 2 2] 41) := by
    have := Bk.new (U.alloc (.cells #[.int .i64 1, .int .i64 1, .int .i64 a, .string ⟨#[]⟩, .string ⟨#[]⟩, .string ⟨#[]⟩, .slice none 0 0, .int .i64 1, .int .i64 1, .int .i64 b, .string ⟨#[]⟩, .string ⟨#[]⟩, .string ⟨#[]⟩, .slice none 0 0] 41)) (.cells #[.int .i64 (5 + (K : Int)), .int .i64 0, .int .i64 0, .string ⟨#[]⟩, .string ⟨#[]⟩, .string ⟨#[]⟩, .slice (some ⟨U.heap.size, 0, none⟩) 2 2] 41)
    rwa [World.size_alloc] at this
  have HE1 := fun Q cs hx => H1.out Q ((U.alloc (.cells #[.int .i64 1, .int .i64 1, .int .i64 a, .string ⟨#[]⟩, .string ⟨#[]⟩, .string ⟨#[]⟩, .slice none 0 0, .int .i64 1, .int .i64 1, .int .i64 b, .string ⟨#[]⟩, .string ⟨#[]⟩, .string ⟨#[]⟩, .slice none 0 0] 41)).alloc (.cells #[.int .i64 (5 + (K : Int)), .int .i64 0, .int .i64 0, .string ⟨#[]⟩, .string ⟨#[]⟩, .string ⟨#[]⟩, .slice (some ⟨U.heap.size, 0, none⟩) 2 2] 41)) cs hx
  go_upto_region 5 with fail
  generalize (U.alloc (.cells #[.int .i64 1, .int .i64 1, .int .i64 a, .string ⟨#[]⟩, .string ⟨#[]⟩, .string ⟨#[]⟩, .slice none 0 0, .int .i64 1, .int .i64 1, .int .i64 b, .string ⟨#[]⟩, .string ⟨#[]⟩, .string ⟨#[]⟩, .slice none 0 0] 41)).alloc (.cells #[.int .i64 (5 + (K : Int)), .int .i64 0, .int .i64 0, .string ⟨#[]⟩, .string ⟨#[]⟩, .string ⟨#[]⟩, .slice (some ⟨U.heap.size, 0, none⟩) 2 2] 41) = Z at *
  have z0 := bZ.cell 0
  have z1 := bZ.cell 1
  have z2 := bZ.cell 2
  have z3 := bZ.cell 3
  have z4 := bZ.cell 4
  have z5 := bZ.cell 5
  have z6 := bZ.cell 6
  simp only [List.getElem?_toArray, List.getElem?_cons_zero, List.getElem?_cons_succ] at z0 z1 z2 z3 z4 z5 z6
  have HC1 : Hid _ := hid (H1.out _ Z _ hE)
  have HE : Hid _ := hid hE
  clear bZ HE1 HI hE x0 x1 x2 x3 x4 x5 x6 y0 y1 y2 y3 y4 y5 y6 hBU H1
  go_wp2_with fail
  refine Calls.mono HC1.out ?_
  rintro e w3 ⟨rfl, hb3⟩
  have hb4 := bal hb3 (.cells #[.int .i64 R.1.1, .int .i64 R.1.2.1, .string R.1.2.2] 38)
  have bA := Bk.new w3 (.cells #[.int .i64 R.1.1, .int .i64 R.1.2.1, .string R.1.2.2] 38)
  go_upto_region 6 with fail
  generalize w3.alloc (.cells #[.int .i64 R.1.1, .int .i64 R.1.2.1, .string R.1.2.2] 38) = Z2 at *
  have HC2 : Hid _ := hid (H2.out _ Z2 _ (eG.keep (fun b _ hl => hb4.block b hl) HE.out))
  have hB4 := Below.on hB2 hb4
  replace z0 := cell_later hb4 z0
  replace z1 := cell_later hb4 z1
  replace z2 := cell_later hb4 z2
  replace z3 := cell_later hb4 z3
  replace z4 := cell_later hb4 z4
  replace z5 := cell_later hb4 z5
  replace z6 := cell_later hb4 z6
  generalize w3.heap.size = qa at *
  clear HC1 HE H2 hb3 hb4 hB2
  go_wp2_with fail
  refine Calls.mono HC2.out ?_
  rintro e w5 ⟨rfl, hb5⟩
  have hB6 := bal (Below.on hB4 hb5) (.cells #[.int .i64 R.1.1, .int .i64 R.1.2.1, .string R.1.2.2] 38)
  have bA2 := (bA.later hb5).later (bal (Below.refl _ _) (.cells #[.int .i64 R.1.1, .int .i64 R.1.2.1, .string R.1.2.2] 38))
  have bC := Bk.new w5 (.cells #[.int .i64 R.1.1, .int .i64 R.1.2.1, .string R.1.2.2] 38)
  go_upto_region 7 with fail
  generalize w5.alloc (.cells #[.int .i64 R.1.1, .int .i64 R.1.2.1, .string R.1.2.2] 38) = Z3 at *
  have a0 := bA2.cell 0
  have a1 := bA2.cell 1
  have a2 := bA2.cell 2
  have b0 := bC.cell 0
  have b1 := bC.cell 1
  have b2 := bC.cell 2
  simp only [List.getElem?_toArray, List.getElem?_cons_zero, List.getElem?_cons_succ] at a0 a1 a2 b0 b1 b2
  clear HC2 bA bA2 bC hb5 hB4 z0 z1 z2 z3 z4 z5 z6
  go_wp2
  go_ret
  exact ⟨by first | rfl | simp, hB6⟩

end Go.Proofs.Ytbmfehacnigknaa
namespace Go.Proofs.Ytbmfehacnigknaa
open Go.ChangeShapes Go.WideShapes Go.ChangeAt Go.RowKit
set_option linter.unusedVariables false

theorem own : ownKnob Try.prog.godebug = none := by kernel_rfl
/-- A byte that came in. -/
theorem u8_is {a : Int} (h : (Lit.int .u8 a).wf = true) : ∃ x : UInt8, a = (x.toNat : Int) := by
  have := bounds_u8 h
  refine ⟨UInt8.ofNat a.toNat, ?_⟩
  rw [UInt8.toNat_ofNat']
  omega

end Go.Proofs.Ytbmfehacnigknaa
