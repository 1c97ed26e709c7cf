import Derived.Test.YtnlaaejdianfjaaGreatQwaq
import Derived.BigQuiet
import Derived.Test.YtnlaaejdianfjaaGreatQwac
import Derived.Test.YtnlaaejdianfjaaGreatQwam
import Derived.Test.YtnlaaejdianfjaaGreatQwap
import Derived.Shelf.Abstract
import Derived.OwnWalkIn
import Derived.TacticsInMore
import Derived.LoopNIn
import Derived.LoopIn
namespace Go.Proofs.YtnlaaejdianfjaaGreat
open Go.RowKit
set_option linter.unusedVariables false
set_option linter.unusedSimpArgs false

abbrev Zt := Sl × List Vt
theorem wrapN {k : Nat} (h : k < 9223372036854775808) : IntKind.i64.wrap (k : Int) = (k : Int) := by
  show (if (true && decide (((k : Int)) % (2 ^ 64 : Int) ≥ (2 ^ (64 - 1) : Int))) = true then ((k : Int)) % (2 ^ 64 : Int) - (2 ^ 64 : Int) else ((k : Int)) % (2 ^ 64 : Int)) = _
  rw [if_neg (by simp; omega)]
  omega
/-- All of these are of those. -/
def SubZ (Z' Z : List Zt) : Prop := ∀ z ∈ Z', z ∈ Z
/-- A block that holds the rows. -/
def RowG (w : World) (g : Nat) (Z : List Zt) : Prop := ∀ i z, Z[i]? = some z → w.cell? ⟨g, i, none⟩ = some (slV z.1) ∧ w.frozen? ⟨g, i, none⟩ = false
theorem frozen_later {w w' : World} (hb : Below w.heap.size w w') {a : Addr} {v : Value} (hc : w.cell? a = some v) (h : w.frozen? a = false) : w'.frozen? a = false :=
  (hb.frozen (World.block_lt_of_cell? _ _ hc)).trans h
theorem RowG.later {w w' : World} {g : Nat} {Z : List Zt} (h : RowG w g Z) (hb : Below w.heap.size w w') : RowG w' g Z := fun i z hi => ⟨cell_later hb (h i z hi).1, frozen_later hb (h i z hi).1 (h i z hi).2⟩
/-- x among the others. -/
def stZ {α : Type} (P : List α) (x : α) (R : List α) (j : Nat) : List α := P.take j ++ x :: (P.drop j ++ R)
theorem stZ_lt {α : Type} {P : List α} {x : α} {R : List α} {j i : Nat} (hj : j ≤ P.length) (hi : i < j) : (stZ P x R j)[i]? = P[i]? := by
  unfold stZ
  rw [List.getElem?_append_left (by rw [List.length_take]; omega), List.getElem?_take_of_lt hi]
theorem stZ_at {α : Type} {P : List α} {x : α} {R : List α} {j : Nat} (hj : j ≤ P.length) : (stZ P x R j)[j]? = some x := by
  unfold stZ
  rw [List.getElem?_append_right (by rw [List.length_take]; omega), List.length_take, Nat.min_eq_left hj, Nat.sub_self]
  rfl
theorem stZ_gt {α : Type} {P : List α} {x : α} {R : List α} {j i : Nat} (hj : j ≤ P.length) (hi : j < i) : (stZ P x R j)[i]? = (P ++ R)[i - 1]? := by
  unfold stZ
  rw [List.getElem?_append_right (by rw [List.length_take]; omega), List.length_take, Nat.min_eq_left hj, show i - j = (i - 1 - j) + 1 from by omega, List.getElem?_cons_succ]
  by_cases h : i - 1 < P.length
  · rw [List.getElem?_append_left (by rw [List.length_drop]; omega), List.getElem?_append_left h, List.getElem?_drop, show j + (i - 1 - j) = i - 1 from by omega]
  · rw [List.getElem?_append_right (by rw [List.length_drop]; omega), List.getElem?_append_right (by omega), List.length_drop, show i - 1 - j - (P.length - j) = i - 1 - P.length from by omega]
theorem RowG.swap {w : World} {g : Nat} {P : List Zt} {x : Zt} {R : List Zt} {q : Nat} (hq : q < P.length) (h : RowG w g (stZ P x R (q + 1))) : RowG ((w.setCell ⟨g, q + 1, none⟩ (slV P[q].1)).setCell ⟨g, q, none⟩ (slV x.1)) g (stZ P x R q) := by
  have h1 := h (q + 1) x (stZ_at (by omega))
  have h0 := h q P[q] (by rw [stZ_lt (by omega) (by omega)]; exact List.getElem?_eq_getElem hq)
  have n1 : (⟨g, q + 1, none⟩ : Addr) ≠ ⟨g, q, none⟩ := fun e => by injection e; omega
  intro i z hi
  rw [World.frozen?_setCell, World.frozen?_setCell]
  rcases Nat.lt_trichotomy i q with hl | rfl | hl
  · rw [stZ_lt (by omega) hl] at hi
    have := h i z (by rw [stZ_lt (by omega) (by omega)]; exact hi)
    rw [World.cell?_setCell_other _ _ _ _ (fun e => by injection e; omega), World.cell?_setCell_other _ _ _ _ (fun e => by injection e; omega)]
    exact this
  · rw [stZ_at (by omega)] at hi
    cases hi
    exact ⟨World.cell?_setCell_same _ _ _ (by rw [World.cell?_setCell_other _ _ _ _ n1]; exact h0.1), h0.2⟩
  · rw [stZ_gt (by omega) hl] at hi
    by_cases h2 : i = q + 1
    · subst h2
      rw [Nat.add_sub_cancel, List.getElem?_append_left hq, List.getElem?_eq_getElem hq] at hi
      cases hi
      rw [World.cell?_setCell_other _ _ _ _ (Ne.symm n1)]
      exact ⟨World.cell?_setCell_same _ _ _ h1.1, h1.2⟩
    · have := h i z (by rw [stZ_gt (by omega) (by omega)]; exact hi)
      rw [World.cell?_setCell_other _ _ _ _ (fun e => by injection e; omega), World.cell?_setCell_other _ _ _ _ (fun e => by injection e; omega)]
      exact this
theorem RowG.drewN {w : World} {g : Nat} {Z : List Zt} (h : RowG w g Z) (m : Nat) : RowG (w.drewN m) g Z := h
theorem below_drewN {n : Nat} {a w : World} (h : Below n a w) (m : Nat) : Below n a (w.drewN m) := ⟨h.os, h.tape, h.output, h.size, h.block⟩
theorem swap_bel {n : Nat} {a z : World} {g : Nat} (h : Below n a z) (hg : n ≤ g) (hz : g < z.heap.size) (i j : Nat) (u v : Value) (m : Nat) : Below n a (((z.drewN m).setCell ⟨g, i, none⟩ u).setCell ⟨g, j, none⟩ v) ∧ g < (((z.drewN m).setCell ⟨g, i, none⟩ u).setCell ⟨g, j, none⟩ v).heap.size :=
  ⟨((below_drewN h m).setCell (p := ⟨g, i, none⟩) hg u).setCell (p := ⟨g, j, none⟩) hg v, by simp only [World.setCell, Array.size_modify]; exact hz⟩
set_option maxRecDepth 100000 in
set_option maxHeartbeats 4000000 in
theorem insR_any {w0 : World} {g n cap bn : Nat} {ds : Bool} {fv : Value} (hf : CmpR w0 fv bn ds) (hg : w0.heap.size ≤ g) {Z : List Zt} (hn : Z.length = n) (hm : n ≤ 500) (hr : ∀ z ∈ Z, RowIs eVal (fun _ => True) w0 (slV z.1) z.2 ∧ bn < z.2.length)
    {w : World} (hb : Below w0.heap.size w0 w) (hG : RowG w g Z) (hgl : g < w.heap.size) :
    Calls Tryz.prog 144 #[.slice (some ⟨g, 0, none⟩) n cap, .int .i64 0, .int .i64 (n : Int), fv] w fun e w' => e = .returned (.tuple #[]) ∧ Below w0.heap.size w0 w' ∧ ∃ Z' : List Zt, RowG w' g Z' ∧ Z'.length = n ∧ Z'.map (·.2) = (Z.map (·.2)).foldl (insP bn ds) [] ∧ SubZ Z' Z := by
  obtain ⟨N, caps, rfl, hcf, hN⟩ := hf
  have HN : Hid (∀ (x y : List Vt) (a : Option Addr) (n c : Nat) (a2 : Option Addr) (n2 c2 : Nat) (Q : Nat → Prop) (w' : World), Below w0.heap.size w0 w' → _) := hid hN
  have HR : Hid _ := hid hr
  have HG : Hid _ := hid hG
  have HL : Hid _ := hid hn
  clear hN hr hG hn
  by_cases h0 : n = 0
  · subst h0
    have hz : Z = [] := List.eq_nil_of_length_eq_zero HL.out
    have HZ : Hid (RowG w g [] ∧ ([] : List Zt).length = 0 ∧ ([] : List Zt).map (·.2) = (Z.map (·.2)).foldl (insP bn ds) [] ∧ SubZ [] Z) := hid (by subst hz; exact ⟨HG.out, rfl, rfl, fun z h => h⟩)
    clear HG HL hz
    go_enter Tryz.func144, Tryz.ntmps144
    go_wp2
    go_loopw [8] (fun v8 wr => v8 = .int .i64 1 ∧ wr = w) (fun _ _ => 0)
    case atStart => exact ⟨by first | rfl | go_num, rfl⟩
    case round =>
      obtain ⟨rfl, rfl⟩ := hrel
      go_wp2
      go_end0
      exact ⟨rfl, hb, [], HZ.out⟩
  · have h1 : 1 ≤ n := by omega
    have HG0 : Hid (∃ P : List Zt, P.length = 1 ∧ RowG w g (P ++ Z.drop 1) ∧ P.map (·.2) = ((Z.take 1).map (·.2)).foldl (insP bn ds) [] ∧ ∀ z ∈ P, z ∈ Z) := hid ⟨Z.take 1, by rw [List.length_take, HL.out]; omega, by rw [List.take_append_drop]; exact HG.out, by
      cases Z with
      | nil => rfl
      | cons a Z => rfl, fun z h => List.mem_of_mem_take h⟩
    clear HG
    go_enter Tryz.func144, Tryz.ntmps144
    go_wp2
    go_loopw [8] (fun v8 wr => ∃ k : Nat, 1 ≤ k ∧ k ≤ n ∧ v8 = .int .i64 k ∧ Below w0.heap.size w0 wr ∧ g < wr.heap.size ∧ Hid (∃ P : List Zt, P.length = k ∧ RowG wr g (P ++ Z.drop k) ∧ P.map (·.2) = ((Z.take k).map (·.2)).foldl (insP bn ds) [] ∧ ∀ z ∈ P, z ∈ Z)) (fun i _ => n - (intOf i).toNat)
    case atStart => exact ⟨1, Nat.le_refl _, h1, by first | rfl | go_num, hb, hgl, HG0⟩
    case round =>
      obtain ⟨k, hk1, hkn, rfl, hB, hgk, HK⟩ := hrel
      generalize wr = wo at *
      clear HG0 hb hgl
      by_cases hlt : k < n
      · obtain ⟨P, hP, hGk, hPm, hPZ⟩ := HK.out
        have hkZ : k < Z.length := by rw [HL.out]; exact hlt
        obtain ⟨x, hx⟩ : ∃ x, Z[k] = x := ⟨_, rfl⟩
        obtain ⟨R, hR⟩ : ∃ R, Z.drop (k + 1) = R := ⟨_, rfl⟩
        have hxZ : x ∈ Z := hx ▸ List.getElem_mem _
        have hd : Z.drop k = x :: R := by rw [List.drop_eq_getElem_cons hkZ, hx, hR]
        have ht : Z.take (k + 1) = Z.take k ++ [x] := by rw [List.take_succ_eq_append_getElem hkZ, hx]
        obtain ⟨K, hK⟩ : ∃ K, plcP (behP bn ds x.2) (P.map (·.2)) k = K := ⟨_, rfl⟩
        have HS0 : Hid (RowG wo g (stZ P x R k)) := hid (by
          have e : stZ P x R k = P ++ Z.drop k := by rw [stZ, List.take_of_length_le (by omega), List.drop_eq_nil_of_le (by omega), hd]; rfl
          rw [e]; exact hGk)
        have HKn : Hid (K ≤ k → RowG wo g (stZ P x R k) → True) := hid fun _ _ => trivial
        have HEnd : Hid (∀ wz, K ≤ k → RowG wz g (stZ P x R K) → ∃ P' : List Zt, P'.length = k + 1 ∧ RowG wz g (P' ++ Z.drop (k + 1)) ∧ P'.map (·.2) = ((Z.take (k + 1)).map (·.2)).foldl (insP bn ds) [] ∧ ∀ z ∈ P', z ∈ Z) := hid fun wz hKk hG => by
          refine ⟨P.take K ++ x :: P.drop K, ?_, ?_, ?_, ?_⟩
          · rw [List.length_append, List.length_cons, List.length_take, List.length_drop]; omega
          · rw [hR, List.append_assoc, List.cons_append]; exact hG
          · rw [ht, List.map_append, List.map_append, List.foldl_append, ← hPm, List.map_cons, List.map_take, List.map_drop]
            show _ = insP bn ds (P.map (·.2)) x.2
            unfold insP
            rw [List.length_map, hP, hK]
          · intro z hz
            rcases List.mem_append.1 hz with h | h
            · exact hPZ z (List.mem_of_mem_take h)
            · rcases List.mem_cons.1 h with rfl | h
              · exact hxZ
              · exact hPZ z (List.mem_of_mem_drop h)
        have HKK : Hid (plcP (behP bn ds x.2) (P.map (·.2)) k = K) := hid hK
        have HPP : Hid (P.length = k ∧ (∀ z ∈ P, z ∈ Z) ∧ x ∈ Z) := hid ⟨hP, hPZ, hxZ⟩
        clear HK hP hGk hPm hPZ hkZ hx hR hxZ hd ht hK HKn
        go_wp2
        go_loopw [9] (fun v9 wr => ∃ j : Nat, j ≤ k ∧ v9 = .int .i64 j ∧ Below w0.heap.size w0 wr ∧ g < wr.heap.size ∧ Hid (RowG wr g (stZ P x R j)) ∧ Hid (plcP (behP bn ds x.2) (P.map (·.2)) j = K)) (fun j _ => (intOf j).toNat)
        case atStart => exact ⟨k, Nat.le_refl _, rfl, hB, hgk, HS0, HKK⟩
        case round =>
          obtain ⟨j, hjk, rfl, hZ, hgz, HS, HJ⟩ := hrel
          clear HS0 HKK hB hgk
          by_cases hj0 : 0 < j
          · obtain ⟨q, rfl⟩ : ∃ q, j = q + 1 := ⟨j - 1, by omega⟩
            have hqP : q < P.length := by rw [HPP.out.1]; omega
            obtain ⟨y, hy⟩ : ∃ y, P[q] = y := ⟨_, rfl⟩
            have hyZ : y ∈ Z := HPP.out.2.1 y (hy ▸ List.getElem_mem _)
            obtain ⟨c1, f1⟩ := HS.out (q + 1) x (stZ_at (by omega))
            obtain ⟨c0, f0⟩ := HS.out q y (by rw [stZ_lt (by omega) (by omega), List.getElem?_eq_getElem hqP, hy])
            have HX : Hid (∀ w', Below wr.heap.size wr w' → _) := hid fun w' hb => HN.out x.2 y.2 x.1.1 x.1.2.1 x.1.2.2 y.1.1 y.1.2.1 y.1.2.2 (fun _ => True) w' (hZ.trans (hb.mono hZ.size)) (HR.out x HPP.out.2.2).2 (HR.out y hyZ).2
              ((HR.out x HPP.out.2.2).1.keep (by decide) fun b _ hl => ((hZ.trans (hb.mono hZ.size))).block b hl) ((HR.out y hyZ).1.keep (by decide) fun b _ hl => ((hZ.trans (hb.mono hZ.size))).block b hl)
            have HSw : Hid (∀ W m, RowG W g (stZ P x R (q + 1)) → RowG (((W.drewN m).setCell ⟨g, q + 1, none⟩ (slV y.1)).setCell ⟨g, q, none⟩ (slV x.1)) g (stZ P x R q)) := hid fun W m h => by
              have := (h.drewN m).swap hqP
              rw [hy] at this
              exact this
            have hpl : plcP (behP bn ds x.2) (P.map (·.2)) (q + 1) = if behP bn ds x.2 y.2 then q + 1 else plcP (behP bn ds x.2) (P.map (·.2)) q := by
              rw [plcP, List.getD_eq_getElem?_getD, List.getElem?_map, List.getElem?_eq_getElem hqP, hy]; rfl
            rw [HJ.out, cZ_beh] at hpl
            have g1 : decide ((0 : Int) < (q : Int) + 1) = true := by rw [decide_eq_true_eq]; omega
            have i1 : (q : Int) + 1 < (n : Int) := by omega
            have i0 : (q : Int) < (n : Int) := by omega
            have hwq : IntKind.i64.wrap (q : Int) = (q : Int) := wrapN (by omega)
            have hwq1 : IntKind.i64.wrap ((q : Int) + 1 - 1) = (q : Int) := by rw [show (q : Int) + 1 - 1 = q from by omega]; exact hwq
            obtain ⟨c, hc⟩ : ∃ c, cZ bn ds x.2 y.2 = c := ⟨_, rfl⟩
            simp only [hc] at HX
            rw [hc] at hpl
            clear hc
            obtain ⟨⟨xa, xn, xc⟩, xr⟩ := x
            obtain ⟨⟨ya, yn, yc⟩, yr⟩ := y
            simp only [slV] at *
            have hC : Below wr.heap.size wr wr.drew := (Below.refl _ wr).drew
            have HHS : Hid _ := HS
            by_cases hc0 : c < 0
            · have e1 : decide (c < 0) = true := by simpa using hc0
              rw [e1] at hpl
              have HJ2 : Hid (plcP (behP bn ds xr) (P.map (·.2)) q = K) := hid (by rw [hpl]; rfl)
              clear hpl HJ hy hyZ HS
              go_wp2
              go_region_held (fun w' => w'.cell? ⟨g, q + 1, none⟩ = some (.slice xa xn xc) ∧ w'.cell? ⟨g, q, none⟩ = some (.slice ya yn yc)) (exact ⟨cell_later hC c1, cell_later hC c0⟩)
                (first | (with_reducible refine Calls.mono (HX.out _ hC) ?_; rintro e z1 ⟨rfl, hb1⟩; replace hC := Below.on hC hb1))
              all_goals
                have b1 := cell_later hC c1
                have b0 := cell_later hC c0
                have h1 := frozen_later hC c1 f1
                have h0 := frozen_later hC c0 f0
                have hZC := hZ.trans (hC.mono hZ.size)
                have hgc := Nat.lt_of_lt_of_le hgz hC.size
                have HS2 : Hid (∀ m, _) := hid fun m => HSw.out _ m (HHS.out.later hC)
                have HB2 : Hid _ := hid (swap_bel hZC hg hgc (q + 1) q (.slice ya yn yc) (.slice xa xn xc))
                clear c1 c0 f1 f0 hC HHS HSw HX hZC
                go_wp2
                go_region
                all_goals
                  go_wp2
                  go_roundw
                  case rel => exact ⟨q, by omega, by go_num, by first | exact (HB2.out 1).1 | exact (HB2.out _).1, by first | exact (HB2.out 1).2 | exact (HB2.out _).2, by first | exact hid (HS2.out 1) | exact hid (HS2.out _), HJ2⟩
                  case measure => simp only [intOf]; omega
            · have e1 : decide (c < 0) = false := by simpa using hc0
              rw [e1] at hpl
              have HJ2 : Hid (K = q + 1) := hid (by rw [hpl]; rfl)
              clear hpl HJ hy hyZ HS
              go_wp2
              go_region_held (fun w' => w'.cell? ⟨g, q + 1, none⟩ = some (.slice xa xn xc) ∧ w'.cell? ⟨g, q, none⟩ = some (.slice ya yn yc)) (exact ⟨cell_later hC c1, cell_later hC c0⟩)
                (first | (with_reducible refine Calls.mono (HX.out _ hC) ?_; rintro e z1 ⟨rfl, hb1⟩; replace hC := Below.on hC hb1))
              all_goals
                have hZC := hZ.trans (hC.mono hZ.size)
                have hgc := Nat.lt_of_lt_of_le hgz hC.size
                have HS2 : Hid _ := hid (HEnd.out _ (by rw [HJ2.out]; omega) (by rw [HJ2.out]; exact HHS.out.later hC))
                clear c1 c0 f1 f0 hC HHS HSw HX
                go_wp2
                go_roundw
                case rel => exact ⟨k + 1, by omega, by omega, by go_num, hZC, hgc, HS2⟩
                case measure => simp only [intOf]; omega
          · obtain rfl : j = 0 := by omega
            have HK0 : Hid (K = 0) := hid (by rw [← HJ.out]; rfl)
            have g1 : decide ((0 : Int) < (0 : Int)) = false := by simp
            have HS2 : Hid (∀ m, _) := hid fun m => HEnd.out (wr.drewN m) (by rw [HK0.out]; omega) (by rw [HK0.out]; exact HS.out.drewN m)
            clear HS HJ
            go_wp2
            go_quiet (fail)
            go_wp2
            go_roundw
            case rel => exact ⟨k + 1, by omega, by omega, by go_num, below_drewN hZ _, hgz, hid (HS2.out _)⟩
            case measure => simp only [intOf]; omega
      · obtain rfl : k = n := by omega
        have HE : Hid (∃ Z' : List Zt, RowG wo g Z' ∧ Z'.length = k ∧ Z'.map (·.2) = (Z.map (·.2)).foldl (insP bn ds) [] ∧ SubZ Z' Z) := hid (by
          obtain ⟨P, h1, h2, h3, h4⟩ := HK.out
          rw [List.drop_eq_nil_of_le (by rw [HL.out]; omega), List.append_nil] at h2
          rw [List.take_of_length_le (by rw [HL.out]; omega)] at h3
          exact ⟨P, h2, h1, h3, h4⟩)
        clear HK
        go_wp2
        go_end0
        exact ⟨rfl, hB, HE.out⟩

end Go.Proofs.YtnlaaejdianfjaaGreat
namespace Go.Proofs.YtnlaaejdianfjaaGreat
open Go.RowKit
set_option linter.unusedVariables false
set_option linter.unusedSimpArgs false

theorem run_appS {t ty e : TypeId} {z : Value} {k bytes B : Nat} (ht : Tryz.prog.underlying t = some (.slice e)) (hinf : (Tryz.prog.info? e).map (fun i => (i.zero, i.size, i.bytes)) = some (some z, k, bytes)) (hzs : z.cells.size = k) (hk : 0 < k) (hby : bytes ≤ 1000)
    (w : World) (v : Value) (css css2 : List (List Value)) (ad : Addr) (m c : Nat) (hown : OwnR e k B w v css) (hcs : ∀ cs ∈ css2, cs.length = k) (hm : css2.length = m) (h1 : ∀ u ∈ css2.flatten, u.oneCell' = true) (hx : ∀ j u, css2.flatten[j]? = some u → w.cell? (ad.add j) = some u) (hl : css.length + m ≤ 1000) (hB : B ≤ w.heap.size) :
    ∃ v' w', (Builtin.append_ #[t, t] ty #[v, .slice (some ad) m c]).run Tryz.prog w = .ok v' w' ∧ OwnR e k B w' v' (css ++ css2) ∧ w.grownBy w' v.ownBlock := by
  obtain ⟨i, hi, hz, hsz, hb⟩ := info_parts hinf
  have hfl : ∀ l : List (List Value), (∀ cs ∈ l, cs.length = k) → l.flatten.length = l.length * k := by
    intro l
    induction l with
    | nil => intro _; simp
    | cons a l ih =>
      intro h
      rw [List.flatten_cons, List.length_append, ih fun x hx => h x (by simp [hx]), h a (by simp), List.length_cons, Nat.succ_mul]
      omega
  obtain ⟨v', w', hr, h2, h3, _, h5⟩ := run_append_own_at (P := Tryz.prog) w B t ty e i z k bytes ht hi hz hsz hb hzs hk v css.length _ hown.2 ad m c css2.flatten (by rw [hfl css2 hcs, hm]) hx h1 (by unfold maxLen; omega) (by have : (css.length + m) * bytes ≤ 1000 * 1000 := Nat.mul_le_mul (by omega) hby; omega) hB
  refine ⟨v', w', hr, ⟨?_, ?_⟩, h3⟩
  · intro cs hc
    rcases List.mem_append.1 hc with hc | hc
    · exact hown.1 cs hc
    · exact hcs cs hc
  · rw [List.length_append, hm, List.flatten_append]
    exact h2
theorem wpList_appS {t e : TypeId} {z : Value} {k bytes B : Nat} (ht : Tryz.prog.underlying t = some (.slice e)) (hinf : (Tryz.prog.info? e).map (fun i => (i.zero, i.size, i.bytes)) = some (some z, k, bytes)) (hzs : z.cells.size = k) (hk : 0 < k) (hby : bytes ≤ 1000)
    {w : World} {ops : Array Oper} {rest : List Oper} {o : Oper} {a : Act} {Q : Exit → Act → World → Prop} (hgd : o.guard = none) (s x : Operand)
    (ho : o.op = .call { callee := .builtin .append, args := #[s, x], argTypes := #[t, t] }) (v : Value) (css css2 : List (List Value)) (ad : Addr) (m c : Nat) (hs : a.eval s = v) (hxv : a.eval x = .slice (some ad) m c)
    (hown : OwnR e k B w v css) (hcs : ∀ cs ∈ css2, cs.length = k) (hm : css2.length = m) (h1 : ∀ u ∈ css2.flatten, u.oneCell' = true) (hx : ∀ j u, css2.flatten[j]? = some u → w.cell? (ad.add j) = some u) (hl : css.length + m ≤ 1000) (hB : B ≤ w.heap.size)
    (h : ∀ v' w', OwnR e k B w' v' (css ++ css2) → w.grownBy w' v.ownBlock → wpList Tryz.prog ops Q rest (a.put o.dst v') w') : wpList Tryz.prog ops Q (o :: rest) a w :=
  wpList_plain hgd fun _ hK => by
    obtain ⟨v', w', hr, h2, h3⟩ := run_appS ht hinf hzs hk hby w v css css2 ad m c hown hcs hm h1 hx hl hB (ty := o.type)
    unfold Oper.wp execOp
    simp only [ho, resolve, invoke, builtin, Sem.run_bind, Sem.run_pure, Result.andThen_ok, List.map_toArray, List.map_cons, List.map_nil, hs, hxv, hr]
    exact hK _ _ (h v' w' h2 h3)
end Go.Proofs.YtnlaaejdianfjaaGreat
namespace Go.Proofs.YtnlaaejdianfjaaGreat
open Go.RowKit
set_option linter.unusedVariables false
set_option linter.unusedSimpArgs false

theorem cloneL_any (s : ByteArray) (hs : s.size ≤ 281474976710656) (w : World) : Calls Tryz.prog 107 #[.string s] w fun e w' => e = .returned (.string s) ∧ Below w.heap.size w w' := by
  have H : Hid _ := Tryz.stringslite_Clone s w hs
  go_enter Tryz.func107, Tryz.ntmps107
  go_wp2_with fail
  refine Calls.mono H.out ?_
  rintro e w1 ⟨rfl, hb⟩
  clear H
  go_wp2
  go_ret
  exact ⟨rfl, hb⟩
set_option maxRecDepth 100000 in
set_option maxHeartbeats 2000000 in
theorem fresh_any (v : Vt) (hs : v.2.2.size ≤ 281474976710656) (w : World) : Calls Tryz.prog 75 #[vV v] w fun e w' => e = .returned (vV v) ∧ Below w.heap.size w w' := by
  obtain ⟨v0, v1, v2⟩ := v
  have HC : Hid (∀ w, _) := hid fun w => cloneL_any v2 hs w
  have hb := bal (bal (Below.refl w.heap.size w) (.cells #[.int .i64 v0, .int .i64 v1, .string v2] 44)) zV
  have b1 : Bv ((w.alloc (.cells #[.int .i64 v0, .int .i64 v1, .string v2] 44)).alloc zV) w.heap.size v0 v1 v2 := (⟨heap_alloc_new w _⟩ : Bv (w.alloc (.cells #[.int .i64 v0, .int .i64 v1, .string v2] 44)) w.heap.size v0 v1 v2).later (bal (Below.refl _ _) _)
  have b2 : Bv ((w.alloc (.cells #[.int .i64 v0, .int .i64 v1, .string v2] 44)).alloc zV) (w.heap.size + 1) 0 0 ⟨#[]⟩ := by
    have := Bv.new (w.alloc (.cells #[.int .i64 v0, .int .i64 v1, .string v2] 44))
    rwa [World.size_alloc] at this
  go_enter Tryz.func75, Tryz.ntmps75
  go_upto_region 1 with fail
  generalize (w.alloc (.cells #[.int .i64 v0, .int .i64 v1, .string v2] 44)).alloc zV = W at *
  obtain ⟨a0, a1, a2⟩ := b1.cells
  go_wp2_with fail
  refine Calls.mono (HC.out _) ?_
  rintro e w1 ⟨rfl, hb1⟩
  have hB := Below.on hb hb1
  clear a0 a1 a2
  obtain ⟨c0, c1, c2⟩ := (b1.later hb1).cells
  obtain ⟨d0, d1, d2⟩ := (b2.later hb1).cells
  obtain ⟨f0, f1, f2⟩ := (b1.later hb1).free
  obtain ⟨g0, g1, g2⟩ := (b2.later hb1).free
  have hl := (b2.later hb1).lt
  clear HC b1 b2 hb hb1
  go_wp2
  exact bodyPost_ret (v := vV (v0, v1, v2)) (by simp [results, Tryz.results75, go_sem, d0, d1, d2]) rfl ⟨rfl, below3 (hB.setCell (p := ⟨w.heap.size, 2, none⟩) (Nat.le_refl _) _) (by omega) _ _ _⟩

theorem TeRs.snoc {B : Nat} {w5 w6 : World} {va : Option Addr} {vm vd : Nat} {css : List (List Value)} {R : List (List Vt)} {r : List Vt} {ra : Option Addr} {rm rd : Nat} {v' : Value} (hcl : css.length = R.length)
    (hE : ∀ i (h1 : i < R.length) (h2 : i < css.length), eRow.E (fun b => B ≤ b ∧ some b ≠ (Value.slice va vm vd).ownBlock) w5 R[i] css[i]) (hEn : eRow.E (fun b => B ≤ b ∧ some b ≠ (Value.slice va vm vd).ownBlock) w5 r [.slice ra rm rd])
    (hO : OwnR 42 1 B w6 v' (css ++ [[.slice ra rm rd]])) (hg : w5.grownBy w6 (Value.slice va vm vd).ownBlock) (hown : v'.ownBlock = (Value.slice va vm vd).ownBlock ∨ v'.ownBlock = some w5.heap.size) : TeRs B w6 v' (R ++ [r]) := by
  obtain ⟨a6, m6, d6, rfl⟩ := hO.sl
  refine ⟨css ++ [[.slice ra rm rd]], hO, by simp [hcl], fun i h1 h2 => ?_⟩
  by_cases hi : i < css.length
  · rw [List.getElem_append_left hi, List.getElem_append_left (by omega)]
    exact eRow.grow (hE i (by omega) hi) hg hown
  · have hic : i = css.length := by rw [List.length_append] at h2; simp at h2; omega
    have hir : i = R.length := by omega
    rw [List.getElem_append_right (by omega), List.getElem_append_right (by omega)]
    simp only [hic, Nat.sub_self, List.getElem_cons_zero, hcl]
    exact eRow.grow hEn hg hown
theorem TeRs.later {B : Nat} {w w' : World} {v : Value} {R : List (List Vt)} (h : TeRs B w v R) (hb : Below w.heap.size w w') : TeRs B w' v R := by
  obtain ⟨css, ho, hl, hE⟩ := h
  exact ⟨css, ho.later hb, hl, fun i h1 h2 => eRow.keep (fun b _ hlt => hb.block b hlt) (hE i h1 h2)⟩
theorem TeRs.len {B : Nat} {w : World} {a : Option Addr} {m d : Nat} {R : List (List Vt)} (h : TeRs B w (.slice a m d) R) : m = R.length := by
  obtain ⟨css, ho, hl, -⟩ := h
  rw [← hl]; exact ho.lenV
abbrev cVs (v : Vt) : List Value := [.int .i64 v.1, .int .i64 v.2.1, .string v.2.2]
set_option maxRecDepth 100000 in
set_option maxHeartbeats 4000000 in
theorem copied_any {L : List (List Vt)} (hN : L.length ≤ 500) (hM : ∀ l ∈ L, l.length ≤ 500) (hs : ∀ l ∈ L, ∀ v ∈ l, v.2.2.size ≤ 281474976710656) {Q : Nat → Prop} {w : World} {a : Option Addr} {n c : Nat} (h : RowIs eRow Q w (.slice a n c) L) :
    Calls Tryz.prog 43 #[.slice a n c] w fun e w' => ∃ v, e = .returned v ∧ TeRs w.heap.size w' v L ∧ Below w.heap.size w w' := by
  obtain ⟨l1, l2, l3⟩ := row_lens h
  have HR : Hid (∀ w', Below w.heap.size w w' → RowIs eRow Q w' (.slice a n c) L) := hid fun w' hb => h.keep (by decide) fun b _ hl => hb.block b hl
  have HM : Hid _ := hid hM
  have HS : Hid _ := hid hs
  clear h hM hs
  obtain ⟨ti, ht1, ht2, ht3, ht4⟩ := info_parts Tryz.infoTRow
  obtain ⟨tj, hj1, hj2, hj3, hj4⟩ := info_parts Tryz.infoTVal
  go_enter Tryz.func43, Tryz.ntmps43
  go_upto_region 1 with fail
  go_wp2_with (first | (at_make; go_must (refine wpList_make_own w rfl _ _ 36 rfl w.heap.size 42 ti _ 1 Tryz.underlying36 ht1 ht2 ht3 .i64 .i64 (n : Int) n rfl rfl rfl (by rw [ht4]; omega) (by unfold maxLen; omega) (Nat.le_refl _) ?_)) | fail)
  intro w1 ho hg
  have hb1 : Below w.heap.size w w1 := below_grows (Below.refl _ _) (Nat.le_refl _) hg (by simp)
  have HT : Hid (TeRs w.heap.size w1 (.slice (some ⟨w.heap.size, 0, none⟩) 0 n) []) := hid ⟨[], ⟨fun cs h => by simp at h, ho⟩, rfl, fun i h1 => absurd h1 (by simp)⟩
  clear ho hg
  go_wp2
  go_loopw [3, 14] (fun v3 v14 wr => ∃ (k : Nat) (va : Option Addr) (vd : Nat), k ≤ n ∧ v14 = .int .i64 k ∧ v3 = .slice va k vd ∧ Below w.heap.size w wr ∧ Hid (TeRs w.heap.size wr (.slice va k vd) (L.take k))) (fun _ i _ => n - (intOf i).toNat)
  case atStart => exact ⟨0, _, _, Nat.zero_le _, rfl, rfl, hb1, HT⟩
  case round =>
    obtain ⟨k, va, vd, hk, rfl, rfl, hB, HK⟩ := hrel
    clear hb1 HT
    generalize wr = wo at *
    by_cases hlt : k < n
    · obtain ⟨b, o, xa, xn, xc, rfl, -, x0, rx⟩ := row1 (HR.out wo hB) (k := k) (by omega)
      obtain ⟨x, hx⟩ : ∃ x, L[k]'(by omega) = x := ⟨_, rfl⟩
      rw [hx] at rx
      obtain ⟨p1, p2, p3⟩ := row_lens rx
      have hmx : x ∈ L := hx ▸ List.getElem_mem _
      have h5x := HM.out _ hmx
      have HSx : Hid _ := hid (HS.out _ hmx)
      have HNx : Hid (L.take (k + 1) = L.take k ++ [x]) := hid (by rw [List.take_succ_eq_append_getElem (by omega), hx])
      have HRX : Hid (∀ w', Below wo.heap.size wo w' → RowIs eVal Q w' (.slice xa xn xc) x) := hid fun w' hb => rx.keep (by decide) fun b _ hl => hb.block b hl
      have hkm : (k : Int) < (n : Int) := by omega
      have hwk := wrapS hlt l2 l3
      clear rx hx hmx
      go_wp2_with (first | (at_make; go_must (refine wpList_make_own wo rfl _ _ 42 rfl wo.heap.size 44 tj _ 3 Tryz.underlying42 hj1 hj2 hj3 .i64 .i64 (xn : Int) xn rfl rfl rfl (by rw [hj4]; omega) (by unfold maxLen; omega) (Nat.le_refl _) ?_)) | fail)
      intro w2 ho hg
      have hb2 : Below wo.heap.size wo w2 := below_grows (Below.refl _ _) (Nat.le_refl _) hg (by simp)
      have HO : Hid (OwnR 44 3 wo.heap.size w2 (.slice (some ⟨wo.heap.size, 0, none⟩) 0 xn) []) := hid ⟨fun cs h => by simp at h, ho⟩
      clear ho hg x0
      go_wp2
      go_loopw [6, 23] (fun v6 v23 wz => ∃ (j : Nat) (ra : Option Addr) (rd : Nat), j ≤ xn ∧ v23 = .int .i64 j ∧ v6 = .slice ra j rd ∧ Below wo.heap.size wo wz ∧ Hid (OwnR 44 3 wo.heap.size wz (.slice ra j rd) ((x.take j).map cVs))) (fun _ i _ => xn - (intOf i).toNat)
      case atStart => exact ⟨0, _, _, Nat.zero_le _, rfl, rfl, hb2, HO⟩
      case round =>
        obtain ⟨j, ra, rd, hj, rfl, rfl, hZ, HJ⟩ := hrel
        clear hb2 HO
        by_cases hjx : j < xn
        · obtain ⟨b', o', rfl, -, c0, c1, c2⟩ := val1 (HRX.out _ hZ) (k := j) (by omega)
          obtain ⟨y, hy⟩ : ∃ y, x[j]'(by omega) = y := ⟨_, rfl⟩
          have hys := HSx.out y (hy ▸ List.getElem_mem _)
          obtain ⟨C, hC⟩ : ∃ C, (x.take j).map cVs = C := ⟨_, rfl⟩
          have HNy : Hid ((x.take (j + 1)).map cVs = C ++ [cVs y] ∧ C.length = j) := hid ⟨by rw [List.take_succ_eq_append_getElem (by omega), hy, List.map_append, hC]; rfl, by rw [← hC, List.length_map, List.length_take]; omega⟩
          rw [hC] at HJ
          clear hC
          rw [hy] at c0 c1 c2
          obtain ⟨y0, y1, y2⟩ := y
          have hjm : (j : Int) < (xn : Int) := by omega
          have hwj := wrapS hjx p2 p3
          have by1 := Bk.new wr (.cells #[.int .i64 y0, .int .i64 y1, .string y2] 44)
          have hZ1 := hZ.alloc hZ.size (.cells #[.int .i64 y0, .int .i64 y1, .string y2] 44)
          have hO1 := HJ.out.alloc (.cells #[.int .i64 y0, .int .i64 y1, .string y2] 44)
          have HF : Hid (∀ w, _) := hid fun w => fresh_any (y0, y1, y2) hys w
          clear hy
          go_upto_region 9 with fail
          generalize wr.alloc (.cells #[.int .i64 y0, .int .i64 y1, .string y2] 44) = W at *
          have d0 := by1.cell 0
          have d1 := by1.cell 1
          have d2 := by1.cell 2
          simp only [List.getElem?_toArray, List.getElem?_cons_zero, List.getElem?_cons_succ] at d0 d1 d2
          clear by1 c0 c1 c2
          have HO1 : Hid _ := hid hO1
          clear hO1
          go_wp2_with fail
          refine Calls.mono (HF.out _) ?_
          rintro e w4 ⟨rfl, hb4⟩
          have ho4 := (HO1.out.later hb4).alloc (.cells #[.int .i64 y0, .int .i64 y1, .string y2] 44)
          have hZ4 := Below.on hZ1 hb4
          have hZ5 := hZ4.alloc hZ4.size (.cells #[.int .i64 y0, .int .i64 y1, .string y2] 44)
          have hB5 : wo.heap.size ≤ (w4.alloc (.cells #[.int .i64 y0, .int .i64 y1, .string y2] 44)).heap.size := hZ5.size
          have hblk := ho4.blk
          have hcl := HNy.out.2
          clear HF HO1 hZ1 hb4 d0 d1 d2 hZ4
          go_wp2_with (first | (at_builtin; go_must (refine wpList_appR Tryz.underlying42 Tryz.infoTVal rfl (by decide) (by decide) rfl (.tmp 27) (.tmp 30) rfl _ _ w4.heap.size [.int .i64 y0, .int .i64 y1, .string y2] rfl rfl ho4 rfl (by simp [Value.oneCell']) (new3 w4 _ _ _ _) (by omega) hB5 ?_)) | fail)
          intro v' w6 hO6 hg6 hown
          have hZ6 := below_grows hZ5 hB5 hg6 fun k e => (hblk k e).1
          obtain ⟨a2, m2, d2, rfl⟩ := hO6.sl
          have hm2 : m2 = j + 1 := by
            have h9 := hO6.lenV
            simp at h9
            omega
          have HO6 : Hid (OwnR 44 3 wo.heap.size w6 (.slice a2 m2 d2) ((x.take (j + 1)).map cVs)) := hid (by rw [HNy.out.1]; exact hO6)
          clear hg6 hown ho4 hZ5 hblk hO6 hcl HNy
          subst hm2
          go_wp2
          go_roundw
          case rel => exact ⟨j + 1, a2, d2, by omega, by go_num, rfl, hZ6, HO6⟩
          case measure => simp only [intOf]; omega
        · obtain rfl : j = xn := by omega
          have HO6 : Hid (OwnR 44 3 wo.heap.size wr (.slice ra j rd) (x.map cVs)) := hid (by
            have := HJ.out
            rwa [← p1, List.take_length, p1] at this)
          have hblk3 : ∀ b, (Value.slice va k vd).ownBlock = some b → b < wo.heap.size := fun b e => by
            obtain ⟨css, ho, -, -⟩ := HK.out
            exact (ho.blk b e).2
          obtain ⟨css, ho, hcl, hE⟩ := HK.out.later hZ
          have hck : css.length = k := ho.lenV.symm
          have hblk := ho.blk
          have ho5 := ho.alloc (.cells #[.slice ra j rd] 42)
          have hB4 := Below.on hB hZ
          have hB5 := hB4.alloc hB4.size (.cells #[.slice ra j rd] 42)
          have hs5 : w.heap.size ≤ (wr.alloc (.cells #[.slice ra j rd] 42)).heap.size := hB5.size
          have hEn : eRow.E (fun b => w.heap.size ≤ b ∧ some b ≠ (Value.slice va k vd).ownBlock) (wr.alloc (.cells #[.slice ra j rd] 42)) x [.slice ra j rd] := ⟨ra, j, rd, rfl, ((OwnR.rowE (e := eVal) (Q := fun b => wo.heap.size ≤ b) HO6.out (by simp) (fun b hb _ => hb) fun i h1 h2 => by
            show _ = _
            simp).keep (by decide) fun b _ hl => (bal (Below.refl _ _) (.cells #[.slice ra j rd] 42)).block b hl).mono (by decide) fun b hq _ => ⟨Nat.le_trans hB.size hq, fun hbk => by have := hblk3 b hbk.symm; have hq' : wo.heap.size ≤ b := hq; omega⟩⟩
          have HEn : Hid _ := hid hEn
          have HEo : Hid (∀ i (h1 : i < (L.take k).length) (h2 : i < css.length), eRow.E (fun b => w.heap.size ≤ b ∧ some b ≠ (Value.slice va k vd).ownBlock) (wr.alloc (.cells #[.slice ra j rd] 42)) (L.take k)[i] css[i]) := hid fun i h1 h2 => eRow.keep (fun b _ hl => (bal (Below.refl _ _) (.cells #[.slice ra j rd] 42)).block b hl) (hE i h1 h2)
          have HCl : Hid _ := hid hcl
          clear hE hEn hB4 hcl ho HO6 hblk3 HK
          go_wp2_with (first | (at_builtin; go_must (refine wpList_appR Tryz.underlying36 Tryz.infoTRow rfl (by decide) (by decide) rfl (.tmp 33) (.tmp 35) rfl _ css wr.heap.size [.slice ra j rd] rfl rfl ho5 rfl (by simp [Value.oneCell']) (newV1 wr _ _) (by omega) hs5 ?_)) | fail)
          intro v' w6 hO6 hg6 hown
          obtain ⟨a6, m6, d6, rfl⟩ := hO6.sl
          have hm6 : m6 = k + 1 := by
            have h9 := hO6.lenV
            simp at h9
            omega
          have hB6 := below_grows hB5 hs5 hg6 fun b e => (hblk b e).1
          have HT6 : Hid (TeRs w.heap.size w6 (.slice a6 m6 d6) (L.take (k + 1))) := hid (by rw [HNx.out]; exact TeRs.snoc HCl.out HEo.out HEn.out hO6 hg6 (by rw [World.size_alloc]; exact hown))
          clear hO6 hg6 hown hB5 ho5 hblk HEn HEo HCl HNx hck
          subst hm6
          go_wp2
          go_roundw
          case rel => exact ⟨k + 1, a6, d6, by omega, by go_num, rfl, hB6, HT6⟩
          case measure => simp only [intOf]; omega
    · obtain rfl : k = n := by omega
      have HL : Hid (L.take k = L) := hid (by rw [← l1, List.take_length])
      go_wp2
      go_ret
      exact ⟨_, rfl, by rw [← HL.out]; exact HK.out, hB⟩

end Go.Proofs.YtnlaaejdianfjaaGreat
namespace Go.Proofs.YtnlaaejdianfjaaGreat
open Go.RowKit Go.Shelf
set_option linter.unusedVariables false
set_option linter.unusedSimpArgs false
attribute [local go_sem] Oper.semAt_some

theorem rowV_gr {B : Nat} {w w' : World} (hg : Gr B w w') {Q : Nat → Prop} {v : Value} {l : List Vt} (h : RowIs eVal Q w v l) : RowIs eVal Q w' v l := by
  obtain ⟨ao, n, c, hv, hl, hn, hc, hx⟩ := h
  refine ⟨ao, n, c, hv, hl, hn, hc, fun hp => ?_⟩
  obtain ⟨b, o, ha, hq, hi⟩ := hx hp
  refine ⟨b, o, ha, hq, fun i h => ?_⟩
  obtain ⟨cs, h1, h2, h3⟩ := hi i h
  exact ⟨cs, h1, h2, fun j hj => (hg.cell (h3 j hj)).1⟩
/-- The k-th row is told: it lies ahead of n0, or in what is new since s. -/
def A1 (n0 : Nat) (Rs : List (List Vt)) (k s : Nat) (W : World) (xs : Array Value) : Prop := ∃ a n c r, xs = #[.slice a n c] ∧ Rs[k]? = some r ∧ RowIs eVal (fun b => b < n0 ∨ s ≤ b) W (.slice a n c) r
theorem A1.on {n0 : Nat} {Rs : List (List Vt)} {k s s' : Nat} {W W' : World} {xs : Array Value} (h : A1 n0 Rs k s W xs) (hs : s' ≤ s) (hg : Gr 0 W W') : A1 n0 Rs k s' W' xs ∧ xs.size = 1 := by
  obtain ⟨a, n, c, r, rfl, h1, h2⟩ := h
  exact ⟨⟨a, n, c, r, rfl, h1, (rowV_gr hg h2).mono (by decide) fun b hq _ => hq.imp id (fun x => Nat.le_trans hs x)⟩, rfl⟩
set_option maxRecDepth 100000 in
set_option maxHeartbeats 2000000 in
theorem values_any {Q : Nat → Prop} {w0 : World} {B : Nat} {a : Option Addr} {n c : Nat} {L : List (List Vt)} (hB : w0.cell? ⟨B, 0, none⟩ = some (.slice a n c)) (h : RowIs eRow Q w0 (.slice a n c) L) :
    SeqW Tryz.prog 87 #[.pointer (some ⟨B, 0, none⟩)] L.length (A1 w0.heap.size L) w0 := by
  intro l J Jx W hW hY h0
  obtain ⟨l1, l2, l3⟩ := row_lens h
  have HF : Hid (∀ w', Below w0.heap.size w0 w' → ∀ i (h : i < n), ∃ b o a' n' c', a = some ⟨b, o, none⟩ ∧ w'.cell? ⟨b, o + i, none⟩ = some (.slice a' n' c') ∧ ∀ s, A1 w0.heap.size L i s w' #[.slice a' n' c']) := hid fun w' hb i hi => by
    obtain ⟨b, o, ra, rn, rc, h1, h2, h3, h4⟩ := row1 h (k := i) (by omega)
    refine ⟨b, o, ra, rn, rc, h1, cell_later hb h3, fun s => ⟨ra, rn, rc, _, rfl, List.getElem?_eq_getElem (by omega), ?_⟩⟩
    exact ((h4.mono (by decide) (Q' := fun b => b < w0.heap.size) fun b _ hl => hl).keep (by decide) fun b _ hl => hb.block b hl).mono (by decide) fun b hq _ => .inl hq
  have hBW := cell_later hW hB
  have HY : Hid _ := hid hY
  have HN : Hid (L.length = n) := hid l1
  have HJ0 : Hid (J 0 W) := hid h0
  have HG0 : Hid (Gr W.heap.size W W) := hid (Gr.refl _ _)
  rw [l1] at hY ⊢
  clear hY h l1 h0
  refine (callsIn_wide (n := 0)).1 (callsIn_of_wp Tryz.func87 rfl trivial ?_)
  simp only [Tryz.ntmps87, List.size_toArray, List.length_cons, List.length_nil, Nat.reduceAdd, Nat.reduceSub, Array.replicate_succ, Array.replicate_zero, List.push_toArray, List.append_toArray, List.nil_append, List.cons_append]
  gi_wp2
  gi_loopw [7] (fun i wr => ∃ (k : Nat) (W1 : World), k ≤ n ∧ i = .int .i64 k ∧ Hid (J k W1) ∧ Hid (Gr W.heap.size W1 wr) ∧ Below w0.heap.size w0 wr) (fun i _ => n - (intOf i).toNat)
  case atStart => exact ⟨0, W, Nat.zero_le _, rfl, HJ0, HG0, hW⟩
  case round =>
    obtain ⟨k, W1, hk, rfl, HJ, HG, hB2⟩ := hrel
    clear HJ0 HG0
    by_cases hlt : k < n
    · obtain ⟨b, o, a', n', c', rfl, hc, hA⟩ := HF.out wr hB2 k hlt
      obtain ⟨fn, tmps, assign, body, hy, hR⟩ := HY.out k W1 wr _ (by rw [HN.out]; exact hlt) HJ.out hB2 HG.out (hA _)
      have hkm : (k : Int) < (n : Int) := by omega
      have hwk := wrapS hlt l2 l3
      have HR : Hid _ := hid hR
      clear hR hA
      gi_wp2
      refine ⟨rfl, HR.out.mono ?_⟩
      rintro e' W3 ⟨hk3, ⟨rfl, hJ3⟩ | ⟨rfl, hJx3⟩⟩
      · have hB3 := hB2.trans hk3.low
        have HJ3 : Hid _ := hid hJ3
        clear hJ3 hk3 HR
        gi_wp2
        go_roundw
        case rel => exact ⟨k + 1, W3, by omega, by go_num, HJ3, hid (Gr.refl _ _), hB3⟩
        case measure => simp only [intOf]; omega
      · have hB3 := hB2.trans hk3.low
        have HJ3 : Hid _ := hid hJx3
        clear hJx3 hk3 HR
        gi_wp2
        refine bodyPost_ret (results_none rfl _ _ _) rfl ?_
        exact ⟨⟨_, rfl⟩, hB3, W3, Gr.refl _ _, .inr ⟨k + 1, by omega, HJ3.out⟩⟩
    · obtain rfl : k = n := by omega
      gi_wp2
      go_end0
      exact ⟨⟨_, rfl⟩, hB2, W1, HG.out, .inl HJ.out⟩

end Go.Proofs.YtnlaaejdianfjaaGreat
