import Derived.Test.YtnlaaejdianfjabGreatQpak
import Derived.BigQuiet
import Derived.Test.YtnlaaejdianfjabGreatQpab
import Derived.Test.YtnlaaejdianfjabGreatQpai
namespace Go.Proofs.YtnlaaejdianfjabGreat
open Go.RowKit
set_option linter.unusedVariables false
set_option linter.unusedSimpArgs false

abbrev Zt := Sl × List Vt
theorem wrapN {k : Nat} (h : k < 9223372036854775808) : IntKind.i64.wrap (k : Int) = (k : Int) := by
  show (if (true && decide (((k : Int)) % (2 ^ 64 : Int) ≥ (2 ^ (64 - 1) : Int))) = true then ((k : Int)) % (2 ^ 64 : Int) - (2 ^ 64 : Int) else ((k : Int)) % (2 ^ 64 : Int)) = _
  rw [if_neg (by simp; omega)]
  omega
/-- All of these are of those. -/
def SubZ (Z' Z : List Zt) : Prop := ∀ z ∈ Z', z ∈ Z
/-- A block that holds the rows. -/
def RowG (w : World) (g : Nat) (Z : List Zt) : Prop := ∀ i z, Z[i]? = some z → w.cell? ⟨g, i, none⟩ = some (slV z.1) ∧ w.frozen? ⟨g, i, none⟩ = false
theorem frozen_later {w w' : World} (hb : Below w.heap.size w w') {a : Addr} {v : Value} (hc : w.cell? a = some v) (h : w.frozen? a = false) : w'.frozen? a = false :=
  (hb.frozen (World.block_lt_of_cell? _ _ hc)).trans h
theorem RowG.later {w w' : World} {g : Nat} {Z : List Zt} (h : RowG w g Z) (hb : Below w.heap.size w w') : RowG w' g Z := fun i z hi => ⟨cell_later hb (h i z hi).1, frozen_later hb (h i z hi).1 (h i z hi).2⟩
/-- x among the others. -/
def stZ {α : Type} (P : List α) (x : α) (R : List α) (j : Nat) : List α := P.take j ++ x :: (P.drop j ++ R)
theorem stZ_lt {α : Type} {P : List α} {x : α} {R : List α} {j i : Nat} (hj : j ≤ P.length) (hi : i < j) : (stZ P x R j)[i]? = P[i]? := by
  unfold stZ
  rw [List.getElem?_append_left (by rw [List.length_take]; omega), List.getElem?_take_of_lt hi]
theorem stZ_at {α : Type} {P : List α} {x : α} {R : List α} {j : Nat} (hj : j ≤ P.length) : (stZ P x R j)[j]? = some x := by
  unfold stZ
  rw [List.getElem?_append_right (by rw [List.length_take]; omega), List.length_take, Nat.min_eq_left hj, Nat.sub_self]
  rfl
theorem stZ_gt {α : Type} {P : List α} {x : α} {R : List α} {j i : Nat} (hj : j ≤ P.length) (hi : j < i) : (stZ P x R j)[i]? = (P ++ R)[i - 1]? := by
  unfold stZ
  rw [List.getElem?_append_right (by rw [List.length_take]; omega), List.length_take, Nat.min_eq_left hj, show i - j = (i - 1 - j) + 1 from by omega, List.getElem?_cons_succ]
  by_cases h : i - 1 < P.length
  · rw [List.getElem?_append_left (by rw [List.length_drop]; omega), List.getElem?_append_left h, List.getElem?_drop, show j + (i - 1 - j) = i - 1 from by omega]
  · rw [List.getElem?_append_right (by rw [List.length_drop]; omega), List.getElem?_append_right (by omega), List.length_drop, show i - 1 - j - (P.length - j) = i - 1 - P.length from by omega]
theorem RowG.swap {w : World} {g : Nat} {P : List Zt} {x : Zt} {R : List Zt} {q : Nat} (hq : q < P.length) (h : RowG w g (stZ P x R (q + 1))) : RowG ((w.setCell ⟨g, q + 1, none⟩ (slV P[q].1)).setCell ⟨g, q, none⟩ (slV x.1)) g (stZ P x R q) := by
  have h1 := h (q + 1) x (stZ_at (by omega))
  have h0 := h q P[q] (by rw [stZ_lt (by omega) (by omega)]; exact List.getElem?_eq_getElem hq)
  have n1 : (⟨g, q + 1, none⟩ : Addr) ≠ ⟨g, q, none⟩ := fun e => by injection e; omega
  intro i z hi
  rw [World.frozen?_setCell, World.frozen?_setCell]
  rcases Nat.lt_trichotomy i q with hl | rfl | hl
  · rw [stZ_lt (by omega) hl] at hi
    have := h i z (by rw [stZ_lt (by omega) (by omega)]; exact hi)
    rw [World.cell?_setCell_other _ _ _ _ (fun e => by injection e; omega), World.cell?_setCell_other _ _ _ _ (fun e => by injection e; omega)]
    exact this
  · rw [stZ_at (by omega)] at hi
    cases hi
    exact ⟨World.cell?_setCell_same _ _ _ (by rw [World.cell?_setCell_other _ _ _ _ n1]; exact h0.1), h0.2⟩
  · rw [stZ_gt (by omega) hl] at hi
    by_cases h2 : i = q + 1
    · subst h2
      rw [Nat.add_sub_cancel, List.getElem?_append_left hq, List.getElem?_eq_getElem hq] at hi
      cases hi
      rw [World.cell?_setCell_other _ _ _ _ (Ne.symm n1)]
      exact ⟨World.cell?_setCell_same _ _ _ h1.1, h1.2⟩
    · have := h i z (by rw [stZ_gt (by omega) (by omega)]; exact hi)
      rw [World.cell?_setCell_other _ _ _ _ (fun e => by injection e; omega), World.cell?_setCell_other _ _ _ _ (fun e => by injection e; omega)]
      exact this
theorem RowG.drewN {w : World} {g : Nat} {Z : List Zt} (h : RowG w g Z) (m : Nat) : RowG (w.drewN m) g Z := h
theorem below_drewN {n : Nat} {a w : World} (h : Below n a w) (m : Nat) : Below n a (w.drewN m) := ⟨h.os, h.tape, h.output, h.size, h.block⟩
theorem swap_bel {n : Nat} {a z : World} {g : Nat} (h : Below n a z) (hg : n ≤ g) (hz : g < z.heap.size) (i j : Nat) (u v : Value) (m : Nat) : Below n a (((z.drewN m).setCell ⟨g, i, none⟩ u).setCell ⟨g, j, none⟩ v) ∧ g < (((z.drewN m).setCell ⟨g, i, none⟩ u).setCell ⟨g, j, none⟩ v).heap.size :=
  ⟨((below_drewN h m).setCell (p := ⟨g, i, none⟩) hg u).setCell (p := ⟨g, j, none⟩) hg v, by simp only [World.setCell, Array.size_modify]; exact hz⟩
set_option maxRecDepth 100000 in
set_option maxHeartbeats 4000000 in
theorem insR_any {w0 : World} {g n cap bn : Nat} {ds : Bool} {fv : Value} (hf : CmpR w0 fv bn ds) (hg : w0.heap.size ≤ g) {Z : List Zt} (hn : Z.length = n) (hm : n ≤ 500) (hr : ∀ z ∈ Z, RowIs eVal (fun _ => True) w0 (slV z.1) z.2 ∧ bn < z.2.length)
    {w : World} (hb : Below w0.heap.size w0 w) (hG : RowG w g Z) (hgl : g < w.heap.size) :
    Calls Tryz.prog 100 #[.slice (some ⟨g, 0, none⟩) n cap, .int .i64 0, .int .i64 (n : Int), fv] w fun e w' => e = .returned (.tuple #[]) ∧ Below w0.heap.size w0 w' ∧ ∃ Z' : List Zt, RowG w' g Z' ∧ Z'.length = n ∧ Z'.map (·.2) = (Z.map (·.2)).foldl (insP bn ds) [] ∧ SubZ Z' Z := by
  obtain ⟨N, caps, rfl, hcf, hN⟩ := hf
  have HN : Hid (∀ (x y : List Vt) (a : Option Addr) (n c : Nat) (a2 : Option Addr) (n2 c2 : Nat) (Q : Nat → Prop) (w' : World), Below w0.heap.size w0 w' → _) := hid hN
  have HR : Hid _ := hid hr
  have HG : Hid _ := hid hG
  have HL : Hid _ := hid hn
  clear hN hr hG hn
  by_cases h0 : n = 0
  · subst h0
    have hz : Z = [] := List.eq_nil_of_length_eq_zero HL.out
    have HZ : Hid (RowG w g [] ∧ ([] : List Zt).length = 0 ∧ ([] : List Zt).map (·.2) = (Z.map (·.2)).foldl (insP bn ds) [] ∧ SubZ [] Z) := hid (by subst hz; exact ⟨HG.out, rfl, rfl, fun z h => h⟩)
    clear HG HL hz
    go_enter Tryz.func100, Tryz.ntmps100
    go_wp2
    go_loopw [8] (fun v8 wr => v8 = .int .i64 1 ∧ wr = w) (fun _ _ => 0)
    case atStart => exact ⟨by first | rfl | go_num, rfl⟩
    case round =>
      obtain ⟨rfl, rfl⟩ := hrel
      go_wp2
      go_end0
      exact ⟨rfl, hb, [], HZ.out⟩
  · have h1 : 1 ≤ n := by omega
    have HG0 : Hid (∃ P : List Zt, P.length = 1 ∧ RowG w g (P ++ Z.drop 1) ∧ P.map (·.2) = ((Z.take 1).map (·.2)).foldl (insP bn ds) [] ∧ ∀ z ∈ P, z ∈ Z) := hid ⟨Z.take 1, by rw [List.length_take, HL.out]; omega, by rw [List.take_append_drop]; exact HG.out, by
      cases Z with
      | nil => rfl
      | cons a Z => rfl, fun z h => List.mem_of_mem_take h⟩
    clear HG
    go_enter Tryz.func100, Tryz.ntmps100
    go_wp2
    go_loopw [8] (fun v8 wr => ∃ k : Nat, 1 ≤ k ∧ k ≤ n ∧ v8 = .int .i64 k ∧ Below w0.heap.size w0 wr ∧ g < wr.heap.size ∧ Hid (∃ P : List Zt, P.length = k ∧ RowG wr g (P ++ Z.drop k) ∧ P.map (·.2) = ((Z.take k).map (·.2)).foldl (insP bn ds) [] ∧ ∀ z ∈ P, z ∈ Z)) (fun i _ => n - (intOf i).toNat)
    case atStart => exact ⟨1, Nat.le_refl _, h1, by first | rfl | go_num, hb, hgl, HG0⟩
    case round =>
      obtain ⟨k, hk1, hkn, rfl, hB, hgk, HK⟩ := hrel
      generalize wr = wo at *
      clear HG0 hb hgl
      by_cases hlt : k < n
      · obtain ⟨P, hP, hGk, hPm, hPZ⟩ := HK.out
        have hkZ : k < Z.length := by rw [HL.out]; exact hlt
        obtain ⟨x, hx⟩ : ∃ x, Z[k] = x := ⟨_, rfl⟩
        obtain ⟨R, hR⟩ : ∃ R, Z.drop (k + 1) = R := ⟨_, rfl⟩
        have hxZ : x ∈ Z := hx ▸ List.getElem_mem _
        have hd : Z.drop k = x :: R := by rw [List.drop_eq_getElem_cons hkZ, hx, hR]
        have ht : Z.take (k + 1) = Z.take k ++ [x] := by rw [List.take_succ_eq_append_getElem hkZ, hx]
        obtain ⟨K, hK⟩ : ∃ K, plcP (behP bn ds x.2) (P.map (·.2)) k = K := ⟨_, rfl⟩
        have HS0 : Hid (RowG wo g (stZ P x R k)) := hid (by
          have e : stZ P x R k = P ++ Z.drop k := by rw [stZ, List.take_of_length_le (by omega), List.drop_eq_nil_of_le (by omega), hd]; rfl
          rw [e]; exact hGk)
        have HKn : Hid (K ≤ k → RowG wo g (stZ P x R k) → True) := hid fun _ _ => trivial
        have HEnd : Hid (∀ wz, K ≤ k → RowG wz g (stZ P x R K) → ∃ P' : List Zt, P'.length = k + 1 ∧ RowG wz g (P' ++ Z.drop (k + 1)) ∧ P'.map (·.2) = ((Z.take (k + 1)).map (·.2)).foldl (insP bn ds) [] ∧ ∀ z ∈ P', z ∈ Z) := hid fun wz hKk hG => by
          refine ⟨P.take K ++ x :: P.drop K, ?_, ?_, ?_, ?_⟩
          · rw [List.length_append, List.length_cons, List.length_take, List.length_drop]; omega
          · rw [hR, List.append_assoc, List.cons_append]; exact hG
          · rw [ht, List.map_append, List.map_append, List.foldl_append, ← hPm, List.map_cons, List.map_take, List.map_drop]
            show _ = insP bn ds (P.map (·.2)) x.2
            unfold insP
            rw [List.length_map, hP, hK]
          · intro z hz
            rcases List.mem_append.1 hz with h | h
            · exact hPZ z (List.mem_of_mem_take h)
            · rcases List.mem_cons.1 h with rfl | h
              · exact hxZ
              · exact hPZ z (List.mem_of_mem_drop h)
        have HKK : Hid (plcP (behP bn ds x.2) (P.map (·.2)) k = K) := hid hK
        have HPP : Hid (P.length = k ∧ (∀ z ∈ P, z ∈ Z) ∧ x ∈ Z) := hid ⟨hP, hPZ, hxZ⟩
        clear HK hP hGk hPm hPZ hkZ hx hR hxZ hd ht hK HKn
        go_wp2
        go_loopw [9] (fun v9 wr => ∃ j : Nat, j ≤ k ∧ v9 = .int .i64 j ∧ Below w0.heap.size w0 wr ∧ g < wr.heap.size ∧ Hid (RowG wr g (stZ P x R j)) ∧ Hid (plcP (behP bn ds x.2) (P.map (·.2)) j = K)) (fun j _ => (intOf j).toNat)
        case atStart => exact ⟨k, Nat.le_refl _, rfl, hB, hgk, HS0, HKK⟩
        case round =>
          obtain ⟨j, hjk, rfl, hZ, hgz, HS, HJ⟩ := hrel
          clear HS0 HKK hB hgk
          by_cases hj0 : 0 < j
          · obtain ⟨q, rfl⟩ : ∃ q, j = q + 1 := ⟨j - 1, by omega⟩
            have hqP : q < P.length := by rw [HPP.out.1]; omega
            obtain ⟨y, hy⟩ : ∃ y, P[q] = y := ⟨_, rfl⟩
            have hyZ : y ∈ Z := HPP.out.2.1 y (hy ▸ List.getElem_mem _)
            obtain ⟨c1, f1⟩ := HS.out (q + 1) x (stZ_at (by omega))
            obtain ⟨c0, f0⟩ := HS.out q y (by rw [stZ_lt (by omega) (by omega), List.getElem?_eq_getElem hqP, hy])
            have HX : Hid (∀ w', Below wr.heap.size wr w' → _) := hid fun w' hb => HN.out x.2 y.2 x.1.1 x.1.2.1 x.1.2.2 y.1.1 y.1.2.1 y.1.2.2 (fun _ => True) w' (hZ.trans (hb.mono hZ.size)) (HR.out x HPP.out.2.2).2 (HR.out y hyZ).2
              ((HR.out x HPP.out.2.2).1.keep (by decide) fun b _ hl => ((hZ.trans (hb.mono hZ.size))).block b hl) ((HR.out y hyZ).1.keep (by decide) fun b _ hl => ((hZ.trans (hb.mono hZ.size))).block b hl)
            have HSw : Hid (∀ W m, RowG W g (stZ P x R (q + 1)) → RowG (((W.drewN m).setCell ⟨g, q + 1, none⟩ (slV y.1)).setCell ⟨g, q, none⟩ (slV x.1)) g (stZ P x R q)) := hid fun W m h => by
              have := (h.drewN m).swap hqP
              rw [hy] at this
              exact this
            have hpl : plcP (behP bn ds x.2) (P.map (·.2)) (q + 1) = if behP bn ds x.2 y.2 then q + 1 else plcP (behP bn ds x.2) (P.map (·.2)) q := by
              rw [plcP, List.getD_eq_getElem?_getD, List.getElem?_map, List.getElem?_eq_getElem hqP, hy]; rfl
            rw [HJ.out, cZ_beh] at hpl
            have g1 : decide ((0 : Int) < (q : Int) + 1) = true := by rw [decide_eq_true_eq]; omega
            have i1 : (q : Int) + 1 < (n : Int) := by omega
            have i0 : (q : Int) < (n : Int) := by omega
            have hwq : IntKind.i64.wrap (q : Int) = (q : Int) := wrapN (by omega)
            have hwq1 : IntKind.i64.wrap ((q : Int) + 1 - 1) = (q : Int) := by rw [show (q : Int) + 1 - 1 = q from by omega]; exact hwq
            obtain ⟨c, hc⟩ : ∃ c, cZ bn ds x.2 y.2 = c := ⟨_, rfl⟩
            simp only [hc] at HX
            rw [hc] at hpl
            clear hc
            obtain ⟨⟨xa, xn, xc⟩, xr⟩ := x
            obtain ⟨⟨ya, yn, yc⟩, yr⟩ := y
            simp only [slV] at *
            have hC : Below wr.heap.size wr wr.drew := (Below.refl _ wr).drew
            have HHS : Hid _ := HS
            by_cases hc0 : c < 0
            · have e1 : decide (c < 0) = true := by simpa using hc0
              rw [e1] at hpl
              have HJ2 : Hid (plcP (behP bn ds xr) (P.map (·.2)) q = K) := hid (by rw [hpl]; rfl)
              clear hpl HJ hy hyZ HS
              go_wp2
              go_region_held (fun w' => w'.cell? ⟨g, q + 1, none⟩ = some (.slice xa xn xc) ∧ w'.cell? ⟨g, q, none⟩ = some (.slice ya yn yc)) (exact ⟨cell_later hC c1, cell_later hC c0⟩)
                (first | (with_reducible refine Calls.mono (HX.out _ hC) ?_; rintro e z1 ⟨rfl, hb1⟩; replace hC := Below.on hC hb1))
              all_goals
                have b1 := cell_later hC c1
                have b0 := cell_later hC c0
                have h1 := frozen_later hC c1 f1
                have h0 := frozen_later hC c0 f0
                have hZC := hZ.trans (hC.mono hZ.size)
                have hgc := Nat.lt_of_lt_of_le hgz hC.size
                have HS2 : Hid (∀ m, _) := hid fun m => HSw.out _ m (HHS.out.later hC)
                have HB2 : Hid _ := hid (swap_bel hZC hg hgc (q + 1) q (.slice ya yn yc) (.slice xa xn xc))
                clear c1 c0 f1 f0 hC HHS HSw HX hZC
                go_wp2
                go_region
                all_goals
                  go_wp2
                  go_roundw
                  case rel => exact ⟨q, by omega, by go_num, by first | exact (HB2.out 1).1 | exact (HB2.out _).1, by first | exact (HB2.out 1).2 | exact (HB2.out _).2, by first | exact hid (HS2.out 1) | exact hid (HS2.out _), HJ2⟩
                  case measure => simp only [intOf]; omega
            · have e1 : decide (c < 0) = false := by simpa using hc0
              rw [e1] at hpl
              have HJ2 : Hid (K = q + 1) := hid (by rw [hpl]; rfl)
              clear hpl HJ hy hyZ HS
              go_wp2
              go_region_held (fun w' => w'.cell? ⟨g, q + 1, none⟩ = some (.slice xa xn xc) ∧ w'.cell? ⟨g, q, none⟩ = some (.slice ya yn yc)) (exact ⟨cell_later hC c1, cell_later hC c0⟩)
                (first | (with_reducible refine Calls.mono (HX.out _ hC) ?_; rintro e z1 ⟨rfl, hb1⟩; replace hC := Below.on hC hb1))
              all_goals
                have hZC := hZ.trans (hC.mono hZ.size)
                have hgc := Nat.lt_of_lt_of_le hgz hC.size
                have HS2 : Hid _ := hid (HEnd.out _ (by rw [HJ2.out]; omega) (by rw [HJ2.out]; exact HHS.out.later hC))
                clear c1 c0 f1 f0 hC HHS HSw HX
                go_wp2
                go_roundw
                case rel => exact ⟨k + 1, by omega, by omega, by go_num, hZC, hgc, HS2⟩
                case measure => simp only [intOf]; omega
          · obtain rfl : j = 0 := by omega
            have HK0 : Hid (K = 0) := hid (by rw [← HJ.out]; rfl)
            have g1 : decide ((0 : Int) < (0 : Int)) = false := by simp
            have HS2 : Hid (∀ m, _) := hid fun m => HEnd.out (wr.drewN m) (by rw [HK0.out]; omega) (by rw [HK0.out]; exact HS.out.drewN m)
            clear HS HJ
            go_wp2
            go_quiet (fail)
            go_wp2
            go_roundw
            case rel => exact ⟨k + 1, by omega, by omega, by go_num, below_drewN hZ _, hgz, hid (HS2.out _)⟩
            case measure => simp only [intOf]; omega
      · obtain rfl : k = n := by omega
        have HE : Hid (∃ Z' : List Zt, RowG wo g Z' ∧ Z'.length = k ∧ Z'.map (·.2) = (Z.map (·.2)).foldl (insP bn ds) [] ∧ SubZ Z' Z) := hid (by
          obtain ⟨P, h1, h2, h3, h4⟩ := HK.out
          rw [List.drop_eq_nil_of_le (by rw [HL.out]; omega), List.append_nil] at h2
          rw [List.take_of_length_le (by rw [HL.out]; omega)] at h3
          exact ⟨P, h2, h1, h3, h4⟩)
        clear HK
        go_wp2
        go_end0
        exact ⟨rfl, hB, HE.out⟩

end Go.Proofs.YtnlaaejdianfjabGreat
namespace Go.Proofs.YtnlaaejdianfjabGreat
open Go.RowKit
set_option linter.unusedVariables false
set_option linter.unusedSimpArgs false

theorem run_appS {t ty e : TypeId} {z : Value} {k bytes B : Nat} (ht : Tryz.prog.underlying t = some (.slice e)) (hinf : (Tryz.prog.info? e).map (fun i => (i.zero, i.size, i.bytes)) = some (some z, k, bytes)) (hzs : z.cells.size = k) (hk : 0 < k) (hby : bytes ≤ 1000)
    (w : World) (v : Value) (css css2 : List (List Value)) (ad : Addr) (m c : Nat) (hown : OwnR e k B w v css) (hcs : ∀ cs ∈ css2, cs.length = k) (hm : css2.length = m) (h1 : ∀ u ∈ css2.flatten, u.oneCell' = true) (hx : ∀ j u, css2.flatten[j]? = some u → w.cell? (ad.add j) = some u) (hl : css.length + m ≤ 1000) (hB : B ≤ w.heap.size) :
    ∃ v' w', (Builtin.append_ #[t, t] ty #[v, .slice (some ad) m c]).run Tryz.prog w = .ok v' w' ∧ OwnR e k B w' v' (css ++ css2) ∧ w.grownBy w' v.ownBlock := by
  obtain ⟨i, hi, hz, hsz, hb⟩ := info_parts hinf
  have hfl : ∀ l : List (List Value), (∀ cs ∈ l, cs.length = k) → l.flatten.length = l.length * k := by
    intro l
    induction l with
    | nil => intro _; simp
    | cons a l ih =>
      intro h
      rw [List.flatten_cons, List.length_append, ih fun x hx => h x (by simp [hx]), h a (by simp), List.length_cons, Nat.succ_mul]
      omega
  obtain ⟨v', w', hr, h2, h3, _, h5⟩ := run_append_own_at (P := Tryz.prog) w B t ty e i z k bytes ht hi hz hsz hb hzs hk v css.length _ hown.2 ad m c css2.flatten (by rw [hfl css2 hcs, hm]) hx h1 (by unfold maxLen; omega) (by have : (css.length + m) * bytes ≤ 1000 * 1000 := Nat.mul_le_mul (by omega) hby; omega) hB
  refine ⟨v', w', hr, ⟨?_, ?_⟩, h3⟩
  · intro cs hc
    rcases List.mem_append.1 hc with hc | hc
    · exact hown.1 cs hc
    · exact hcs cs hc
  · rw [List.length_append, hm, List.flatten_append]
    exact h2
theorem wpList_appS {t e : TypeId} {z : Value} {k bytes B : Nat} (ht : Tryz.prog.underlying t = some (.slice e)) (hinf : (Tryz.prog.info? e).map (fun i => (i.zero, i.size, i.bytes)) = some (some z, k, bytes)) (hzs : z.cells.size = k) (hk : 0 < k) (hby : bytes ≤ 1000)
    {w : World} {ops : Array Oper} {rest : List Oper} {o : Oper} {a : Act} {Q : Exit → Act → World → Prop} (hgd : o.guard = none) (s x : Operand)
    (ho : o.op = .call { callee := .builtin .append, args := #[s, x], argTypes := #[t, t] }) (v : Value) (css css2 : List (List Value)) (ad : Addr) (m c : Nat) (hs : a.eval s = v) (hxv : a.eval x = .slice (some ad) m c)
    (hown : OwnR e k B w v css) (hcs : ∀ cs ∈ css2, cs.length = k) (hm : css2.length = m) (h1 : ∀ u ∈ css2.flatten, u.oneCell' = true) (hx : ∀ j u, css2.flatten[j]? = some u → w.cell? (ad.add j) = some u) (hl : css.length + m ≤ 1000) (hB : B ≤ w.heap.size)
    (h : ∀ v' w', OwnR e k B w' v' (css ++ css2) → w.grownBy w' v.ownBlock → wpList Tryz.prog ops Q rest (a.put o.dst v') w') : wpList Tryz.prog ops Q (o :: rest) a w :=
  wpList_plain hgd fun _ hK => by
    obtain ⟨v', w', hr, h2, h3⟩ := run_appS ht hinf hzs hk hby w v css css2 ad m c hown hcs hm h1 hx hl hB (ty := o.type)
    unfold Oper.wp execOp
    simp only [ho, resolve, invoke, builtin, Sem.run_bind, Sem.run_pure, Result.andThen_ok, List.map_toArray, List.map_cons, List.map_nil, hs, hxv, hr]
    exact hK _ _ (h v' w' h2 h3)
end Go.Proofs.YtnlaaejdianfjabGreat
namespace Go.Proofs.YtnlaaejdianfjabGreat
open Go.RowKit
set_option linter.unusedVariables false
set_option linter.unusedSimpArgs false

set_option maxRecDepth 100000 in
set_option maxHeartbeats 2000000 in
theorem insNil_any {ao : Option Addr} {n cap a b : Nat} (fv : Value) (h : b ≤ a + 1) (ha : a ≤ 500) (w : World) :
    Calls Tryz.prog 100 #[.slice ao n cap, .int .i64 (a : Int), .int .i64 (b : Int), fv] w fun e w' => e = .returned (.tuple #[]) ∧ w' = w := by
  have h1 : ¬ ((a : Int) + 1 < (b : Int)) := by omega
  have h2 : decide ((a : Int) + 1 < (b : Int)) = false := by simpa using h1
  go_enter Tryz.func100, Tryz.ntmps100
  go_wp2
  go_loopw [8] (fun v8 wr => v8 = .int .i64 ((a : Int) + 1) ∧ wr = w) (fun _ _ => 0)
  case atStart => exact ⟨by first | rfl | go_num, rfl⟩
  case round =>
    obtain ⟨rfl, rfl⟩ := hrel
    go_wp2
    go_end0
    exact ⟨rfl, rfl⟩
set_option maxRecDepth 100000 in
set_option maxHeartbeats 2000000 in
theorem stableNil_any {ao : Option Addr} {cap : Nat} (fv : Value) (w : World) :
    Calls Tryz.prog 87 #[.slice ao 0 cap, .int .i64 0, fv] w fun e w' => e = .returned (.tuple #[]) ∧ w' = w := by
  have HI : Hid (Calls Tryz.prog 100 #[.slice ao 0 cap, .int .i64 0, .int .i64 0, fv] w fun e w' => e = .returned (.tuple #[]) ∧ w' = w) := hid (insNil_any (a := 0) (b := 0) fv (by decide) (by decide) w)
  go_enter Tryz.func87, Tryz.ntmps87
  go_wp2
  refine wp_loop_rounds 1 ?_
  rw [rounds_succ]
  go_wp2_with fail
  refine Calls.mono HI.out ?_
  rintro e w1 ⟨rfl, rfl⟩
  go_wp2
  refine wp_loop_rounds 1 ?_
  rw [rounds_succ]
  go_wp2
  go_end0
  exact ⟨rfl, rfl⟩
set_option maxRecDepth 100000 in
set_option maxHeartbeats 2000000 in
theorem stableR_any {w0 : World} {g n cap bn : Nat} {ds : Bool} {fv : Value} (hf : CmpR w0 fv bn ds) (hg : w0.heap.size ≤ g) {Z : List Zt} (hn : Z.length = n) (hm : n ≤ 20) (hr : ∀ z ∈ Z, RowIs eVal (fun _ => True) w0 (slV z.1) z.2 ∧ bn < z.2.length)
    {w : World} (hb : Below w0.heap.size w0 w) (hG : RowG w g Z) (hgl : g < w.heap.size) :
    Calls Tryz.prog 87 #[.slice (some ⟨g, 0, none⟩) n cap, .int .i64 (n : Int), fv] w fun e w' => e = .returned (.tuple #[]) ∧ Below w0.heap.size w0 w' ∧ ∃ Z' : List Zt, RowG w' g Z' ∧ Z'.length = n ∧ Z'.map (·.2) = (Z.map (·.2)).foldl (insP bn ds) [] ∧ SubZ Z' Z := by
  have HI : Hid _ := hid (insR_any (cap := cap) hf hg hn (by omega) hr hb hG hgl)
  have HO : Hid (∀ w, Calls Tryz.prog 100 #[.slice (some ⟨g, 0, none⟩) n cap, .int .i64 20, .int .i64 20, fv] w fun e w' => e = .returned (.tuple #[]) ∧ w' = w) := hid fun w => insNil_any (a := 20) (b := 20) fv (by decide) (by decide) w
  obtain ⟨N, caps, rfl, hcf, hN⟩ := hf
  clear hN hr hG hn
  by_cases h20 : n = 20
  · subst h20
    go_enter Tryz.func87, Tryz.ntmps87
    go_wp2
    refine wp_loop_rounds 2 ?_
    rw [rounds_succ]
    go_wp2_with fail
    refine Calls.mono HI.out ?_
    rintro e w1 ⟨rfl, hb1, h1⟩
    have H1 : Hid _ := hid h1
    clear HI h1 hb
    go_wp2
    rw [rounds_succ]
    go_wp2_with fail
    refine Calls.mono (HO.out _) ?_
    rintro e w2 ⟨rfl, rfl⟩
    clear HO
    go_wp2
    refine wp_loop_rounds 1 ?_
    rw [rounds_succ]
    go_wp2
    go_end0
    exact ⟨rfl, hb1, H1.out⟩
  · have h1 : ¬ (20 : Int) ≤ (n : Int) := by omega
    have h2 : decide ((20 : Int) ≤ (n : Int)) = false := by simpa using h1
    have h3 : ¬ (20 : Int) < (n : Int) := by omega
    have h4 : decide ((20 : Int) < (n : Int)) = false := by simpa using h3
    go_enter Tryz.func87, Tryz.ntmps87
    go_wp2
    refine wp_loop_rounds 1 ?_
    rw [rounds_succ]
    go_wp2_with fail
    refine Calls.mono HI.out ?_
    rintro e w1 ⟨rfl, hb1, h1⟩
    have H1 : Hid _ := hid h1
    clear HI h1 hb
    go_wp2
    refine wp_loop_rounds 1 ?_
    rw [rounds_succ]
    go_wp2
    go_end0
    exact ⟨rfl, hb1, H1.out⟩
/-- A stable sort of n rows tells this. -/
def StP (w0 : World) (g n bn : Nat) (ds : Bool) (Z : List Zt) (w' : World) : Prop := Below w0.heap.size w0 w' ∧ ∃ Z' : List Zt, RowG w' g Z' ∧ Z'.length = n ∧ Z'.map (·.2) = (Z.map (·.2)).foldl (insP bn ds) [] ∧ SubZ Z' Z
set_option maxRecDepth 100000 in
set_option maxHeartbeats 2000000 in
theorem stableF_of {ao : Option Addr} {n cap : Nat} {fv : Value} {w : World} {Q : Ending → World → Prop} (h : Calls Tryz.prog 87 #[.slice ao n cap, .int .i64 (n : Int), fv] w fun e w' => e = .returned (.tuple #[]) ∧ Q (.returned (.tuple #[])) w') :
    Calls Tryz.prog 72 #[.slice ao n cap, fv] w fun e w' => e = .returned (.tuple #[]) ∧ Q (.returned (.tuple #[])) w' := by
  have H : Hid _ := hid h
  clear h
  go_enter Tryz.func72, Tryz.ntmps72
  go_wp2_with fail
  refine Calls.mono H.out ?_
  rintro e w1 ⟨rfl, hb⟩
  have HB : Hid _ := hid hb
  clear hb H
  go_wp2
  go_end0
  exact ⟨rfl, HB.out⟩
/-- The rows of a slice, with their slices. -/
theorem rowsZ_ex {Q : Nat → Prop} {w : World} {a : Option Addr} {n c : Nat} {L : List (List Vt)} (h : RowIs eRow Q w (.slice a n c) L) : ∃ Z : List Zt, Z.length = n ∧ Z.map (·.2) = L ∧ (∀ z ∈ Z, RowIs eVal Q w (slV z.1) z.2) ∧ ∀ i z, Z[i]? = some z → ∃ b o, a = some ⟨b, o, none⟩ ∧ w.cell? ⟨b, o + i, none⟩ = some (slV z.1) := by
  have h1 : ∀ i (hi : i < L.length), ∃ z : Zt, z.2 = L[i] ∧ RowIs eVal Q w (slV z.1) z.2 ∧ ∃ b o, a = some ⟨b, o, none⟩ ∧ w.cell? ⟨b, o + i, none⟩ = some (slV z.1) := fun i hi => by
    obtain ⟨b, o, ra, rn, rc, h1, h2, h3, h4⟩ := row1 h hi
    exact ⟨((ra, rn, rc), L[i]), rfl, h4, b, o, h1, h3⟩
  have h2 : ∀ k, k ≤ L.length → ∃ Z : List Zt, Z.length = k ∧ ∀ i (hi : i < Z.length) (hl : i < L.length), Z[i].2 = L[i] ∧ RowIs eVal Q w (slV Z[i].1) Z[i].2 ∧ ∃ b o, a = some ⟨b, o, none⟩ ∧ w.cell? ⟨b, o + i, none⟩ = some (slV Z[i].1) := by
    intro k
    induction k with
    | zero => intro _; exact ⟨[], rfl, fun i hi => absurd hi (by simp)⟩
    | succ k ih =>
      intro hk
      obtain ⟨Z, hZ, hi⟩ := ih (by omega)
      obtain ⟨z, hz⟩ := h1 k hk
      refine ⟨Z ++ [z], by simp [hZ], fun i h3 hl => ?_⟩
      by_cases he : i < Z.length
      · rw [List.getElem_append_left he]; exact hi i he hl
      · have : i = k := by simp at h3; omega
        subst this
        rw [List.getElem_append_right (by omega)]
        simp only [hZ, Nat.sub_self, List.getElem_cons_zero]
        exact hz
  obtain ⟨Z, hZ, hi⟩ := h2 L.length (Nat.le_refl _)
  refine ⟨Z, by rw [hZ]; exact (row_lens h).1, ?_, ?_, ?_⟩
  · apply List.ext_getElem
    · rw [List.length_map, hZ]
    · intro i h3 h4
      rw [List.getElem_map]
      exact (hi i (by omega) h4).1
  · intro z hz
    obtain ⟨i, h3, rfl⟩ := List.mem_iff_getElem.1 hz
    exact (hi i h3 (by omega)).2.1
  · intro i z hz
    obtain ⟨h3, rfl⟩ := List.getElem?_eq_some_iff.1 hz
    exact (hi i h3 (by omega)).2.2
def zC (Z : List Zt) : List (List Value) := Z.map fun z => [slV z.1]
theorem zC_flat (Z : List Zt) : (zC Z).flatten = Z.map fun z => slV z.1 := by
  induction Z with
  | nil => rfl
  | cons a l ih => rw [zC, List.map_cons, List.flatten_cons]; exact congrArg (_ :: ·) ih
theorem zC_len (Z : List Zt) : (zC Z).length = Z.length := by simp [zC]
theorem zC_one (Z : List Zt) : ∀ cs ∈ zC Z, cs.length = 1 := by
  intro cs h
  obtain ⟨z, _, rfl⟩ := List.mem_map.1 h
  rfl
theorem zC_cell (Z : List Zt) : ∀ u ∈ (zC Z).flatten, u.oneCell' = true := by
  intro u h
  rw [zC_flat] at h
  obtain ⟨z, _, rfl⟩ := List.mem_map.1 h
  rfl
theorem OwnR.rowG {B : Nat} {w : World} {a : Option Addr} {n c : Nat} {Z : List Zt} (h : OwnR 48 1 B w (.slice a n c) (zC Z)) (hp : 0 < n) : ∃ g, a = some ⟨g, 0, none⟩ ∧ B ≤ g ∧ g < w.heap.size ∧ RowG w g Z ∧ n ≤ c ∧ c ≤ 9223372036854775807 := by
  have hl := h.lenV
  have ho := h.2
  rw [← hl] at ho
  rcases h.2.2 with ⟨e, h0⟩ | ⟨g, cap, cur, e, hb, hg, hnc, hc, hs, ht⟩
  · omega
  · injection e with e1 e2 e3
    subst e1
    have hgl : g < w.heap.size := (Array.getElem?_eq_some_iff.1 hg).1
    refine ⟨g, rfl, hb, hgl, fun i z hi => ?_, by omega, by rw [e3]; simpa [maxLen] using hc⟩
    obtain ⟨hil, rfl⟩ := List.getElem?_eq_some_iff.1 hi
    have c0 := World.ownsRow.cellAt ho i (by rw [Nat.mul_one, hl, zC_len]; exact hil)
    rw [zC_flat, List.getElem?_map, List.getElem?_eq_getElem hil] at c0
    exact ⟨c0, by unfold World.frozen?; rw [hg]; rfl⟩
set_option maxRecDepth 100000 in
set_option maxHeartbeats 1000000 in
theorem cloneR_any {Z : List Zt} {w : World} {ao : Option Addr} {n c : Nat} (hn : Z.length = n) (hm : n ≤ 500) (hnil : ao = none → n = 0) (hc : ∀ i z, Z[i]? = some z → ∃ b o, ao = some ⟨b, o, none⟩ ∧ w.cell? ⟨b, o + i, none⟩ = some (slV z.1)) :
    Calls Tryz.prog 71 #[.slice ao n c] w fun e w' => ∃ a' c', e = .returned (.slice a' n c') ∧ OwnR 48 1 w.heap.size w' (.slice a' n c') (zC Z) ∧ Below w.heap.size w w' := by
  cases ao with
  | none =>
    obtain rfl := hnil rfl
    have hz : Z = [] := List.eq_nil_of_length_eq_zero hn
    subst hz
    have HO : Hid (OwnR 48 1 w.heap.size w (.slice none 0 0) (zC [])) := hid (OwnR.nil _ _ _ _)
    have he : ∀ w : World, (binOp .eql 33 (.slice none 0 c) (.slice none 0 0)).run Tryz.prog w = .ok (.bool true) w := fun _ => rfl
    clear hc hn
    go_enter Tryz.func71, Tryz.ntmps71
    go_wp2
    go_ret
    exact ⟨_, _, rfl, HO.out, Below.refl _ _⟩
  | some ad =>
    have hN : Hid (∀ j u, (zC Z).flatten[j]? = some u → (w.alloc (.cells #[] 48)).cell? (ad.add j) = some u) := hid fun j u hj => by
      rw [zC_flat, List.getElem?_map] at hj
      obtain ⟨z, hz, rfl⟩ := Option.map_eq_some_iff.1 hj
      obtain ⟨b, o, e, hcc⟩ := hc j z hz
      cases e
      rw [show (⟨b, o, none⟩ : Addr).add j = ⟨b, o + j, none⟩ from by simp [Addr.add]]
      exact cell_later (bal (Below.refl _ w) _) hcc
    have hO : OwnR 48 1 w.heap.size (w.alloc (.cells #[] 48)) (.slice (some ⟨w.heap.size, 0, none⟩) 0 0) [] := ⟨fun c hc => by simp at hc, by simp, .inr ⟨w.heap.size, 0, #[], rfl, Nat.le_refl _, heap_alloc_new w _, Nat.le_refl _, by simp [maxLen], by simp, by simp⟩⟩
    have hB := bal (Below.refl _ w) (.cells #[] 48)
    have hl5 : 0 + n ≤ 1000 := by omega
    have HL : Hid (Z.length = n) := hid hn
    have he : ∀ w : World, (binOp .eql 33 (.slice (some ad) n c) (.slice none 0 0)).run Tryz.prog w = .ok (.bool false) w := fun _ => rfl
    clear hn hc hnil
    go_enter Tryz.func71, Tryz.ntmps71
    go_wp2_with (first | (at_builtin; refine wpList_appS Tryz.underlying33 Tryz.infoTRow rfl (by decide) (by decide) rfl (.tmp 5) (.tmp 6) rfl _ [] (zC Z) ad n c rfl rfl hO (zC_one Z) (by rw [zC_len]; exact HL.out) (zC_cell Z) hN.out hl5 hB.size ?_) | fail)
    intro v' w6 hO6 hg6
    have hB6 := Below.grownR hB hB.size hg6 fun k e => by cases e; exact Nat.le_refl _
    obtain ⟨a5, n5, d5, rfl⟩ := hO6.sl
    have hO7 : OwnR 48 1 w.heap.size w6 (.slice a5 n5 d5) (zC Z) := hO6
    have h5 : n5 = n := by rw [hO7.lenV, zC_len]; exact HL.out
    have HO7 : Hid _ := hid hO7
    clear hN hO hB hg6 hO6 hO7
    subst h5
    go_wp2
    go_ret
    exact ⟨_, _, rfl, HO7.out, hB6⟩

theorem rowZ_of {w : World} {g n c : Nat} {Z : List Zt} (hn : Z.length = n) (hnc : n ≤ c) (hcm : c ≤ 9223372036854775807) (hG : RowG w g Z) (hr : ∀ z ∈ Z, RowIs eVal (fun _ => True) w (slV z.1) z.2) : RowIs eRow (fun _ => True) w (.slice (some ⟨g, 0, none⟩) n c) (Z.map (·.2)) := by
  refine ⟨_, n, c, rfl, by rw [List.length_map]; exact hn, hnc, hcm, fun hp => ⟨g, 0, rfl, trivial, fun i hi => ?_⟩⟩
  rw [List.length_map] at hi
  refine ⟨[slV Z[i].1], ⟨_, _, _, rfl, ?_⟩, rfl, fun j hj => ?_⟩
  · rw [List.getElem_map]; exact hr _ (List.getElem_mem hi)
  · have hj0 : j = 0 := by simp at hj; omega
    subst hj0
    have := (hG i Z[i] (List.getElem?_eq_getElem hi)).1
    simpa [eRow] using this
set_option maxRecDepth 100000 in
set_option maxHeartbeats 2000000 in
theorem sortedNil_any {ao : Option Addr} {c : Nat} {N M : Nat} {caps caps2 : Array Value} (w : World) :
    Calls Tryz.prog 43 #[.slice ao 0 c, .func (.func M) #[] caps2, .func (.func N) #[] caps] w fun e w' => ∃ a' c', e = .returned (.slice a' 0 c') ∧ c' ≤ 9223372036854775807 ∧ Below w.heap.size w w' := by
  have hw := bal (bal (Below.refl w.heap.size w) (.cells #[.func (.func M) #[] caps2] 104)) (.cells #[.func (.func N) #[] caps] 101)
  have HC : Hid (∀ w, _) := hid fun w => cloneR_any (Z := []) (w := w) (ao := ao) (n := 0) (c := c) rfl (by decide) (fun h => rfl) (fun i z h => by simp at h)
  have hmf : ∀ (fn : Fn) (first cap : Array Value) (w : World), (Instr.makeFunc fn first cap).run Tryz.prog w = .ok (.func fn first cap) w := fun _ _ _ _ => rfl
  go_enter Tryz.func43, Tryz.ntmps43
  go_upto_region 1 with fail
  generalize (w.alloc (.cells #[.func (.func M) #[] caps2] 104)).alloc (.cells #[.func (.func N) #[] caps] 101) = W at *
  go_wp2_with fail
  refine Calls.mono (HC.out _) ?_
  rintro e w1 ⟨a', c', rfl, ho, hb1⟩
  have hB := Below.on hw hb1
  have HQ : Hid (c' ≤ 9223372036854775807) := hid (by
    rcases ho.2.2 with ⟨e, _⟩ | ⟨g, cap, cur, e, hb, hg, hnc, hc, hs, ht⟩
    · injection e with _ _ e3; omega
    · injection e with _ _ e3; rw [e3]; simpa [maxLen] using hc)
  have HS : Hid (∀ fv, Calls Tryz.prog 72 #[.slice a' 0 c', fv] w1 fun e w' => e = .returned (.tuple #[]) ∧ w' = w1) := hid fun fv => stableF_of (Q := fun _ w' => w' = w1) (stableNil_any fv w1)
  clear HC ho hb1 hw
  go_wp2_with fail
  refine Calls.mono (HS.out _) ?_
  rintro e w2 ⟨rfl, rfl⟩
  clear HS
  go_wp2
  go_ret
  exact ⟨_, _, rfl, HQ.out, hB⟩
set_option maxRecDepth 100000 in
set_option maxHeartbeats 2000000 in
theorem sorted_any {L : List (List Vt)} {bn : Nat} {ds : Bool} (hm : L.length ≤ 20) (hp : 0 < L.length) (hb : ∀ l ∈ L, bn < l.length) {Q : Nat → Prop} {w : World} {a : Option Addr} {n c : Nat} (h : RowIs eRow Q w (.slice a n c) L) {vk vo : Value} (hk : KeyR w vk bn) (ho : CmpV w vo (fun x y => if ds then cmpVt y x else cmpVt x y)) :
    Calls Tryz.prog 43 #[.slice a n c, vk, vo] w fun e w' => ∃ a' c', e = .returned (.slice a' n c') ∧ RowIs eRow (fun _ => True) w' (.slice a' n c') (L.foldl (insP bn ds) []) ∧ Below w.heap.size w w' := by
  obtain ⟨l1, l2, l3⟩ := row_lens h
  have hw := bal (bal (Below.refl w.heap.size w) (.cells #[vk] 104)) (.cells #[vo] 101)
  have k0 := (Bk.new w (.cells #[vk] 104)).later (bal (Below.refl _ _) (.cells #[vo] 101))
  have o0 := Bk.new (w.alloc (.cells #[vk] 104)) (.cells #[vo] 101)
  rw [World.size_alloc] at o0
  have ck := k0.cell 0
  have co := o0.cell 0
  simp only [List.getElem?_toArray, List.getElem?_cons_zero] at ck co
  have hR := cmpR_of (ho.later hw) (hk.later hw) co ck
  obtain ⟨Z, hZn, hZm, hZr, hZc⟩ := rowsZ_ex (h.keep (by decide) fun b _ hl => hw.block b hl)
  have hbZ : ∀ z ∈ Z, bn < z.2.length := fun z hz => hb _ (hZm ▸ List.mem_map_of_mem hz)
  obtain ⟨N, caps, rfl, hcf, hN⟩ := ho
  obtain ⟨M, caps2, rfl, hcf2, hM⟩ := hk
  have hmf : ∀ (fn : Fn) (first cap : Array Value) (w : World), (Instr.makeFunc fn first cap).run Tryz.prog w = .ok (.func fn first cap) w := fun _ _ _ _ => rfl
  have hpn : 0 < n := by omega
  obtain ⟨b, o, ra, rn, rc, rfl, -, -, -⟩ := row1 h (k := 0) hp
  clear hN hM ck co k0 o0 h hb
  go_enter Tryz.func43, Tryz.ntmps43
  go_upto_region 1 with fail
  generalize (w.alloc (.cells #[.func (.func M) #[] caps2] 104)).alloc (.cells #[.func (.func N) #[] caps] 101) = W at *
  have HC : Hid _ := hid (cloneR_any (w := W) (c := c) hZn (by omega) (fun h => by cases h) hZc)
  clear hZc
  go_wp2_with fail
  refine Calls.mono HC.out ?_
  rintro e w1 ⟨a', c', rfl, ho, hb1⟩
  have hB := Below.on hw hb1
  obtain ⟨g, rfl, hgW, hgl, hG, hnc, hcm⟩ := ho.rowG hpn
  have HS : Hid _ := hid (stableF_of (Q := fun _ w' => StP W g n bn ds Z w') (stableR_any (cap := c') hR hgW hZn (by omega) (fun z hz => ⟨(hZr z hz).mono (by decide) fun _ _ _ => trivial, hbZ z hz⟩) hb1 hG hgl))
  have HE : Hid (∀ w', StP W g n bn ds Z w' → RowIs eRow (fun _ => True) w' (.slice (some ⟨g, 0, none⟩) n c') (L.foldl (insP bn ds) []) ∧ Below w.heap.size w w') := hid fun w' ⟨q1, Z', q2, q3, q4, q5⟩ => by
    rw [← hZm, ← q4]
    exact ⟨rowZ_of q3 hnc hcm q2 fun z hz => ((hZr z (q5 z hz)).keep (by decide) fun b _ hl => q1.block b hl).mono (by decide) fun _ _ _ => trivial, Below.on hw q1⟩
  clear HC ho hb1 hw hR hZr hbZ hG
  go_wp2_with fail
  refine Calls.mono HS.out ?_
  rintro e w2 ⟨rfl, hq⟩
  have HQ : Hid _ := hid (HE.out _ hq)
  clear HS HE hq
  go_wp2
  go_ret
  exact ⟨_, _, rfl, HQ.out.1, HQ.out.2⟩

end Go.Proofs.YtnlaaejdianfjabGreat
