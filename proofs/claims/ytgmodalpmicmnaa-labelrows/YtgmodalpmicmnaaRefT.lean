/- The walk of the document's own Take. -/
import Derived.Test.YtgmodalpmicmnaaRefB
namespace Go.Proofs.Ytgmodalpmicmnaa
open Go.RowKit
set_option linter.unusedVariables false

theorem tag_sum {x y : Int} (hx : 0 ≤ x ∧ x ≤ 255) (hy : 0 ≤ y ∧ y ≤ 255) : IntKind.u16.wrap (IntKind.u16.wrap (IntKind.u16.wrap x * 256) + IntKind.u16.wrap y) = x * 256 + y := by
  simp only [IntKind.wrap_u16]; omega

theorem snoc_rel1d {k : IntKind} {W0 wr w1 : World} {B e : Nat} {v v' : Value} {out : List Int} {x : Int} {o : Obj} (hown : wr.ownsRow B e 1 v out.length (out.map (Value.int k))) (hB : Below B W0 wr) (hs : B ≤ wr.heap.size)
    (hown' : w1.ownsRow B e 1 v' (out.length + 1) (out.map (Value.int k) ++ [.int k x])) (hg : (wr.alloc o).drew.grownBy w1 v.ownBlock) :
    w1.ownsRow B e 1 v' (out ++ [x]).length ((out ++ [x]).map (Value.int k)) ∧ Below B W0 w1 :=
  ⟨by simpa using hown', below_grown (hB.alloc hs o).drew (by show B ≤ (wr.alloc o).heap.size; simp; omega) (owns_drew (hown.alloc o)) (Nat.le_refl _) hg⟩

set_option maxHeartbeats 2000000 in
theorem refTake_any (ao : Option Addr) (n c : Nat) (bs : List Int) (w : World) (h : Rd .u8 w ao n c bs) (hu : ∀ x ∈ bs, 0 ≤ x ∧ x ≤ 255) :
    Calls Try.prog 31 #[.slice ao n c] w fun e w' => ∃ oo p q, e = .returned (.tuple #[.slice oo p q, .int .i64 (takeN bs), .int .i64 (takeE bs)]) ∧ Rd .u16 w' oo p q (takeT bs) ∧ Below w.heap.size w w' := by
  obtain ⟨i0, hi, hz0, hz1, hz2⟩ := info_parts Try.info30
  have hlen := h.len
  have hcap := h.cap
  have hmax := h.max
  cases bs with
  | nil =>
    obtain rfl : n = 0 := by simpa using hlen.symm
    go_enter Try.func31, Try.ntmps31
    go_wp2
    go_ret3
    exact ⟨none, 0, 0, rfl, Rd.nil _ _, Below.refl _ _⟩
  | cons m r =>
    obtain ⟨q, rfl⟩ : ∃ q, n = q + 1 := ⟨r.length, by simpa using hlen.symm⟩
    have hlr : r.length = q := by simpa using hlen
    obtain ⟨b, o, rfl, hc⟩ := h.cells (by omega)
    have hc0 := hc 0 (by omega)
    rw [nth_zero, Nat.add_zero] at hc0
    have hm := hu m (by simp)
    by_cases h8 : 8 < m
    · have e1 : takeE (m :: r) = 3 := by rw [takeE, if_pos h8]
      have e2 : takeT (m :: r) = [] := by rw [takeT, e1]; rfl
      have e3 : takeN (m :: r) = 0 := by rw [takeN, e1]; rfl
      rw [e1, e2, e3]
      clear e1 e2 e3 hc
      go_enter Try.func31, Try.ntmps31
      go_wp2
      go_ret3
      exact ⟨none, 0, 0, rfl, Rd.nil _ _, Below.refl _ _⟩
    · by_cases hs : (q : Int) < 2 * m
      · have e1 : takeE (m :: r) = 2 := by rw [takeE, if_neg h8, if_pos (by omega)]
        have e2 : takeT (m :: r) = [] := by rw [takeT, e1]; rfl
        have e3 : takeN (m :: r) = 0 := by rw [takeN, e1]; rfl
        rw [e1, e2, e3]
        clear e1 e2 e3 hc
        go_enter Try.func31, Try.ntmps31
        go_wp2
        go_ret3
        exact ⟨none, 0, 0, rfl, Rd.nil _ _, Below.refl _ _⟩
      · obtain ⟨k, rfl⟩ : ∃ k : Nat, m = k := ⟨m.toNat, by omega⟩
        have e1 : takeE ((k : Int) :: r) = if risesB (tagsL (r.take (2 * k))) then 0 else 3 := by rw [takeE, if_neg h8, if_neg (by omega)]; rfl
        have HC : Hid (∀ i, i < q → w.cell? ⟨b, o + (i + 1), none⟩ = some (.int .u8 (nth r i))) := fun i hi => by
          have := hc (i + 1) (by omega); rwa [nth_succ] at this
        have hu' : ∀ x ∈ r, 0 ≤ x ∧ x ≤ 255 := fun x hx => hu x (by simp [hx])
        have HU : Hid (∀ x ∈ r, 0 ≤ x ∧ x ≤ 255) := hu'
        have HE1 : Hid (takeE ((k : Int) :: r) = if risesB (tagsL (r.take (2 * k))) then 0 else 3) := e1
        clear hc hu hu' e1 hlen
        go_enter Try.func31, Try.ntmps31
        go_wp2
        go_loopw [6, 7] (fun v i wr => ∃ j : Nat, ∃ out : List Int, j ≤ k ∧ i = .int .i64 j ∧ out.length = j ∧ wr.ownsRow w.heap.size 30 1 v out.length (out.map (Value.int .u16)) ∧ Below w.heap.size w wr ∧ Hid (tagsL (r.take (2 * k)) = out ++ tagsL ((r.take (2 * k)).drop (2 * j)))) (fun _ i _ => k - (intOf i).toNat)
        case atStart => exact ⟨0, [], by omega, rfl, rfl, World.ownsRow_nil _ _ _ _, Below.refl _ _, rfl⟩
        case round =>
          obtain ⟨j, out, hj, rfl, hol, hown, hB, HE⟩ := hrel
          have hsz := hB.size
          by_cases hlt : j < k
          · have d0 := HC.out (2 * j) (by omega)
            have d1 := HC.out (2 * j + 1) (by omega)
            have x0 := HU.out _ (nth_mem (xs := r) (i := 2 * j) (by omega))
            have x1 := HU.out _ (nth_mem (xs := r) (i := 2 * j + 1) (by omega))
            have hts := tag_sum x0 x1
            obtain ⟨x, hx⟩ : ∃ x, x = nth r (2 * j) := ⟨_, rfl⟩
            obtain ⟨y, hy⟩ : ∃ y, y = nth r (2 * j + 1) := ⟨_, rfl⟩
            rw [← hx] at d0 x0 hts
            rw [← hy] at d1 x1 hts
            rw [show o + (2 * j + 1) = o + (1 + 2 * j) from by omega] at d0
            rw [show o + (2 * j + 1 + 1) = o + (2 + 2 * j) from by omega] at d1
            have g0 := cell_later hB d0
            have g1 := cell_later hB d1
            have HE2 : Hid (tagsL (r.take (2 * k)) = (out ++ [x * 256 + y]) ++ tagsL ((r.take (2 * k)).drop (2 * (j + 1)))) := by
              rw [Hid, HE.out, tagsL_step (by simp; omega), hx, hy]
              simp only [nth]
              rw [List.getElem?_take_of_lt (by omega), List.getElem?_take_of_lt (by omega)]
              simp [Nat.mul_add]
            have i1 : (1 : Int) + 2 * (j : Int) < (q : Int) + 1 := by omega
            have i2 : (2 : Int) + 2 * (j : Int) < (q : Int) + 1 := by omega
            have i3 : IntKind.i64.wrap (2 * (j : Int)) = 2 * (j : Int) := by rw [IntKind.wrap_i64]; omega
            have i4 : IntKind.i64.wrap (1 + 2 * (j : Int)) = 1 + 2 * (j : Int) := by rw [IntKind.wrap_i64]; omega
            have i5 : IntKind.i64.wrap (2 + 2 * (j : Int)) = 2 + 2 * (j : Int) := by rw [IntKind.wrap_i64]; omega
            have i6 : ((1 : Int) + 2 * (j : Int)).toNat = 1 + 2 * j := by omega
            have i7 : ((2 : Int) + 2 * (j : Int)).toNat = 2 + 2 * j := by omega
            have i8 : (0 : Int) ≤ 1 + 2 * (j : Int) := by omega
            have i9 : (0 : Int) ≤ 2 + 2 * (j : Int) := by omega
            clear HE hx hy
            go_wp2
            go_region_held3 (fun w' => w'.cell? ⟨b, o + (1 + 2 * j), none⟩ = some (.int .u8 x) ∧ w'.cell? ⟨b, o + (2 + 2 * j), none⟩ = some (.int .u8 y)) (first | go_keep | exact ⟨cell_later (snoc_rel1d hown hB hsz hown4 hg4).2 d0, cell_later (snoc_rel1d hown hB hsz hown4 hg4).2 d1⟩)
              ((refine step_append_own (by rfl) (.tmp 28) (.tmp 45) 24 (by rfl) w.heap.size 30 i0 (.int .u16 0) 1 2 Try.underlying24 hi hz0 hz1 hz2 rfl (by decide) _ out.length (out.map (Value.int .u16)) (by rfl) (by first | exact owns_drew (hown.alloc _) | exact hown.alloc _) _ 1 1 [.int .u16 (x * 256 + y)] (by rfl) (by rfl) (one_of (by simp [go_sem])) (ints_one .u16 [x * 256 + y]) (by unfold maxLen; omega) (by omega) (by simp; omega) ?_; intro v4 w4 hown4 hg4))
            all_goals
              have R := snoc_rel1d hown hB hsz hown4 hg4
              clear hown4 hg4 hown hB
              go_wp2
              go_roundw
              case rel => exact ⟨j + 1, out ++ [x * 256 + y], by omega, by go_num, by simp; omega, R.1, R.2, HE2⟩
              case measure => simp only [intOf]; omega
          · obtain rfl : j = k := by omega
            subst hol
            have HT : Hid (tagsL (r.take (2 * out.length)) = out) := by rw [Hid, HE.out, List.drop_eq_nil_of_le (by simp; omega)]; simp [tagsL]
            obtain ⟨oo, qq, hv, hrd⟩ := Rd.of_owns hown
            subst hv
            cases hr : risesB out with
            | false =>
              have hmy : mayB out = false := by rw [mayB, hr]; rfl
              have e1' : takeE ((out.length : Int) :: r) = 3 := by rw [HE1.out, HT.out, hr]; rfl
              have e2 : takeT ((out.length : Int) :: r) = [] := by rw [takeT, e1']; rfl
              have e3 : takeN ((out.length : Int) :: r) = 0 := by rw [takeN, e1']; rfl
              have HV : Hid (takeE ((out.length : Int) :: r) = 3 ∧ takeT ((out.length : Int) :: r) = [] ∧ takeN ((out.length : Int) :: r) = 0) := ⟨e1', e2, e3⟩
              clear e1' e2 e3
              go_wp2_with fail
              refine Calls.mono (refMay_b oo out.length qq out wr hrd) ?_
              rintro e w2 ⟨rfl, hb2⟩
              go_wp2
              go_ret3
              exact ⟨none, 0, 0, by rw [HV.out.1, HV.out.2.2]; rfl, by rw [HV.out.2.1]; exact Rd.nil _ _, hB.trans (hb2.mono hsz)⟩
            | true =>
              have hmy : mayB out = true := by rw [mayB, hr]; simp; omega
              have e1' : takeE ((out.length : Int) :: r) = 0 := by rw [HE1.out, HT.out, hr]; rfl
              have e2 : takeT ((out.length : Int) :: r) = out := by rw [takeT, e1', if_pos rfl]; exact HT.out
              have e3 : takeN ((out.length : Int) :: r) = 1 + 2 * (out.length : Int) := by rw [takeN, e1']; rfl
              have HV : Hid (takeE ((out.length : Int) :: r) = 0 ∧ takeT ((out.length : Int) :: r) = out ∧ takeN ((out.length : Int) :: r) = 1 + 2 * (out.length : Int)) := ⟨e1', e2, e3⟩
              clear e1' e2 e3
              go_wp2_with fail
              refine Calls.mono (refMay_b oo out.length qq out wr hrd) ?_
              rintro e w2 ⟨rfl, hb2⟩
              go_wp2
              go_ret3
              exact ⟨oo, out.length, qq, by rw [HV.out.1, HV.out.2.2]; rfl, by rw [HV.out.2.1]; exact hrd.later hb2, hB.trans (hb2.mono hsz)⟩

end Go.Proofs.Ytgmodalpmicmnaa
