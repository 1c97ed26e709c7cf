import Derived.Test.YtmfoenhbldacfaaQba
import Derived.Deep.DeepCutAuto
/- The walks of the library's siftDown, heapSort and reverseRange, at tags. -/
namespace Go.Proofs.Ytmfoenhbldacfaa
open Go.RowKit
open Go.Sort (swp PermIn SortedIn ltInt)
set_option linter.unusedVariables false

/-- The greater child. -/
def childOf (hi f r : Nat) (d : Array Int) : Nat := if 2 * r + 2 < hi ∧ d[f + (2 * r + 1)]! < d[f + (2 * r + 1) + 1]! then 2 * r + 2 else 2 * r + 1

theorem child_lt {hi f r : Nat} {d : Array Int} (h : 2 * r + 1 < hi) : childOf hi f r d < hi ∧ r < childOf hi f r d := by
  rw [childOf]; split <;> omega

theorem sift_end {hi f r : Nat} {d : Array Int} (h : hi ≤ 2 * r + 1) : Sort.siftDown ltInt hi f r d = d := by
  rw [Sort.siftDown, dif_pos h]

theorem sift_stop {hi f r : Nat} {d : Array Int} (h : 2 * r + 1 < hi) (h2 : ¬ d[f + r]! < d[f + childOf hi f r d]!) : Sort.siftDown ltInt hi f r d = d := by
  rw [Sort.siftDown, dif_neg (by omega)]
  rw [childOf] at h2
  split at h2
  · rename_i hc
    rw [if_pos (by simp [ltInt, hc.2]; omega), if_pos (by simp [ltInt, h2])]
  · rename_i hc
    rw [if_neg (by simp [ltInt]; intro h3; exact Int.not_lt.1 fun h4 => hc ⟨h3, h4⟩), if_pos (by simp [ltInt, h2])]

theorem sift_step {hi f r : Nat} {d : Array Int} (h : 2 * r + 1 < hi) (h2 : d[f + r]! < d[f + childOf hi f r d]!) : Sort.siftDown ltInt hi f r d = Sort.siftDown ltInt hi f (childOf hi f r d) (swp d (f + r) (f + childOf hi f r d)) := by
  rw [Sort.siftDown, dif_neg (by omega)]
  rw [childOf] at h2 ⊢
  split at h2
  · rename_i hc
    rw [if_pos (by simp [ltInt, hc.2]; omega), if_neg (by simp [ltInt, h2]), dif_pos hc.1, if_pos hc]
  · rename_i hc
    rw [if_neg (by simp [ltInt]; intro h3; exact Int.not_lt.1 fun h4 => hc ⟨h3, h4⟩), if_neg (by simp [ltInt, h2]), if_neg hc]

set_option maxHeartbeats 2000000 in
theorem sift_any (g cap n lo hi f : Nat) (d : Array Int) (w0 w : World) (h : SW g cap w0 w d) (hbn : f + hi ≤ d.size) (hn : d.size = n) (hn2 : n ≤ 1000) (hlo : lo ≤ 1000) :
    Calls Try.prog 86 #[.slice (some ⟨g, 0, none⟩) n cap, .int .i64 lo, .int .i64 hi, .int .i64 f] w fun e w' => e = .returned (.tuple #[]) ∧ SW g cap w0 w' (Sort.siftDown ltInt hi f lo d) := by
  subst hn
  go_enter Try.func86, Try.ntmps86
  go_wp2
  go_loopw [8] (fun rv wr => ∃ r : Nat, ∃ d1 : Array Int, r ≤ 1000 ∧ rv = .int .i64 r ∧ SW g cap w0 wr d1 ∧ d1.size = d.size ∧ Hid (Sort.siftDown ltInt hi f lo d = Sort.siftDown ltInt hi f r d1)) (fun rv _ => hi - (intOf rv).toNat)
  case atStart => exact ⟨lo, d, hlo, rfl, h, rfl, rfl⟩
  case round =>
    obtain ⟨r, d1, hr, rfl, hS, hd1, HE⟩ := hrel
    clear h
    by_cases hc : 2 * r + 1 < hi
    · have hcl := child_lt (hi := hi) (f := f) (r := r) (d := d1) hc
      by_cases hc2 : 2 * r + 2 < hi
      · have c1 := hS.cell (j := f + (2 * r + 1)) (by omega)
        have c2 := hS.cell (j := f + (2 * r + 1) + 1) (by omega)
        have g1 : decide ((2 : Int) * (r : Int) + 1 + 1 < (hi : Int)) = true := by simp; omega
        by_cases hxy : d1[f + (2 * r + 1)]! < d1[f + (2 * r + 1) + 1]!
        · have HCh : Hid (childOf hi f r d1 = 2 * r + 1 + 1) := by rw [Hid, childOf, if_pos ⟨hc2, hxy⟩]
          have a1 : IntKind.i64.wrap ((f : Int) + (r : Int)) = (f : Int) + (r : Int) := by rw [IntKind.wrap_i64]; omega
          have a2 : ((f : Int) + (r : Int)).toNat = f + r := by omega
          have a3 : (f : Int) + (r : Int) < (d.size : Int) := by omega
          have a4 : (0 : Int) ≤ (f : Int) + (r : Int) := by omega
          have b1 : IntKind.i64.wrap ((f : Int) + (2 * (r : Int) + 1 + 1)) = (f : Int) + (2 * (r : Int) + 1 + 1) := by rw [IntKind.wrap_i64]; omega
          have b2 : ((f : Int) + (2 * (r : Int) + 1 + 1)).toNat = f + (2 * r + 1 + 1) := by omega
          have b3 : (f : Int) + (2 * (r : Int) + 1 + 1) < (d.size : Int) := by omega
          have b4 : (0 : Int) ≤ (f : Int) + (2 * (r : Int) + 1 + 1) := by omega
          have hcc : f + (2 * r + 1 + 1) < d.size := by omega
          have z1 := hS.cell (j := f + r) (by omega)
          have z2 := hS.cell (j := f + (2 * r + 1 + 1)) (by omega)
          have y1 := hS.free (f + r)
          have y2 := hS.free (f + (2 * r + 1 + 1))
          obtain ⟨u, hu⟩ : ∃ u, u = d1[f + r]! := ⟨_, rfl⟩
          obtain ⟨v, hv⟩ : ∃ v, v = d1[f + (2 * r + 1 + 1)]! := ⟨_, rfl⟩
          rw [← hu] at z1
          rw [← hv] at z2
          by_cases huv : u < v
          · have HE2 : Hid (Sort.siftDown ltInt hi f lo d = Sort.siftDown ltInt hi f (2 * r + 1 + 1) (swp d1 (f + r) (f + (2 * r + 1 + 1)))) := by
              have e := HE.out
              rw [sift_step hc (by rw [HCh.out, ← hu, ← hv]; exact huv), HCh.out] at e
              exact e
            have HX : Hid (u = d1[f + r]! ∧ v = d1[f + (2 * r + 1 + 1)]!) := ⟨hu, hv⟩
            clear HE hu hv hcl
            go_wp2
            go_quiet ((go_at_call 78; exact Calls.quiet_of_same (less_any _ _ _)))
            go_wp2
            generalize hV : wr.drewN nq = V
            have hSV : SW g cap w0 V d1 := by rw [← hV]; exact hS.drewN _
            have v1 : V.cell? ⟨g, f + r, none⟩ = some (.int .u64 u) := by rw [← hV]; exact z1
            have v2 : V.cell? ⟨g, f + (2 * r + 1 + 1), none⟩ = some (.int .u64 v) := by rw [← hV]; exact z2
            have v3 : V.frozen? ⟨g, f + r, none⟩ = false := by rw [← hV]; exact y1
            have v4 : V.frozen? ⟨g, f + (2 * r + 1 + 1), none⟩ = false := by rw [← hV]; exact y2
            clear hV hS z1 z2 y1 y2
            go_quiet ((go_at_call 78; exact Calls.quiet_of_same (less_any _ _ _)))
            go_wp2
            generalize hW : V.drewN nq = W
            have hSW : SW g cap w0 W d1 := by rw [← hW]; exact hSV.drewN _
            have e1 : W.cell? ⟨g, f + r, none⟩ = some (.int .u64 u) := by rw [← hW]; exact v1
            have e0 : W.cell? ⟨g, f + (2 * r + 1 + 1), none⟩ = some (.int .u64 v) := by rw [← hW]; exact v2
            have e3 : W.frozen? ⟨g, f + r, none⟩ = false := by rw [← hW]; exact v3
            have e4 : W.frozen? ⟨g, f + (2 * r + 1 + 1), none⟩ = false := by rw [← hW]; exact v4
            have HSw : Hid (∀ m, SW g cap w0 (((W.drewN m).setCell ⟨g, f + r, none⟩ (.int .u64 v)).setCell ⟨g, f + (2 * r + 1 + 1), none⟩ (.int .u64 u)) (swp d1 (f + r) (f + (2 * r + 1 + 1)))) := fun m => by
              have := (hSW.drewN m).swap (f + r) (f + (2 * r + 1 + 1))
              rw [← HX.out.1, ← HX.out.2] at this
              exact this
            clear hW hSV v1 v2 v3 v4
            go_region
            all_goals
              go_wp2
              go_roundw
              case rel => exact ⟨2 * r + 1 + 1, swp d1 (f + r) (f + (2 * r + 1 + 1)), by omega, by go_num, by first | exact HSw.out 1 | exact HSw.out _, by rw [swp_size]; exact hd1, HE2⟩
              case measure => simp only [intOf]; omega
          · have HE2 : Hid (Sort.siftDown ltInt hi f lo d = d1) := by rw [Hid, HE.out, sift_stop hc (by rw [HCh.out, ← hu, ← hv]; exact huv)]
            have hd : decide (u < v) = false := by simp; omega
            clear HE hu hv hcl
            go_wp2
            go_quiet ((go_at_call 78; exact Calls.quiet_of_same (less_any _ _ _)))
            go_wp2
            generalize hV : wr.drewN nq = V
            have hSV : SW g cap w0 V d1 := by rw [← hV]; exact hS.drewN _
            have v1 : V.cell? ⟨g, f + r, none⟩ = some (.int .u64 u) := by rw [← hV]; exact z1
            have v2 : V.cell? ⟨g, f + (2 * r + 1 + 1), none⟩ = some (.int .u64 v) := by rw [← hV]; exact z2
            have v3 : V.frozen? ⟨g, f + r, none⟩ = false := by rw [← hV]; exact y1
            have v4 : V.frozen? ⟨g, f + (2 * r + 1 + 1), none⟩ = false := by rw [← hV]; exact y2
            clear hV hS z1 z2 y1 y2
            go_quiet ((go_at_call 78; exact Calls.quiet_of_same (less_any _ _ _)))
            go_wp2
            all_goals first
              | (exfalso; omega)
              | (refine bodyPost_ret (results_none rfl _ _ _) rfl ?_; exact ⟨rfl, by rw [HE2.out]; exact hSV.drewN _⟩)
        · have HCh : Hid (childOf hi f r d1 = 2 * r + 1) := by rw [Hid, childOf, if_neg (fun h => hxy h.2)]
          have a1 : IntKind.i64.wrap ((f : Int) + (r : Int)) = (f : Int) + (r : Int) := by rw [IntKind.wrap_i64]; omega
          have a2 : ((f : Int) + (r : Int)).toNat = f + r := by omega
          have a3 : (f : Int) + (r : Int) < (d.size : Int) := by omega
          have a4 : (0 : Int) ≤ (f : Int) + (r : Int) := by omega
          have b1 : IntKind.i64.wrap ((f : Int) + (2 * (r : Int) + 1)) = (f : Int) + (2 * (r : Int) + 1) := by rw [IntKind.wrap_i64]; omega
          have b2 : ((f : Int) + (2 * (r : Int) + 1)).toNat = f + (2 * r + 1) := by omega
          have b3 : (f : Int) + (2 * (r : Int) + 1) < (d.size : Int) := by omega
          have b4 : (0 : Int) ≤ (f : Int) + (2 * (r : Int) + 1) := by omega
          have hcc : f + (2 * r + 1) < d.size := by omega
          have z1 := hS.cell (j := f + r) (by omega)
          have z2 := hS.cell (j := f + (2 * r + 1)) (by omega)
          have y1 := hS.free (f + r)
          have y2 := hS.free (f + (2 * r + 1))
          obtain ⟨u, hu⟩ : ∃ u, u = d1[f + r]! := ⟨_, rfl⟩
          obtain ⟨v, hv⟩ : ∃ v, v = d1[f + (2 * r + 1)]! := ⟨_, rfl⟩
          rw [← hu] at z1
          rw [← hv] at z2 c1 hxy
          by_cases huv : u < v
          · have HE2 : Hid (Sort.siftDown ltInt hi f lo d = Sort.siftDown ltInt hi f (2 * r + 1) (swp d1 (f + r) (f + (2 * r + 1)))) := by
              have e := HE.out
              rw [sift_step hc (by rw [HCh.out, ← hu, ← hv]; exact huv), HCh.out] at e
              exact e
            have HX : Hid (u = d1[f + r]! ∧ v = d1[f + (2 * r + 1)]!) := ⟨hu, hv⟩
            clear HE hu hv hcl
            go_wp2
            go_quiet ((go_at_call 78; exact Calls.quiet_of_same (less_any _ _ _)))
            go_wp2
            generalize hV : wr.drewN nq = V
            have hSV : SW g cap w0 V d1 := by rw [← hV]; exact hS.drewN _
            have v1 : V.cell? ⟨g, f + r, none⟩ = some (.int .u64 u) := by rw [← hV]; exact z1
            have v2 : V.cell? ⟨g, f + (2 * r + 1), none⟩ = some (.int .u64 v) := by rw [← hV]; exact z2
            have v3 : V.frozen? ⟨g, f + r, none⟩ = false := by rw [← hV]; exact y1
            have v4 : V.frozen? ⟨g, f + (2 * r + 1), none⟩ = false := by rw [← hV]; exact y2
            clear hV hS z1 z2 y1 y2
            go_quiet ((go_at_call 78; exact Calls.quiet_of_same (less_any _ _ _)))
            go_wp2
            generalize hW : V.drewN nq = W
            have hSW : SW g cap w0 W d1 := by rw [← hW]; exact hSV.drewN _
            have e1 : W.cell? ⟨g, f + r, none⟩ = some (.int .u64 u) := by rw [← hW]; exact v1
            have e0 : W.cell? ⟨g, f + (2 * r + 1), none⟩ = some (.int .u64 v) := by rw [← hW]; exact v2
            have e3 : W.frozen? ⟨g, f + r, none⟩ = false := by rw [← hW]; exact v3
            have e4 : W.frozen? ⟨g, f + (2 * r + 1), none⟩ = false := by rw [← hW]; exact v4
            have HSw : Hid (∀ m, SW g cap w0 (((W.drewN m).setCell ⟨g, f + r, none⟩ (.int .u64 v)).setCell ⟨g, f + (2 * r + 1), none⟩ (.int .u64 u)) (swp d1 (f + r) (f + (2 * r + 1)))) := fun m => by
              have := (hSW.drewN m).swap (f + r) (f + (2 * r + 1))
              rw [← HX.out.1, ← HX.out.2] at this
              exact this
            clear hW hSV v1 v2 v3 v4
            go_region
            all_goals
              go_wp2
              go_roundw
              case rel => exact ⟨2 * r + 1, swp d1 (f + r) (f + (2 * r + 1)), by omega, by go_num, by first | exact HSw.out 1 | exact HSw.out _, by rw [swp_size]; exact hd1, HE2⟩
              case measure => simp only [intOf]; omega
          · have HE2 : Hid (Sort.siftDown ltInt hi f lo d = d1) := by rw [Hid, HE.out, sift_stop hc (by rw [HCh.out, ← hu, ← hv]; exact huv)]
            have hd : decide (u < v) = false := by simp; omega
            clear HE hu hv hcl
            go_wp2
            go_quiet ((go_at_call 78; exact Calls.quiet_of_same (less_any _ _ _)))
            go_wp2
            generalize hV : wr.drewN nq = V
            have hSV : SW g cap w0 V d1 := by rw [← hV]; exact hS.drewN _
            have v1 : V.cell? ⟨g, f + r, none⟩ = some (.int .u64 u) := by rw [← hV]; exact z1
            have v2 : V.cell? ⟨g, f + (2 * r + 1), none⟩ = some (.int .u64 v) := by rw [← hV]; exact z2
            have v3 : V.frozen? ⟨g, f + r, none⟩ = false := by rw [← hV]; exact y1
            have v4 : V.frozen? ⟨g, f + (2 * r + 1), none⟩ = false := by rw [← hV]; exact y2
            clear hV hS z1 z2 y1 y2
            go_quiet ((go_at_call 78; exact Calls.quiet_of_same (less_any _ _ _)))
            go_wp2
            all_goals first
              | (exfalso; omega)
              | (refine bodyPost_ret (results_none rfl _ _ _) rfl ?_; exact ⟨rfl, by rw [HE2.out]; exact hSV.drewN _⟩)
      · have g1 : decide ((2 : Int) * (r : Int) + 1 + 1 < (hi : Int)) = false := by simp; omega
        have HCh : Hid (childOf hi f r d1 = 2 * r + 1) := by rw [Hid, childOf, if_neg (fun h => hc2 h.1)]
        have a1 : IntKind.i64.wrap ((f : Int) + (r : Int)) = (f : Int) + (r : Int) := by rw [IntKind.wrap_i64]; omega
        have a2 : ((f : Int) + (r : Int)).toNat = f + r := by omega
        have a3 : (f : Int) + (r : Int) < (d.size : Int) := by omega
        have a4 : (0 : Int) ≤ (f : Int) + (r : Int) := by omega
        have b1 : IntKind.i64.wrap ((f : Int) + (2 * (r : Int) + 1)) = (f : Int) + (2 * (r : Int) + 1) := by rw [IntKind.wrap_i64]; omega
        have b2 : ((f : Int) + (2 * (r : Int) + 1)).toNat = f + (2 * r + 1) := by omega
        have b3 : (f : Int) + (2 * (r : Int) + 1) < (d.size : Int) := by omega
        have b4 : (0 : Int) ≤ (f : Int) + (2 * (r : Int) + 1) := by omega
        have hcc : f + (2 * r + 1) < d.size := by omega
        have z1 := hS.cell (j := f + r) (by omega)
        have z2 := hS.cell (j := f + (2 * r + 1)) (by omega)
        have y1 := hS.free (f + r)
        have y2 := hS.free (f + (2 * r + 1))
        obtain ⟨u, hu⟩ : ∃ u, u = d1[f + r]! := ⟨_, rfl⟩
        obtain ⟨v, hv⟩ : ∃ v, v = d1[f + (2 * r + 1)]! := ⟨_, rfl⟩
        rw [← hu] at z1
        rw [← hv] at z2
        by_cases huv : u < v
        · have HE2 : Hid (Sort.siftDown ltInt hi f lo d = Sort.siftDown ltInt hi f (2 * r + 1) (swp d1 (f + r) (f + (2 * r + 1)))) := by
            have e := HE.out
            rw [sift_step hc (by rw [HCh.out, ← hu, ← hv]; exact huv), HCh.out] at e
            exact e
          have HX : Hid (u = d1[f + r]! ∧ v = d1[f + (2 * r + 1)]!) := ⟨hu, hv⟩
          clear HE hu hv hcl
          go_wp2
          go_quiet ((go_at_call 78; exact Calls.quiet_of_same (less_any _ _ _)))
          go_wp2
          generalize hV : wr.drewN nq = V
          have hSV : SW g cap w0 V d1 := by rw [← hV]; exact hS.drewN _
          have v1 : V.cell? ⟨g, f + r, none⟩ = some (.int .u64 u) := by rw [← hV]; exact z1
          have v2 : V.cell? ⟨g, f + (2 * r + 1), none⟩ = some (.int .u64 v) := by rw [← hV]; exact z2
          have v3 : V.frozen? ⟨g, f + r, none⟩ = false := by rw [← hV]; exact y1
          have v4 : V.frozen? ⟨g, f + (2 * r + 1), none⟩ = false := by rw [← hV]; exact y2
          clear hV hS z1 z2 y1 y2
          go_quiet ((go_at_call 78; exact Calls.quiet_of_same (less_any _ _ _)))
          go_wp2
          generalize hW : V.drewN nq = W
          have hSW : SW g cap w0 W d1 := by rw [← hW]; exact hSV.drewN _
          have e1 : W.cell? ⟨g, f + r, none⟩ = some (.int .u64 u) := by rw [← hW]; exact v1
          have e0 : W.cell? ⟨g, f + (2 * r + 1), none⟩ = some (.int .u64 v) := by rw [← hW]; exact v2
          have e3 : W.frozen? ⟨g, f + r, none⟩ = false := by rw [← hW]; exact v3
          have e4 : W.frozen? ⟨g, f + (2 * r + 1), none⟩ = false := by rw [← hW]; exact v4
          have HSw : Hid (∀ m, SW g cap w0 (((W.drewN m).setCell ⟨g, f + r, none⟩ (.int .u64 v)).setCell ⟨g, f + (2 * r + 1), none⟩ (.int .u64 u)) (swp d1 (f + r) (f + (2 * r + 1)))) := fun m => by
            have := (hSW.drewN m).swap (f + r) (f + (2 * r + 1))
            rw [← HX.out.1, ← HX.out.2] at this
            exact this
          clear hW hSV v1 v2 v3 v4
          go_region
          all_goals
            go_wp2
            go_roundw
            case rel => exact ⟨2 * r + 1, swp d1 (f + r) (f + (2 * r + 1)), by omega, by go_num, by first | exact HSw.out 1 | exact HSw.out _, by rw [swp_size]; exact hd1, HE2⟩
            case measure => simp only [intOf]; omega
        · have HE2 : Hid (Sort.siftDown ltInt hi f lo d = d1) := by rw [Hid, HE.out, sift_stop hc (by rw [HCh.out, ← hu, ← hv]; exact huv)]
          have hd : decide (u < v) = false := by simp; omega
          clear HE hu hv hcl
          go_wp2
          go_quiet ((go_at_call 78; exact Calls.quiet_of_same (less_any _ _ _)))
          go_wp2
          generalize hV : wr.drewN nq = V
          have hSV : SW g cap w0 V d1 := by rw [← hV]; exact hS.drewN _
          have v1 : V.cell? ⟨g, f + r, none⟩ = some (.int .u64 u) := by rw [← hV]; exact z1
          have v2 : V.cell? ⟨g, f + (2 * r + 1), none⟩ = some (.int .u64 v) := by rw [← hV]; exact z2
          have v3 : V.frozen? ⟨g, f + r, none⟩ = false := by rw [← hV]; exact y1
          have v4 : V.frozen? ⟨g, f + (2 * r + 1), none⟩ = false := by rw [← hV]; exact y2
          clear hV hS z1 z2 y1 y2
          go_quiet ((go_at_call 78; exact Calls.quiet_of_same (less_any _ _ _)))
          go_wp2
          all_goals first
            | (exfalso; omega)
            | (refine bodyPost_ret (results_none rfl _ _ _) rfl ?_; exact ⟨rfl, by rw [HE2.out]; exact hSV.drewN _⟩)
    · go_wp2
      go_end0
      exact ⟨rfl, by rw [HE.out, sift_end (by omega)]; exact hS⟩

end Go.Proofs.Ytmfoenhbldacfaa
