/- The walk of the library's heapSort, at tags. -/
import Derived.Test.YtghifjiohgninaaS2
namespace Go.Proofs.Ytghifjiohgninaa
open Go.RowKit
open Go.Sort (swp PermIn SortedIn ltInt)
set_option linter.unusedVariables false

theorem sift_size (hi f r : Nat) (d : Array Int) : (Sort.siftDown ltInt hi f r d).size = d.size := by
  fun_induction Sort.siftDown ltInt hi f r d <;> simp_all [swp_size]

set_option maxHeartbeats 2000000 in
theorem heap_any (g cap n a b hi m : Nat) (d : Array Int) (w0 w : World) (h : SW g cap w0 w d) (hhi : 0 < hi) (hb : b ≤ a + hi) (hb2 : a + hi ≤ b) (hbn : b ≤ d.size) (hm : m = (hi - 1) / 2) (hn : d.size = n) (hn2 : n ≤ 1000) :
    Calls Try.prog 33 #[.slice (some ⟨g, 0, none⟩) n cap, .int .i64 a, .int .i64 b] w fun e w' => e = .returned (.tuple #[]) ∧ SW g cap w0 w' (Sort.heapSort ltInt d a b) := by
  subst hn
  have HH : Hid (Sort.heapSort ltInt d a b = Sort.heapPop ltInt a hi (Sort.heapBuild ltInt hi a (m + 1) d)) := by
    rw [Hid, Sort.heapSort, hm]
    have : b - a = hi := by omega
    rw [this]
  have hba : (b : Int) - (a : Int) = (hi : Int) := by omega
  have HM : Hid (((hi : Int) - 1) / 2 = (m : Int)) := by rw [Hid]; omega
  have hm2 : m ≤ 1000 := by omega
  clear hm
  go_enter Try.func33, Try.ntmps33
  go_wp2
  go_loopw [9] (fun iv wr => ∃ k : Nat, ∃ d1 : Array Int, k ≤ m + 1 ∧ iv = .int .i64 ((k : Int) - 1) ∧ SW g cap w0 wr d1 ∧ d1.size = d.size ∧ Hid (Sort.heapBuild ltInt hi a (m + 1) d = Sort.heapBuild ltInt hi a k d1)) (fun iv _ => (intOf iv + 1).toNat)
  case atStart => exact ⟨m + 1, d, Nat.le_refl _, by rw [HM.out]; congr 1; omega, h, rfl, rfl⟩
  case round =>
    obtain ⟨k, d1, hk, rfl, hS, hd1, HE⟩ := hrel
    clear h
    cases k with
    | succ k =>
      have e1 : ((k + 1 : Nat) : Int) - 1 = (k : Int) := by omega
      rw [e1]
      have HE2 : Hid (Sort.heapBuild ltInt hi a (m + 1) d = Sort.heapBuild ltInt hi a k (Sort.siftDown ltInt hi a k d1)) := HE.out
      have hkk : k ≤ 1000 := by omega
      clear HE e1
      go_wp2_with fail
      refine Calls.mono (sift_any g cap d.size k hi a d1 w0 _ hS (by omega) hd1 hn2 hkk) ?_
      rintro e w1 ⟨rfl, hS1⟩
      go_wp2
      go_roundw
      case rel => exact ⟨k, _, by omega, by congr 1 <;> omega, hS1, by rw [sift_size]; exact hd1, HE2⟩
      case measure => simp only [intOf]; omega
    | zero =>
      have HE2 : Hid (Sort.heapSort ltInt d a b = Sort.heapPop ltInt a hi d1) := by rw [Hid, HH.out, HE.out]; rfl
      clear HE HH
      rw [show (((0 : Nat) : Int) - 1) = -1 from rfl]
      go_wp2
      go_loopw [10] (fun iv wr => ∃ k : Nat, ∃ d2 : Array Int, k ≤ hi ∧ iv = .int .i64 ((k : Int) - 1) ∧ SW g cap w0 wr d2 ∧ d2.size = d.size ∧ Hid (Sort.heapSort ltInt d a b = Sort.heapPop ltInt a k d2)) (fun iv _ => (intOf iv + 1).toNat)
      case atStart => exact ⟨hi, d1, Nat.le_refl _, rfl, hS, hd1, HE2⟩
      case round =>
        clear hS HE2
        obtain ⟨k, d2, hk, rfl, hS, hd2, HE⟩ := hrel
        cases k with
        | succ k =>
          have e1 : ((k + 1 : Nat) : Int) - 1 = (k : Int) := by omega
          rw [e1]
          have HE2 : Hid (Sort.heapSort ltInt d a b = Sort.heapPop ltInt a k (Sort.siftDown ltInt k a 0 (swp d2 a (a + k)))) := HE.out
          clear HE e1
          have a5 : (a : Int) < (d.size : Int) := by omega
          have z1 := hS.cell (j := a) (by omega)
          have y1 := hS.free a
          cases k with
          | zero =>
            have HSw : Hid (∀ m, SW g cap w0 (((wr.drewN m).setCell ⟨g, a, none⟩ (.int .u16 d2[a]!)).setCell ⟨g, a, none⟩ (.int .u16 d2[a]!)) (swp d2 a (a + 0))) := fun m => (hS.drewN m).swap a (a + 0)
            clear hS
            rw [show ((0 : Nat) : Int) = 0 from rfl]
            go_wp2
            go_region
            all_goals
              go_wp2_with fail
              refine Calls.mono (sift_any g cap d.size 0 0 a (swp d2 a (a + 0)) w0 _ (by first | exact HSw.out 1 | exact HSw.out _) (by rw [swp_size]; omega) (by rw [swp_size]; exact hd2) hn2 (by omega)) ?_
              rintro e w1 ⟨rfl, hS1⟩
              go_wp2
              go_roundw
              case rel => exact ⟨0, _, by omega, by congr 1 <;> omega, hS1, by rw [sift_size, swp_size]; exact hd2, HE2⟩
              case measure => simp only [intOf]; omega
          | succ k =>
            have a1 : IntKind.i64.wrap ((a : Int) + ((k : Int) + 1)) = (a : Int) + ((k : Int) + 1) := by rw [IntKind.wrap_i64]; omega
            have a2 : ((a : Int) + ((k : Int) + 1)).toNat = a + (k + 1) := by omega
            have a3 : (a : Int) + ((k : Int) + 1) < (d.size : Int) := by omega
            have a4 : (0 : Int) ≤ (a : Int) + ((k : Int) + 1) := by omega
            have z2 := hS.cell (j := a + (k + 1)) (by omega)
            have y2 := hS.free (a + (k + 1))
            have HSw : Hid (∀ m, SW g cap w0 (((wr.drewN m).setCell ⟨g, a, none⟩ (.int .u16 d2[a + (k + 1)]!)).setCell ⟨g, a + (k + 1), none⟩ (.int .u16 d2[a]!)) (swp d2 a (a + (k + 1)))) := fun m => (hS.drewN m).swap a (a + (k + 1))
            clear hS
            go_wp2
            go_region
            all_goals
              go_wp2_with fail
              refine Calls.mono (sift_any g cap d.size 0 (k + 1) a (swp d2 a (a + (k + 1))) w0 _ (by first | exact HSw.out 1 | exact HSw.out _) (by rw [swp_size]; omega) (by rw [swp_size]; exact hd2) hn2 (by omega)) ?_
              rintro e w1 ⟨rfl, hS1⟩
              go_wp2
              go_roundw
              case rel => exact ⟨k + 1, _, by omega, by congr 1 <;> omega, hS1, by rw [sift_size, swp_size]; exact hd2, HE2⟩
              case measure => simp only [intOf]; omega
        | zero =>
          go_wp2
          go_end0
          exact ⟨rfl, by rw [HE.out]; exact hS⟩

end Go.Proofs.Ytghifjiohgninaa
