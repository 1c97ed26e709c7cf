/- The walks of the document's own Add, Sub, Mul, Neg: they answer as num does. -/
import Derived.Test.YtalhfhaaibmfoaaDoorN1
namespace Go.Proofs.YtalhfhaaibmfoaaDoor
open Go.RowKit
set_option linter.unusedVariables false

set_option maxRecDepth 100000 in
theorem refAdd_any (a b : Int) (ha : Fits a) (hb : Fits b) (w : World) : Calls Tryd.prog 10 #[.int .i64 a, .int .i64 b] w fun e w' => e = .returned (nA (a + b)) ∧ w' = w := by
  obtain ⟨a1, a2⟩ := ha
  obtain ⟨b1, b2⟩ := hb
  rcases Int.lt_trichotomy b 0 with h0 | h0 | h0
  · have g1 : decide (0 < b) = false := by simp; omega
    have g2 : decide (b < 0) = true := by simpa using h0
    by_cases h : Fits (a + b)
    · rw [nA_in h]
      obtain ⟨k1, k2⟩ := h
      have g3 : decide (a < -9223372036854775808 - b) = false := by simp; omega
      go_enter Tryd.func10, Tryd.ntmps10
      go_wp2
      go_ret2
      exact ⟨rfl, rfl⟩
    · rw [nA_out h]
      unfold Fits at h
      have g3 : decide (a < -9223372036854775808 - b) = true := by simp; omega
      clear h
      go_enter Tryd.func10, Tryd.ntmps10
      go_wp2
      go_ret2
      exact ⟨rfl, rfl⟩
  · subst h0
    have h : Fits (a + 0) := by unfold Fits; omega
    rw [nA_in h]
    rw [Int.add_zero] at *
    go_enter Tryd.func10, Tryd.ntmps10
    go_wp2
    go_ret2
    exact ⟨by simp, rfl⟩
  · have g1 : decide (0 < b) = true := by simpa using h0
    have g2 : decide (b < 0) = false := by simp; omega
    by_cases h : Fits (a + b)
    · rw [nA_in h]
      obtain ⟨k1, k2⟩ := h
      have g3 : decide (9223372036854775807 - b < a) = false := by simp; omega
      go_enter Tryd.func10, Tryd.ntmps10
      go_wp2
      go_ret2
      exact ⟨rfl, rfl⟩
    · rw [nA_out h]
      unfold Fits at h
      have g3 : decide (9223372036854775807 - b < a) = true := by simp; omega
      clear h
      go_enter Tryd.func10, Tryd.ntmps10
      go_wp2
      go_ret2
      exact ⟨rfl, rfl⟩

set_option maxRecDepth 100000 in
theorem refSub_any (a b : Int) (ha : Fits a) (hb : Fits b) (w : World) : Calls Tryd.prog 12 #[.int .i64 a, .int .i64 b] w fun e w' => e = .returned (nA (a - b)) ∧ w' = w := by
  obtain ⟨a1, a2⟩ := ha
  obtain ⟨b1, b2⟩ := hb
  rcases Int.lt_trichotomy b 0 with h0 | h0 | h0
  · have g1 : decide (0 < b) = false := by simp; omega
    have g2 : decide (b < 0) = true := by simpa using h0
    by_cases h : Fits (a - b)
    · rw [nA_in h]
      obtain ⟨k1, k2⟩ := h
      have g3 : decide (9223372036854775807 + b < a) = false := by simp; omega
      go_enter Tryd.func12, Tryd.ntmps12
      go_wp2
      go_ret2
      exact ⟨rfl, rfl⟩
    · rw [nA_out h]
      unfold Fits at h
      have g3 : decide (9223372036854775807 + b < a) = true := by simp; omega
      clear h
      go_enter Tryd.func12, Tryd.ntmps12
      go_wp2
      go_ret2
      exact ⟨rfl, rfl⟩
  · subst h0
    have h : Fits (a - 0) := by unfold Fits; omega
    rw [nA_in h]
    rw [Int.sub_zero] at *
    go_enter Tryd.func12, Tryd.ntmps12
    go_wp2
    go_ret2
    exact ⟨by simp, rfl⟩
  · have g1 : decide (0 < b) = true := by simpa using h0
    have g2 : decide (b < 0) = false := by simp; omega
    by_cases h : Fits (a - b)
    · rw [nA_in h]
      obtain ⟨k1, k2⟩ := h
      have g3 : decide (a < -9223372036854775808 + b) = false := by simp; omega
      go_enter Tryd.func12, Tryd.ntmps12
      go_wp2
      go_ret2
      exact ⟨rfl, rfl⟩
    · rw [nA_out h]
      unfold Fits at h
      have g3 : decide (a < -9223372036854775808 + b) = true := by simp; omega
      clear h
      go_enter Tryd.func12, Tryd.ntmps12
      go_wp2
      go_ret2
      exact ⟨rfl, rfl⟩

set_option maxRecDepth 100000 in
theorem refNeg_any (a : Int) (ha : Fits a) (w : World) : Calls Tryd.prog 16 #[.int .i64 a] w fun e w' => e = .returned (nA (-a)) ∧ w' = w := by
  have H := refSub_any 0 a (by decide) ha w
  rw [Int.zero_sub] at H
  replace H : Hid _ := H
  clear ha
  go_enter Tryd.func16, Tryd.ntmps16
  go_wp2_with fail
  refine Calls.mono H.out ?_
  rintro e w' ⟨rfl, rfl⟩
  unfold nA
  go_wp2
  go_ret2
  exact ⟨rfl, rfl⟩

theorem ret_u64 {a b : Int} (h : a = b) : Ending.returned (.int .u64 a) = .returned (.int .u64 b) := by rw [h]

set_option maxRecDepth 100000 in
theorem size_any (a : Int) (ha : Fits a) (w : World) : Calls Tryd.prog 24 #[.int .i64 a] w fun e w' => e = .returned (.int .u64 a.natAbs) ∧ w' = w := by
  obtain ⟨a1, a2⟩ := ha
  by_cases h0 : a < 0
  · have g1 : decide (a < 0) = true := by simpa using h0
    go_enter Tryd.func24, Tryd.ntmps24
    go_wp2
    go_ret
    exact ⟨ret_u64 (show -(a + 1) + 1 = _ by omega), rfl⟩
  · have g1 : decide (a < 0) = false := by simpa using h0
    go_enter Tryd.func24, Tryd.ntmps24
    go_wp2
    go_ret
    exact ⟨ret_u64 (show a = _ by omega), rfl⟩

theorem div_lt_iff {L m n : Nat} (h : 0 < n) : ((L : Int) / (n : Int) < (m : Int)) ↔ ¬ m * n ≤ L := by
  rw [← Nat.le_div_iff_mul_le h]
  have : (L : Int) / (n : Int) = ((L / n : Nat) : Int) := by simp
  omega
theorem mul_same {a b : Int} (b0 : b ≠ 0) (s : decide (a < 0) = decide (b < 0)) :
    (Fits (a * b) → decide ((9223372036854775807 : Int) / (b.natAbs : Int) < (a.natAbs : Int)) = false) ∧ (¬ Fits (a * b) → decide ((9223372036854775807 : Int) / (b.natAbs : Int) < (a.natAbs : Int)) = true) := by
  have hp : a * b = ((a.natAbs * b.natAbs : Nat) : Int) := by
    rw [← Int.natAbs_mul]
    have : 0 ≤ a * b := by
      simp only [decide_eq_decide] at s
      by_cases h : a < 0
      · exact Int.le_of_lt (Int.mul_pos_of_neg_of_neg h (s.1 h))
      · exact Int.mul_nonneg (by omega) (by omega)
    omega
  have hd := div_lt_iff (L := 9223372036854775807) (m := a.natAbs) (n := b.natAbs) (by omega)
  simp only [decide_eq_false_iff_not, decide_eq_true_iff]
  rw [show ((9223372036854775807 : Nat) : Int) = 9223372036854775807 from rfl] at hd
  rw [hd, hp]
  unfold Fits
  omega
theorem mul_apart {a b : Int} (a0 : a ≠ 0) (b0 : b ≠ 0) (s : ¬ decide (a < 0) = decide (b < 0)) :
    (Fits (a * b) → decide ((9223372036854775808 : Int) / (b.natAbs : Int) < (a.natAbs : Int)) = false) ∧ (¬ Fits (a * b) → decide ((9223372036854775808 : Int) / (b.natAbs : Int) < (a.natAbs : Int)) = true) := by
  have hp : a * b = -((a.natAbs * b.natAbs : Nat) : Int) := by
    rw [← Int.natAbs_mul]
    have : a * b < 0 := by
      simp only [decide_eq_decide] at s
      by_cases h : a < 0
      · exact Int.mul_neg_of_neg_of_pos h (by omega)
      · exact Int.mul_neg_of_pos_of_neg (by omega) (by omega)
    omega
  have hd := div_lt_iff (L := 9223372036854775808) (m := a.natAbs) (n := b.natAbs) (by omega)
  simp only [decide_eq_false_iff_not, decide_eq_true_iff]
  rw [show ((9223372036854775808 : Nat) : Int) = 9223372036854775808 from rfl] at hd
  rw [hd, hp]
  unfold Fits
  omega

set_option maxRecDepth 100000 in
theorem refMul_any (a b : Int) (ha : Fits a) (hb : Fits b) (w : World) : Calls Tryd.prog 14 #[.int .i64 a, .int .i64 b] w fun e w' => e = .returned (nA (a * b)) ∧ w' = w := by
  by_cases a0 : a = 0
  · subst a0
    rw [Int.zero_mul, nA_in (by decide)]
    clear ha hb
    go_enter Tryd.func14, Tryd.ntmps14
    go_wp2
    go_ret2
    exact ⟨rfl, rfl⟩
  by_cases b0 : b = 0
  · subst b0
    rw [Int.mul_zero, nA_in (by decide)]
    have g0 : (a == 0) = false := by simpa using a0
    clear ha hb
    go_enter Tryd.func14, Tryd.ntmps14
    go_wp2
    go_ret2
    exact ⟨rfl, rfl⟩
  have g0 : (a == 0) = false := by simpa using a0
  have g1 : (b == 0) = false := by simpa using b0
  have Ha : Hid (∀ w, _) := fun w => size_any a ha w
  have Hb : Hid (∀ w, _) := fun w => size_any b hb w
  obtain ⟨m, hm⟩ : ∃ m : Nat, m = a.natAbs := ⟨_, rfl⟩
  obtain ⟨n, hn⟩ : ∃ n : Nat, n = b.natAbs := ⟨_, rfl⟩
  rw [← hm] at Ha
  rw [← hn] at Hb
  have n0 : ¬ n = 0 := by omega
  by_cases s : (decide (a < 0)) = (decide (b < 0))
  · have g : (!(decide (a < 0) == decide (b < 0))) = false := by simp [s]
    by_cases h : Fits (a * b)
    · have g3 : decide ((9223372036854775807 : Int) / (n : Int) < (m : Int)) = false := by subst hm hn; exact (mul_same b0 s).1 h
      rw [nA_in h]
      obtain ⟨k1, k2⟩ := h
      clear s hm hn ha hb
      go_enter Tryd.func14, Tryd.ntmps14
      go_wp2_with fail
      refine Calls.mono (Ha.out _) ?_
      rintro e w' ⟨rfl, rfl⟩
      go_wp2_with fail
      refine Calls.mono (Hb.out _) ?_
      rintro e w' ⟨rfl, rfl⟩
      go_wp2
      go_ret2
      exact ⟨rfl, rfl⟩
    · have g3 : decide ((9223372036854775807 : Int) / (n : Int) < (m : Int)) = true := by subst hm hn; exact (mul_same b0 s).2 h
      rw [nA_out h]
      clear s hm hn ha hb h
      go_enter Tryd.func14, Tryd.ntmps14
      go_wp2_with fail
      refine Calls.mono (Ha.out _) ?_
      rintro e w' ⟨rfl, rfl⟩
      go_wp2_with fail
      refine Calls.mono (Hb.out _) ?_
      rintro e w' ⟨rfl, rfl⟩
      go_wp2
      go_ret2
      exact ⟨rfl, rfl⟩
  · have g : (!(decide (a < 0) == decide (b < 0))) = true := by simpa using s
    by_cases h : Fits (a * b)
    · have g3 : decide ((9223372036854775808 : Int) / (n : Int) < (m : Int)) = false := by subst hm hn; exact (mul_apart a0 b0 s).1 h
      rw [nA_in h]
      obtain ⟨k1, k2⟩ := h
      clear s hm hn ha hb
      go_enter Tryd.func14, Tryd.ntmps14
      go_wp2_with fail
      refine Calls.mono (Ha.out _) ?_
      rintro e w' ⟨rfl, rfl⟩
      go_wp2_with fail
      refine Calls.mono (Hb.out _) ?_
      rintro e w' ⟨rfl, rfl⟩
      go_wp2
      go_ret2
      exact ⟨rfl, rfl⟩
    · have g3 : decide ((9223372036854775808 : Int) / (n : Int) < (m : Int)) = true := by subst hm hn; exact (mul_apart a0 b0 s).2 h
      rw [nA_out h]
      clear s hm hn ha hb h
      go_enter Tryd.func14, Tryd.ntmps14
      go_wp2_with fail
      refine Calls.mono (Ha.out _) ?_
      rintro e w' ⟨rfl, rfl⟩
      go_wp2_with fail
      refine Calls.mono (Hb.out _) ?_
      rintro e w' ⟨rfl, rfl⟩
      go_wp2
      go_ret2
      exact ⟨rfl, rfl⟩
end Go.Proofs.YtalhfhaaibmfoaaDoor
