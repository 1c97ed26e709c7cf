/- The walks of the document's own Add, Sub, Mul, Neg: they answer as num does. -/
import Derived.Test.YtlnijapabhlbeaaN1
namespace Go.Proofs.Ytlnijapabhlbeaa
open Go.RowKit
set_option linter.unusedVariables false

theorem ret_u64 {a b : Int} (h : a = b) : Ending.returned (.int .u64 a) = .returned (.int .u64 b) := by rw [h]

set_option maxRecDepth 100000 in
theorem size_any (a : Int) (ha : Fits a) (w : World) : Calls Try.prog 17 #[.int .i64 a] w fun e w' => e = .returned (.int .u64 a.natAbs) ∧ w' = w := by
  obtain ⟨a1, a2⟩ := ha
  by_cases h0 : a < 0
  · have g1 : decide (a < 0) = true := by simpa using h0
    go_enter Try.func17, Try.ntmps17
    go_wp2
    go_ret
    exact ⟨ret_u64 (show -(a + 1) + 1 = _ by omega), rfl⟩
  · have g1 : decide (a < 0) = false := by simpa using h0
    go_enter Try.func17, Try.ntmps17
    go_wp2
    go_ret
    exact ⟨ret_u64 (show a = _ by omega), rfl⟩

theorem div_lt_iff {L m n : Nat} (h : 0 < n) : ((L : Int) / (n : Int) < (m : Int)) ↔ ¬ m * n ≤ L := by
  rw [← Nat.le_div_iff_mul_le h]
  have : (L : Int) / (n : Int) = ((L / n : Nat) : Int) := by simp
  omega
theorem mul_same {a b : Int} (b0 : b ≠ 0) (s : decide (a < 0) = decide (b < 0)) :
    (Fits (a * b) → decide ((9223372036854775807 : Int) / (b.natAbs : Int) < (a.natAbs : Int)) = false) ∧ (¬ Fits (a * b) → decide ((9223372036854775807 : Int) / (b.natAbs : Int) < (a.natAbs : Int)) = true) := by
  have hp : a * b = ((a.natAbs * b.natAbs : Nat) : Int) := by
    rw [← Int.natAbs_mul]
    have : 0 ≤ a * b := by
      simp only [decide_eq_decide] at s
      by_cases h : a < 0
      · exact Int.le_of_lt (Int.mul_pos_of_neg_of_neg h (s.1 h))
      · exact Int.mul_nonneg (by omega) (by omega)
    omega
  have hd := div_lt_iff (L := 9223372036854775807) (m := a.natAbs) (n := b.natAbs) (by omega)
  simp only [decide_eq_false_iff_not, decide_eq_true_iff]
  rw [show ((9223372036854775807 : Nat) : Int) = 9223372036854775807 from rfl] at hd
  rw [hd, hp]
  unfold Fits
  omega
theorem mul_apart {a b : Int} (a0 : a ≠ 0) (b0 : b ≠ 0) (s : ¬ decide (a < 0) = decide (b < 0)) :
    (Fits (a * b) → decide ((9223372036854775808 : Int) / (b.natAbs : Int) < (a.natAbs : Int)) = false) ∧ (¬ Fits (a * b) → decide ((9223372036854775808 : Int) / (b.natAbs : Int) < (a.natAbs : Int)) = true) := by
  have hp : a * b = -((a.natAbs * b.natAbs : Nat) : Int) := by
    rw [← Int.natAbs_mul]
    have : a * b < 0 := by
      simp only [decide_eq_decide] at s
      by_cases h : a < 0
      · exact Int.mul_neg_of_neg_of_pos h (by omega)
      · exact Int.mul_neg_of_pos_of_neg (by omega) (by omega)
    omega
  have hd := div_lt_iff (L := 9223372036854775808) (m := a.natAbs) (n := b.natAbs) (by omega)
  simp only [decide_eq_false_iff_not, decide_eq_true_iff]
  rw [show ((9223372036854775808 : Nat) : Int) = 9223372036854775808 from rfl] at hd
  rw [hd, hp]
  unfold Fits
  omega

end Go.Proofs.Ytlnijapabhlbeaa
