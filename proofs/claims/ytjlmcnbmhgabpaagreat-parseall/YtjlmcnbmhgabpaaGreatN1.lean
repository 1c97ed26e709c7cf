/- What the walks of this seat share: a whole number that fits 64 bits, or that runs over; the walks of num's add, sub, neg. -/
import Derived.Test.YtjlmcnbmhgabpaaGreatV1
import Derived.WalkKit
import Derived.WalkSpells
import Derived.WalkLawsBesides
import Derived.BigQuiet
import Derived.Deep.QuietTactic
namespace Go.Proofs.YtjlmcnbmhgabpaaGreat
open Go.RowKit
set_option linter.unusedVariables false

/-- Does a whole number fit 64 bits with a sign? -/
abbrev Fits (z : Int) : Prop := -9223372036854775808 ≤ z ∧ z ≤ 9223372036854775807
/-- The number that is told, and the fault that is told beside it. -/
def nV (z : Int) : Int := if Fits z then z else 0
def nE (z : Int) : Int := if Fits z then 0 else 8
def nA (z : Int) : Value := .tuple #[.int .i64 (nV z), .int .i64 (nE z)]

theorem nA_in {z : Int} (h : Fits z) : nA z = .tuple #[.int .i64 z, .int .i64 0] := by simp [nA, nV, nE, h]
theorem nA_out {z : Int} (h : ¬ Fits z) : nA z = .tuple #[.int .i64 0, .int .i64 8] := by simp [nA, nV, nE, h]

set_option maxRecDepth 100000 in
theorem fit_yes (n : Int) (w : World) : Calls Tryz.prog 148 #[.int .i64 n, .bool true] w fun e w' => e = .returned (.tuple #[.int .i64 n, .int .i64 0]) ∧ w' = w := by
  go_enter Tryz.func148, Tryz.ntmps148
  go_wp2
  go_ret2
  exact ⟨rfl, rfl⟩
set_option maxRecDepth 100000 in
theorem fit_no (n : Int) (w : World) : Calls Tryz.prog 148 #[.int .i64 n, .bool false] w fun e w' => e = .returned (.tuple #[.int .i64 0, .int .i64 8]) ∧ w' = w := by
  go_enter Tryz.func148, Tryz.ntmps148
  go_wp2
  go_ret2
  exact ⟨rfl, rfl⟩

theorem add_fits {a b : Int} (h : Fits (a + b)) : (decide (a + b < a) == decide (b < 0)) = true := by
  have : decide (a + b < a) = decide (b < 0) := by rw [Bool.eq_iff_iff]; simp; omega
  simp [this]
theorem wrap_in {z : Int} (h : Fits z) : wrap64 z = z := by obtain ⟨h1, h2⟩ := h; unfold wrap64; omega
theorem add_over {a b : Int} (ha : Fits a) (hb : Fits b) (h : ¬ Fits (a + b)) : (decide (wrap64 (a + b) < a) == decide (b < 0)) = false := by
  unfold Fits wrap64 at *
  by_cases h0 : b < 0
  · have : ¬ ((a + b + 9223372036854775808) % 18446744073709551616 - 9223372036854775808 < a) := by omega
    simp [this, h0]
  · have : ((a + b + 9223372036854775808) % 18446744073709551616 - 9223372036854775808 < a) := by omega
    simp [this, h0]
theorem sub_fits {a b : Int} (h : Fits (a - b)) : (decide (a - b < a) == decide (0 < b)) = true := by
  have : decide (a - b < a) = decide (0 < b) := by rw [Bool.eq_iff_iff]; simp; omega
  simp [this]
theorem sub_over {a b : Int} (ha : Fits a) (hb : Fits b) (h : ¬ Fits (a - b)) : (decide (wrap64 (a - b) < a) == decide (0 < b)) = false := by
  unfold Fits wrap64 at *
  by_cases h0 : 0 < b
  · have : ¬ ((a - b + 9223372036854775808) % 18446744073709551616 - 9223372036854775808 < a) := by omega
    simp [this, h0]
  · have : ((a - b + 9223372036854775808) % 18446744073709551616 - 9223372036854775808 < a) := by omega
    simp [this, h0]

theorem wrap_fits (z : Int) : Fits (wrap64 z) := by unfold Fits wrap64; omega
theorem wrap_off (z : Int) : ∃ m : Int, z = wrap64 z + m * 18446744073709551616 := ⟨(z + 9223372036854775808) / 18446744073709551616, by unfold wrap64; omega⟩
theorem tmod_small {r b : Int} (hb : b ≠ 0) : (r.tmod b).natAbs < b.natAbs := by
  rw [Int.natAbs_tmod]
  exact Nat.mod_lt _ (by omega)
theorem tdiv_fits {r b : Int} (hr : Fits r) (h0 : b ≠ 0) (h1 : b ≠ -1) : Fits (r.tdiv b) := by
  by_cases e : b = 1
  · subst e; rw [Int.tdiv_one]; exact hr
  · have hq : (r.tdiv b).natAbs = r.natAbs / b.natAbs := Int.natAbs_tdiv r b
    have hle : r.natAbs / b.natAbs ≤ r.natAbs / 2 := Nat.div_le_div_left (by omega) (by omega)
    unfold Fits at *
    omega
theorem mul_over {a b : Int} (ha : Fits a) (hb : Fits b) (h0 : b ≠ 0) (h1 : b ≠ -1) (h : ¬ Fits (a * b)) : (wrap64 ((wrap64 (a * b)).tdiv b) == a) = false := by
  rw [wrap_in (tdiv_fits (wrap_fits _) h0 h1)]
  cases e : (wrap64 (a * b)).tdiv b == a with
  | false => rfl
  | true =>
    exfalso
    have e' : (wrap64 (a * b)).tdiv b = a := by simpa using e
    have hd := Int.mul_tdiv_add_tmod (wrap64 (a * b)) b
    rw [e', Int.mul_comm b a] at hd
    have ht := tmod_small (r := wrap64 (a * b)) h0
    obtain ⟨m, hm⟩ := wrap_off (a * b)
    have hm0 : m ≠ 0 := by
      rintro rfl
      apply h
      rw [show a * b = wrap64 (a * b) from by omega]
      exact wrap_fits _
    unfold Fits at hb
    omega

set_option maxRecDepth 100000 in
theorem add_any (a b : Int) (ha : Fits a) (hb : Fits b) (w : World) : Calls Tryz.prog 143 #[.int .i64 a, .int .i64 b] w fun e w' => e = .returned (nA (a + b)) ∧ w' = w := by
  by_cases h : Fits (a + b)
  · rw [nA_in h]
    have hd := add_fits h
    obtain ⟨h1, h2⟩ := h
    clear ha hb
    go_enter Tryz.func143, Tryz.ntmps143
    go_wp2_with fail
    refine Calls.mono (fit_yes _ _) ?_
    rintro e w' ⟨rfl, rfl⟩
    go_wp2
    go_ret2
    exact ⟨rfl, rfl⟩
  · rw [nA_out h]
    have hd := add_over ha hb h
    clear ha hb h
    go_enter Tryz.func143, Tryz.ntmps143
    go_wp2_with fail
    refine Calls.mono (fit_no _ _) ?_
    rintro e w' ⟨rfl, rfl⟩
    go_wp2
    go_ret2
    exact ⟨rfl, rfl⟩

set_option maxRecDepth 100000 in
theorem sub_any (a b : Int) (ha : Fits a) (hb : Fits b) (w : World) : Calls Tryz.prog 151 #[.int .i64 a, .int .i64 b] w fun e w' => e = .returned (nA (a - b)) ∧ w' = w := by
  by_cases h : Fits (a - b)
  · rw [nA_in h]
    have hd := sub_fits h
    obtain ⟨h1, h2⟩ := h
    clear ha hb
    go_enter Tryz.func151, Tryz.ntmps151
    go_wp2_with fail
    refine Calls.mono (fit_yes _ _) ?_
    rintro e w' ⟨rfl, rfl⟩
    go_wp2
    go_ret2
    exact ⟨rfl, rfl⟩
  · rw [nA_out h]
    have hd := sub_over ha hb h
    clear ha hb h
    go_enter Tryz.func151, Tryz.ntmps151
    go_wp2_with fail
    refine Calls.mono (fit_no _ _) ?_
    rintro e w' ⟨rfl, rfl⟩
    go_wp2
    go_ret2
    exact ⟨rfl, rfl⟩

set_option maxRecDepth 100000 in
theorem neg_any (a : Int) (ha : Fits a) (w : World) : Calls Tryz.prog 147 #[.int .i64 a] w fun e w' => e = .returned (nA (-a)) ∧ w' = w := by
  have H := sub_any 0 a (by decide) ha w
  rw [Int.zero_sub] at H
  replace H : Hid _ := H
  clear ha
  go_enter Tryz.func147, Tryz.ntmps147
  go_wp2_with fail
  refine Calls.mono H.out ?_
  rintro e w' ⟨rfl, rfl⟩
  unfold nA
  go_wp2
  go_ret2
  exact ⟨rfl, rfl⟩

set_option maxRecDepth 100000 in
theorem mul_any (a b : Int) (ha : Fits a) (hb : Fits b) (w : World) : Calls Tryz.prog 142 #[.int .i64 a, .int .i64 b] w fun e w' => e = .returned (nA (a * b)) ∧ w' = w := by
  by_cases h0 : b = 0
  · subst h0
    rw [Int.mul_zero, nA_in (by decide)]
    clear ha hb
    go_enter Tryz.func142, Tryz.ntmps142
    go_wp2
    go_ret2
    exact ⟨rfl, rfl⟩
  by_cases h1 : b = -1
  · subst h1
    have H := neg_any a ha w
    rw [show a * -1 = -a from by omega]
    replace H : Hid _ := H
    clear ha hb h0
    go_enter Tryz.func142, Tryz.ntmps142
    go_wp2_with fail
    refine Calls.mono H.out ?_
    rintro e w' ⟨rfl, rfl⟩
    unfold nA
    go_wp2
    go_ret2
    exact ⟨rfl, rfl⟩
  have g0 : (b == 0) = false := by simpa using h0
  have g1 : (b == -1) = false := by simpa using h1
  by_cases h : Fits (a * b)
  · rw [nA_in h]
    obtain ⟨k1, k2⟩ := h
    obtain ⟨k3, k4⟩ := ha
    obtain ⟨k5, k6⟩ := hb
    go_enter Tryz.func142, Tryz.ntmps142
    go_wp2_with fail
    refine Calls.mono (fit_yes _ _) ?_
    rintro e w' ⟨rfl, rfl⟩
    go_wp2
    go_ret2
    exact ⟨rfl, rfl⟩
  · rw [nA_out h]
    have hd := mul_over ha hb h0 h1 h
    clear h ha hb
    go_enter Tryz.func142, Tryz.ntmps142
    go_wp2_with fail
    refine Calls.mono (fit_no _ _) ?_
    rintro e w' ⟨rfl, rfl⟩
    go_wp2
    go_ret2
    exact ⟨rfl, rfl⟩

end Go.Proofs.YtjlmcnbmhgabpaaGreat
