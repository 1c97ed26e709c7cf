import Derived.Test.YtnlaaejdianfjaaGreatRows
import Derived.WalkKit
import Derived.WalkSpells
import Derived.WalkLawsBesides
import Derived.BigQuiet
import Derived.Deep.QuietTactic
import Derived.Deep.RegionLaw
import Derived.Deep.DeepCutAuto
import Derived.Deep.CutBlock
import Derived.Laws.BitsAllLaws
import Derived.Laws.BytesArg
namespace Go.Proofs.YtnlaaejdianfjaaGreat
open Go.RowKit
set_option linter.unusedVariables false

/-- The number at place i (0 beyond the end); a name of its own, so that the walk does not spell it anew. -/
def nth (xs : List Int) (i : Nat) : Int := xs[i]?.getD 0

/-- The slice value '.slice ao n c' reads, in w, as the n numbers xs of kind k. -/
structure Rd (k : IntKind) (w : World) (ao : Option Addr) (n c : Nat) (xs : List Int) : Prop where
  len : xs.length = n
  cap : n ≤ c
  max : c ≤ 9223372036854775807
  non : ao = none → c = 0
  cells : 0 < n → ∃ b o, ao = some ⟨b, o, none⟩ ∧ ∀ i, i < n → w.cell? ⟨b, o + i, none⟩ = some (.int k (nth xs i))

theorem Rd.nil (k : IntKind) (w : World) : Rd k w none 0 0 [] := ⟨rfl, Nat.le_refl _, by omega, fun _ => rfl, fun h => absurd h (Nat.lt_irrefl _)⟩

theorem ret_bool {a b : Bool} (h : a = b) : Ending.returned (.bool a) = .returned (.bool b) := by rw [h]
theorem ret_int {k : IntKind} {a b : Int} (h : a = b) : Ending.returned (.int k a) = .returned (.int k b) := by rw [h]
theorem drop_nth {xs : List Int} {k : Nat} (h : k < xs.length) : xs.drop k = nth xs k :: xs.drop (k + 1) := by
  rw [List.drop_eq_getElem_cons h, nth, List.getElem?_eq_getElem h]; rfl

set_option linter.unusedVariables false

/-- -1, 0, 1: how two numbers stand. -/
def cmpI (x y : Int) : Int := if x < y then -1 else if y < x then 1 else 0

theorem cmpI_lt {x y : Int} (h : x < y) : cmpI x y = -1 := if_pos h

theorem cmpI_gt {x y : Int} (h : y < x) : cmpI x y = 1 := by rw [cmpI, if_neg (by omega), if_pos h]

theorem cmpI_eq (x : Int) : cmpI x x = 0 := by simp [cmpI]

/-- Two lists, number by number; a beginning of another stands ahead of it. -/
def lexI : List Int → List Int → Int
  | [], [] => 0
  | [], _ :: _ => -1
  | _ :: _, [] => 1
  | x :: xs, y :: ys => if x < y then -1 else if y < x then 1 else lexI xs ys

theorem lexI_lt {x y : Int} (xs ys : List Int) (h : x < y) : lexI (x :: xs) (y :: ys) = -1 := by rw [lexI, if_pos h]

theorem lexI_gt {x y : Int} (xs ys : List Int) (h : y < x) : lexI (x :: xs) (y :: ys) = 1 := by rw [lexI, if_neg (by omega), if_pos h]

theorem lexI_eq (x : Int) (xs ys : List Int) : lexI (x :: xs) (x :: ys) = lexI xs ys := by rw [lexI, if_neg (by omega), if_neg (by omega)]

theorem lexI_self (xs : List Int) : lexI xs xs = 0 := by
  induction xs with
  | nil => rfl
  | cons x xs ih => rw [lexI_eq]; exact ih

set_option linter.unusedVariables false

theorem lexI_vals : ∀ (A B : List Int), lexI A B = -1 ∨ lexI A B = 0 ∨ lexI A B = 1 := by
  intro A
  induction A with
  | nil => intro B; cases B <;> simp [lexI]
  | cons x r ih =>
    intro B
    cases B with
    | nil => simp [lexI]
    | cons y q =>
      rw [lexI]
      split
      · simp
      · split
        · simp
        · exact ih q

theorem owns_base {w : World} {base base' e size : Nat} {v : Value} {n : Nat} {xs : List Value} (h : w.ownsRow base e size v n xs) (hb : base' ≤ base) : w.ownsRow base' e size v n xs := by
  refine ⟨h.1, ?_⟩
  rcases h.2 with k | ⟨g, cap, cur, hv, hg, r⟩
  · exact .inl k
  · exact .inr ⟨g, cap, cur, hv, by omega, r⟩

set_option linter.unusedVariables false

set_option linter.unusedVariables false

/-- A text's bytes as numbers. -/
def nums (s : ByteArray) : List Int := s.data.toList.map fun c => (c.toNat : Int)

theorem nums_len (s : ByteArray) : (nums s).length = s.size := by rw [nums, List.length_map, Array.length_toList]; rfl

theorem nums_nth (s : ByteArray) (k : Nat) (h : k < s.size) : nth (nums s) k = (s[k].toNat : Int) := by
  have h' : k < s.data.size := h
  rw [nth, nums, List.getElem?_map, Array.getElem?_toList, Array.getElem?_eq_getElem h']
  rfl

end Go.Proofs.YtnlaaejdianfjaaGreat
namespace Go.Proofs.YtnlaaejdianfjaaGreat
open Go.RowKit
set_option linter.unusedVariables false

/-- Does a whole number fit 64 bits with a sign? -/
abbrev Fits (z : Int) : Prop := -9223372036854775808 ≤ z ∧ z ≤ 9223372036854775807
/-- The number that is told, and the fault that is told beside it. -/
def nV (z : Int) : Int := if Fits z then z else 0
def nE (z : Int) : Int := if Fits z then 0 else 8
def nA (z : Int) : Value := .tuple #[.int .i64 (nV z), .int .i64 (nE z)]

theorem nA_in {z : Int} (h : Fits z) : nA z = .tuple #[.int .i64 z, .int .i64 0] := by simp [nA, nV, nE, h]
theorem nA_out {z : Int} (h : ¬ Fits z) : nA z = .tuple #[.int .i64 0, .int .i64 8] := by simp [nA, nV, nE, h]

set_option maxRecDepth 100000 in
theorem fit_yes (n : Int) (w : World) : Calls Tryz.prog 158 #[.int .i64 n, .bool true] w fun e w' => e = .returned (.tuple #[.int .i64 n, .int .i64 0]) ∧ w' = w := by
  go_enter Tryz.func158, Tryz.ntmps158
  go_wp2
  go_ret2
  exact ⟨rfl, rfl⟩
set_option maxRecDepth 100000 in
theorem fit_no (n : Int) (w : World) : Calls Tryz.prog 158 #[.int .i64 n, .bool false] w fun e w' => e = .returned (.tuple #[.int .i64 0, .int .i64 8]) ∧ w' = w := by
  go_enter Tryz.func158, Tryz.ntmps158
  go_wp2
  go_ret2
  exact ⟨rfl, rfl⟩

theorem add_fits {a b : Int} (h : Fits (a + b)) : (decide (a + b < a) == decide (b < 0)) = true := by
  have : decide (a + b < a) = decide (b < 0) := by rw [Bool.eq_iff_iff]; simp; omega
  simp [this]
theorem wrap_in {z : Int} (h : Fits z) : wrap64 z = z := by obtain ⟨h1, h2⟩ := h; unfold wrap64; omega
theorem add_over {a b : Int} (ha : Fits a) (hb : Fits b) (h : ¬ Fits (a + b)) : (decide (wrap64 (a + b) < a) == decide (b < 0)) = false := by
  unfold Fits wrap64 at *
  by_cases h0 : b < 0
  · have : ¬ ((a + b + 9223372036854775808) % 18446744073709551616 - 9223372036854775808 < a) := by omega
    simp [this, h0]
  · have : ((a + b + 9223372036854775808) % 18446744073709551616 - 9223372036854775808 < a) := by omega
    simp [this, h0]
theorem sub_fits {a b : Int} (h : Fits (a - b)) : (decide (a - b < a) == decide (0 < b)) = true := by
  have : decide (a - b < a) = decide (0 < b) := by rw [Bool.eq_iff_iff]; simp; omega
  simp [this]
theorem sub_over {a b : Int} (ha : Fits a) (hb : Fits b) (h : ¬ Fits (a - b)) : (decide (wrap64 (a - b) < a) == decide (0 < b)) = false := by
  unfold Fits wrap64 at *
  by_cases h0 : 0 < b
  · have : ¬ ((a - b + 9223372036854775808) % 18446744073709551616 - 9223372036854775808 < a) := by omega
    simp [this, h0]
  · have : ((a - b + 9223372036854775808) % 18446744073709551616 - 9223372036854775808 < a) := by omega
    simp [this, h0]

theorem wrap_fits (z : Int) : Fits (wrap64 z) := by unfold Fits wrap64; omega
theorem wrap_off (z : Int) : ∃ m : Int, z = wrap64 z + m * 18446744073709551616 := ⟨(z + 9223372036854775808) / 18446744073709551616, by unfold wrap64; omega⟩
theorem tmod_small {r b : Int} (hb : b ≠ 0) : (r.tmod b).natAbs < b.natAbs := by
  rw [Int.natAbs_tmod]
  exact Nat.mod_lt _ (by omega)
theorem tdiv_fits {r b : Int} (hr : Fits r) (h0 : b ≠ 0) (h1 : b ≠ -1) : Fits (r.tdiv b) := by
  by_cases e : b = 1
  · subst e; rw [Int.tdiv_one]; exact hr
  · have hq : (r.tdiv b).natAbs = r.natAbs / b.natAbs := Int.natAbs_tdiv r b
    have hle : r.natAbs / b.natAbs ≤ r.natAbs / 2 := Nat.div_le_div_left (by omega) (by omega)
    unfold Fits at *
    omega
theorem mul_over {a b : Int} (ha : Fits a) (hb : Fits b) (h0 : b ≠ 0) (h1 : b ≠ -1) (h : ¬ Fits (a * b)) : (wrap64 ((wrap64 (a * b)).tdiv b) == a) = false := by
  rw [wrap_in (tdiv_fits (wrap_fits _) h0 h1)]
  cases e : (wrap64 (a * b)).tdiv b == a with
  | false => rfl
  | true =>
    exfalso
    have e' : (wrap64 (a * b)).tdiv b = a := by simpa using e
    have hd := Int.mul_tdiv_add_tmod (wrap64 (a * b)) b
    rw [e', Int.mul_comm b a] at hd
    have ht := tmod_small (r := wrap64 (a * b)) h0
    obtain ⟨m, hm⟩ := wrap_off (a * b)
    have hm0 : m ≠ 0 := by
      rintro rfl
      apply h
      rw [show a * b = wrap64 (a * b) from by omega]
      exact wrap_fits _
    unfold Fits at hb
    omega

set_option maxRecDepth 100000 in
theorem add_any (a b : Int) (ha : Fits a) (hb : Fits b) (w : World) : Calls Tryz.prog 150 #[.int .i64 a, .int .i64 b] w fun e w' => e = .returned (nA (a + b)) ∧ w' = w := by
  by_cases h : Fits (a + b)
  · rw [nA_in h]
    have hd := add_fits h
    obtain ⟨h1, h2⟩ := h
    clear ha hb
    go_enter Tryz.func150, Tryz.ntmps150
    go_wp2_with fail
    refine Calls.mono (fit_yes _ _) ?_
    rintro e w' ⟨rfl, rfl⟩
    go_wp2
    go_ret2
    exact ⟨rfl, rfl⟩
  · rw [nA_out h]
    have hd := add_over ha hb h
    clear ha hb h
    go_enter Tryz.func150, Tryz.ntmps150
    go_wp2_with fail
    refine Calls.mono (fit_no _ _) ?_
    rintro e w' ⟨rfl, rfl⟩
    go_wp2
    go_ret2
    exact ⟨rfl, rfl⟩

set_option maxRecDepth 100000 in
theorem sub_any (a b : Int) (ha : Fits a) (hb : Fits b) (w : World) : Calls Tryz.prog 162 #[.int .i64 a, .int .i64 b] w fun e w' => e = .returned (nA (a - b)) ∧ w' = w := by
  by_cases h : Fits (a - b)
  · rw [nA_in h]
    have hd := sub_fits h
    obtain ⟨h1, h2⟩ := h
    clear ha hb
    go_enter Tryz.func162, Tryz.ntmps162
    go_wp2_with fail
    refine Calls.mono (fit_yes _ _) ?_
    rintro e w' ⟨rfl, rfl⟩
    go_wp2
    go_ret2
    exact ⟨rfl, rfl⟩
  · rw [nA_out h]
    have hd := sub_over ha hb h
    clear ha hb h
    go_enter Tryz.func162, Tryz.ntmps162
    go_wp2_with fail
    refine Calls.mono (fit_no _ _) ?_
    rintro e w' ⟨rfl, rfl⟩
    go_wp2
    go_ret2
    exact ⟨rfl, rfl⟩

set_option maxRecDepth 100000 in
theorem neg_any (a : Int) (ha : Fits a) (w : World) : Calls Tryz.prog 160 #[.int .i64 a] w fun e w' => e = .returned (nA (-a)) ∧ w' = w := by
  have H := sub_any 0 a (by decide) ha w
  rw [Int.zero_sub] at H
  replace H : Hid _ := H
  clear ha
  go_enter Tryz.func160, Tryz.ntmps160
  go_wp2_with fail
  refine Calls.mono H.out ?_
  rintro e w' ⟨rfl, rfl⟩
  unfold nA
  go_wp2
  go_ret2
  exact ⟨rfl, rfl⟩

set_option maxRecDepth 100000 in
theorem mul_any (a b : Int) (ha : Fits a) (hb : Fits b) (w : World) : Calls Tryz.prog 163 #[.int .i64 a, .int .i64 b] w fun e w' => e = .returned (nA (a * b)) ∧ w' = w := by
  by_cases h0 : b = 0
  · subst h0
    rw [Int.mul_zero, nA_in (by decide)]
    clear ha hb
    go_enter Tryz.func163, Tryz.ntmps163
    go_wp2
    go_ret2
    exact ⟨rfl, rfl⟩
  by_cases h1 : b = -1
  · subst h1
    have H := neg_any a ha w
    rw [show a * -1 = -a from by omega]
    replace H : Hid _ := H
    clear ha hb h0
    go_enter Tryz.func163, Tryz.ntmps163
    go_wp2_with fail
    refine Calls.mono H.out ?_
    rintro e w' ⟨rfl, rfl⟩
    unfold nA
    go_wp2
    go_ret2
    exact ⟨rfl, rfl⟩
  have g0 : (b == 0) = false := by simpa using h0
  have g1 : (b == -1) = false := by simpa using h1
  by_cases h : Fits (a * b)
  · rw [nA_in h]
    obtain ⟨k1, k2⟩ := h
    obtain ⟨k3, k4⟩ := ha
    obtain ⟨k5, k6⟩ := hb
    go_enter Tryz.func163, Tryz.ntmps163
    go_wp2_with fail
    refine Calls.mono (fit_yes _ _) ?_
    rintro e w' ⟨rfl, rfl⟩
    go_wp2
    go_ret2
    exact ⟨rfl, rfl⟩
  · rw [nA_out h]
    have hd := mul_over ha hb h0 h1 h
    clear h ha hb
    go_enter Tryz.func163, Tryz.ntmps163
    go_wp2_with fail
    refine Calls.mono (fit_no _ _) ?_
    rintro e w' ⟨rfl, rfl⟩
    go_wp2
    go_ret2
    exact ⟨rfl, rfl⟩

end Go.Proofs.YtnlaaejdianfjaaGreat
namespace Go.Proofs.YtnlaaejdianfjaaGreat
open Go.RowKit
set_option linter.unusedVariables false

theorem ret_u64 {a b : Int} (h : a = b) : Ending.returned (.int .u64 a) = .returned (.int .u64 b) := by rw [h]

set_option maxRecDepth 100000 in
theorem size_any (a : Int) (ha : Fits a) (w : World) : Calls Tryz.prog 129 #[.int .i64 a] w fun e w' => e = .returned (.int .u64 a.natAbs) ∧ w' = w := by
  obtain ⟨a1, a2⟩ := ha
  by_cases h0 : a < 0
  · have g1 : decide (a < 0) = true := by simpa using h0
    go_enter Tryz.func129, Tryz.ntmps129
    go_wp2
    go_ret
    exact ⟨ret_u64 (show -(a + 1) + 1 = _ by omega), rfl⟩
  · have g1 : decide (a < 0) = false := by simpa using h0
    go_enter Tryz.func129, Tryz.ntmps129
    go_wp2
    go_ret
    exact ⟨ret_u64 (show a = _ by omega), rfl⟩

theorem div_lt_iff {L m n : Nat} (h : 0 < n) : ((L : Int) / (n : Int) < (m : Int)) ↔ ¬ m * n ≤ L := by
  rw [← Nat.le_div_iff_mul_le h]
  have : (L : Int) / (n : Int) = ((L / n : Nat) : Int) := by simp
  omega
theorem mul_same {a b : Int} (b0 : b ≠ 0) (s : decide (a < 0) = decide (b < 0)) :
    (Fits (a * b) → decide ((9223372036854775807 : Int) / (b.natAbs : Int) < (a.natAbs : Int)) = false) ∧ (¬ Fits (a * b) → decide ((9223372036854775807 : Int) / (b.natAbs : Int) < (a.natAbs : Int)) = true) := by
  have hp : a * b = ((a.natAbs * b.natAbs : Nat) : Int) := by
    rw [← Int.natAbs_mul]
    have : 0 ≤ a * b := by
      simp only [decide_eq_decide] at s
      by_cases h : a < 0
      · exact Int.le_of_lt (Int.mul_pos_of_neg_of_neg h (s.1 h))
      · exact Int.mul_nonneg (by omega) (by omega)
    omega
  have hd := div_lt_iff (L := 9223372036854775807) (m := a.natAbs) (n := b.natAbs) (by omega)
  simp only [decide_eq_false_iff_not, decide_eq_true_iff]
  rw [show ((9223372036854775807 : Nat) : Int) = 9223372036854775807 from rfl] at hd
  rw [hd, hp]
  unfold Fits
  omega
theorem mul_apart {a b : Int} (a0 : a ≠ 0) (b0 : b ≠ 0) (s : ¬ decide (a < 0) = decide (b < 0)) :
    (Fits (a * b) → decide ((9223372036854775808 : Int) / (b.natAbs : Int) < (a.natAbs : Int)) = false) ∧ (¬ Fits (a * b) → decide ((9223372036854775808 : Int) / (b.natAbs : Int) < (a.natAbs : Int)) = true) := by
  have hp : a * b = -((a.natAbs * b.natAbs : Nat) : Int) := by
    rw [← Int.natAbs_mul]
    have : a * b < 0 := by
      simp only [decide_eq_decide] at s
      by_cases h : a < 0
      · exact Int.mul_neg_of_neg_of_pos h (by omega)
      · exact Int.mul_neg_of_pos_of_neg (by omega) (by omega)
    omega
  have hd := div_lt_iff (L := 9223372036854775808) (m := a.natAbs) (n := b.natAbs) (by omega)
  simp only [decide_eq_false_iff_not, decide_eq_true_iff]
  rw [show ((9223372036854775808 : Nat) : Int) = 9223372036854775808 from rfl] at hd
  rw [hd, hp]
  unfold Fits
  omega

end Go.Proofs.YtnlaaejdianfjaaGreat
namespace Go.Proofs.YtnlaaejdianfjaaGreat
open Go.RowKit
set_option linter.unusedVariables false
/-- The face of num: each calls its inner one. -/
theorem Add_any (a b : Int) (ha : Fits a) (hb : Fits b) (w : World) : Calls Tryz.prog 143 #[.int .i64 a, .int .i64 b] w fun e w' => e = .returned (nA (a + b)) ∧ w' = w := by
  have H : Hid _ := add_any a b ha hb w
  clear ha hb
  go_enter Tryz.func143, Tryz.ntmps143
  go_wp2_with fail
  refine Calls.mono H.out ?_
  rintro e w' ⟨rfl, rfl⟩
  unfold nA
  go_wp2
  go_ret2
  exact ⟨rfl, rfl⟩
theorem Sub_any (a b : Int) (ha : Fits a) (hb : Fits b) (w : World) : Calls Tryz.prog 156 #[.int .i64 a, .int .i64 b] w fun e w' => e = .returned (nA (a - b)) ∧ w' = w := by
  have H : Hid _ := sub_any a b ha hb w
  clear ha hb
  go_enter Tryz.func156, Tryz.ntmps156
  go_wp2_with fail
  refine Calls.mono H.out ?_
  rintro e w' ⟨rfl, rfl⟩
  unfold nA
  go_wp2
  go_ret2
  exact ⟨rfl, rfl⟩
theorem Mul_any (a b : Int) (ha : Fits a) (hb : Fits b) (w : World) : Calls Tryz.prog 157 #[.int .i64 a, .int .i64 b] w fun e w' => e = .returned (nA (a * b)) ∧ w' = w := by
  have H : Hid _ := mul_any a b ha hb w
  clear ha hb
  go_enter Tryz.func157, Tryz.ntmps157
  go_wp2_with fail
  refine Calls.mono H.out ?_
  rintro e w' ⟨rfl, rfl⟩
  unfold nA
  go_wp2
  go_ret2
  exact ⟨rfl, rfl⟩
theorem Neg_any (a : Int) (ha : Fits a) (w : World) : Calls Tryz.prog 154 #[.int .i64 a] w fun e w' => e = .returned (nA (-a)) ∧ w' = w := by
  have H : Hid _ := neg_any a ha w
  clear ha
  go_enter Tryz.func154, Tryz.ntmps154
  go_wp2_with fail
  refine Calls.mono H.out ?_
  rintro e w' ⟨rfl, rfl⟩
  unfold nA
  go_wp2
  go_ret2
  exact ⟨rfl, rfl⟩
set_option maxRecDepth 100000 in
theorem refAdd_any (a b : Int) (ha : Fits a) (hb : Fits b) (w : World) : Calls Tryz.prog 25 #[.int .i64 a, .int .i64 b] w fun e w' => e = .returned (nA (a + b)) ∧ w' = w := by
  obtain ⟨a1, a2⟩ := ha
  obtain ⟨b1, b2⟩ := hb
  rcases Int.lt_trichotomy b 0 with h0 | h0 | h0
  · have g1 : decide (0 < b) = false := by simp; omega
    have g2 : decide (b < 0) = true := by simpa using h0
    by_cases h : Fits (a + b)
    · rw [nA_in h]
      obtain ⟨k1, k2⟩ := h
      have g3 : decide (a < -9223372036854775808 - b) = false := by simp; omega
      go_enter Tryz.func25, Tryz.ntmps25
      go_wp2
      go_ret2
      exact ⟨rfl, rfl⟩
    · rw [nA_out h]
      unfold Fits at h
      have g3 : decide (a < -9223372036854775808 - b) = true := by simp; omega
      clear h
      go_enter Tryz.func25, Tryz.ntmps25
      go_wp2
      go_ret2
      exact ⟨rfl, rfl⟩
  · subst h0
    have h : Fits (a + 0) := by unfold Fits; omega
    rw [nA_in h]
    rw [Int.add_zero] at *
    go_enter Tryz.func25, Tryz.ntmps25
    go_wp2
    go_ret2
    exact ⟨by simp, rfl⟩
  · have g1 : decide (0 < b) = true := by simpa using h0
    have g2 : decide (b < 0) = false := by simp; omega
    by_cases h : Fits (a + b)
    · rw [nA_in h]
      obtain ⟨k1, k2⟩ := h
      have g3 : decide (9223372036854775807 - b < a) = false := by simp; omega
      go_enter Tryz.func25, Tryz.ntmps25
      go_wp2
      go_ret2
      exact ⟨rfl, rfl⟩
    · rw [nA_out h]
      unfold Fits at h
      have g3 : decide (9223372036854775807 - b < a) = true := by simp; omega
      clear h
      go_enter Tryz.func25, Tryz.ntmps25
      go_wp2
      go_ret2
      exact ⟨rfl, rfl⟩
set_option maxRecDepth 100000 in
theorem refSub_any (a b : Int) (ha : Fits a) (hb : Fits b) (w : World) : Calls Tryz.prog 105 #[.int .i64 a, .int .i64 b] w fun e w' => e = .returned (nA (a - b)) ∧ w' = w := by
  obtain ⟨a1, a2⟩ := ha
  obtain ⟨b1, b2⟩ := hb
  rcases Int.lt_trichotomy b 0 with h0 | h0 | h0
  · have g1 : decide (0 < b) = false := by simp; omega
    have g2 : decide (b < 0) = true := by simpa using h0
    by_cases h : Fits (a - b)
    · rw [nA_in h]
      obtain ⟨k1, k2⟩ := h
      have g3 : decide (9223372036854775807 + b < a) = false := by simp; omega
      go_enter Tryz.func105, Tryz.ntmps105
      go_wp2
      go_ret2
      exact ⟨rfl, rfl⟩
    · rw [nA_out h]
      unfold Fits at h
      have g3 : decide (9223372036854775807 + b < a) = true := by simp; omega
      clear h
      go_enter Tryz.func105, Tryz.ntmps105
      go_wp2
      go_ret2
      exact ⟨rfl, rfl⟩
  · subst h0
    have h : Fits (a - 0) := by unfold Fits; omega
    rw [nA_in h]
    rw [Int.sub_zero] at *
    go_enter Tryz.func105, Tryz.ntmps105
    go_wp2
    go_ret2
    exact ⟨by simp, rfl⟩
  · have g1 : decide (0 < b) = true := by simpa using h0
    have g2 : decide (b < 0) = false := by simp; omega
    by_cases h : Fits (a - b)
    · rw [nA_in h]
      obtain ⟨k1, k2⟩ := h
      have g3 : decide (a < -9223372036854775808 + b) = false := by simp; omega
      go_enter Tryz.func105, Tryz.ntmps105
      go_wp2
      go_ret2
      exact ⟨rfl, rfl⟩
    · rw [nA_out h]
      unfold Fits at h
      have g3 : decide (a < -9223372036854775808 + b) = true := by simp; omega
      clear h
      go_enter Tryz.func105, Tryz.ntmps105
      go_wp2
      go_ret2
      exact ⟨rfl, rfl⟩
set_option maxRecDepth 100000 in
theorem refNeg_any (a : Int) (ha : Fits a) (w : World) : Calls Tryz.prog 72 #[.int .i64 a] w fun e w' => e = .returned (nA (-a)) ∧ w' = w := by
  have H := refSub_any 0 a (by decide) ha w
  rw [Int.zero_sub] at H
  replace H : Hid _ := H
  clear ha
  go_enter Tryz.func72, Tryz.ntmps72
  go_wp2_with fail
  refine Calls.mono H.out ?_
  rintro e w' ⟨rfl, rfl⟩
  unfold nA
  go_wp2
  go_ret2
  exact ⟨rfl, rfl⟩
set_option maxRecDepth 100000 in
theorem refMul_any (a b : Int) (ha : Fits a) (hb : Fits b) (w : World) : Calls Tryz.prog 106 #[.int .i64 a, .int .i64 b] w fun e w' => e = .returned (nA (a * b)) ∧ w' = w := by
  by_cases a0 : a = 0
  · subst a0
    rw [Int.zero_mul, nA_in (by decide)]
    clear ha hb
    go_enter Tryz.func106, Tryz.ntmps106
    go_wp2
    go_ret2
    exact ⟨rfl, rfl⟩
  by_cases b0 : b = 0
  · subst b0
    rw [Int.mul_zero, nA_in (by decide)]
    have g0 : (a == 0) = false := by simpa using a0
    clear ha hb
    go_enter Tryz.func106, Tryz.ntmps106
    go_wp2
    go_ret2
    exact ⟨rfl, rfl⟩
  have g0 : (a == 0) = false := by simpa using a0
  have g1 : (b == 0) = false := by simpa using b0
  have Ha : Hid (∀ w, _) := fun w => size_any a ha w
  have Hb : Hid (∀ w, _) := fun w => size_any b hb w
  obtain ⟨m, hm⟩ : ∃ m : Nat, m = a.natAbs := ⟨_, rfl⟩
  obtain ⟨n, hn⟩ : ∃ n : Nat, n = b.natAbs := ⟨_, rfl⟩
  rw [← hm] at Ha
  rw [← hn] at Hb
  have n0 : ¬ n = 0 := by omega
  by_cases s : (decide (a < 0)) = (decide (b < 0))
  · have g : (!(decide (a < 0) == decide (b < 0))) = false := by simp [s]
    by_cases h : Fits (a * b)
    · have g3 : decide ((9223372036854775807 : Int) / (n : Int) < (m : Int)) = false := by subst hm hn; exact (mul_same b0 s).1 h
      rw [nA_in h]
      obtain ⟨k1, k2⟩ := h
      clear s hm hn ha hb
      go_enter Tryz.func106, Tryz.ntmps106
      go_wp2_with fail
      refine Calls.mono (Ha.out _) ?_
      rintro e w' ⟨rfl, rfl⟩
      go_wp2_with fail
      refine Calls.mono (Hb.out _) ?_
      rintro e w' ⟨rfl, rfl⟩
      go_wp2
      go_ret2
      exact ⟨rfl, rfl⟩
    · have g3 : decide ((9223372036854775807 : Int) / (n : Int) < (m : Int)) = true := by subst hm hn; exact (mul_same b0 s).2 h
      rw [nA_out h]
      clear s hm hn ha hb h
      go_enter Tryz.func106, Tryz.ntmps106
      go_wp2_with fail
      refine Calls.mono (Ha.out _) ?_
      rintro e w' ⟨rfl, rfl⟩
      go_wp2_with fail
      refine Calls.mono (Hb.out _) ?_
      rintro e w' ⟨rfl, rfl⟩
      go_wp2
      go_ret2
      exact ⟨rfl, rfl⟩
  · have g : (!(decide (a < 0) == decide (b < 0))) = true := by simpa using s
    by_cases h : Fits (a * b)
    · have g3 : decide ((9223372036854775808 : Int) / (n : Int) < (m : Int)) = false := by subst hm hn; exact (mul_apart a0 b0 s).1 h
      rw [nA_in h]
      obtain ⟨k1, k2⟩ := h
      clear s hm hn ha hb
      go_enter Tryz.func106, Tryz.ntmps106
      go_wp2_with fail
      refine Calls.mono (Ha.out _) ?_
      rintro e w' ⟨rfl, rfl⟩
      go_wp2_with fail
      refine Calls.mono (Hb.out _) ?_
      rintro e w' ⟨rfl, rfl⟩
      go_wp2
      go_ret2
      exact ⟨rfl, rfl⟩
    · have g3 : decide ((9223372036854775808 : Int) / (n : Int) < (m : Int)) = true := by subst hm hn; exact (mul_apart a0 b0 s).2 h
      rw [nA_out h]
      clear s hm hn ha hb h
      go_enter Tryz.func106, Tryz.ntmps106
      go_wp2_with fail
      refine Calls.mono (Ha.out _) ?_
      rintro e w' ⟨rfl, rfl⟩
      go_wp2_with fail
      refine Calls.mono (Hb.out _) ?_
      rintro e w' ⟨rfl, rfl⟩
      go_wp2
      go_ret2
      exact ⟨rfl, rfl⟩

end Go.Proofs.YtnlaaejdianfjaaGreat
namespace Go.Proofs.YtnlaaejdianfjaaGreat
open Go.RowKit
set_option linter.unusedVariables false

end Go.Proofs.YtnlaaejdianfjaaGreat
namespace Go.Proofs.YtnlaaejdianfjaaGreat
open Go.RowKit
set_option linter.unusedVariables false

/-- A word: Kind, Text, Int, At. -/
abbrev Tk := Int × ByteArray × Int × Int
end Go.Proofs.YtnlaaejdianfjaaGreat
