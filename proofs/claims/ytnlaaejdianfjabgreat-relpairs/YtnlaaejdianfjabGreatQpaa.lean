import Derived.Test.YtnlaaejdianfjabGreatRows
import Derived.WalkKit
import Derived.WalkSpells
import Derived.WalkLawsBesides
import Derived.BigQuiet
import Derived.Deep.QuietTactic
import Derived.Deep.RegionLaw
import Derived.Deep.DeepCutAuto
import Derived.Deep.CutBlock
import Derived.Laws.BitsAllLaws
import Derived.Laws.BytesArg
import Derived.LoopN
import Derived.BigRegion
import Derived.Deep.RegionHeld3
import Derived.Deep.AppendSrc
import Derived.Lib.Bytealg
import Derived.Shelf.LaysM
import Derived.Shelf.Strconv.Clone
import Derived.Deep.Trees
namespace Go.Proofs.YtnlaaejdianfjabGreat
open Go.RowKit
set_option linter.unusedVariables false

/-- The number at place i (0 beyond the end); a name of its own, so that the walk does not spell it anew. -/
def nth (xs : List Int) (i : Nat) : Int := xs[i]?.getD 0

/-- The slice value '.slice ao n c' reads, in w, as the n numbers xs of kind k. -/
structure Rd (k : IntKind) (w : World) (ao : Option Addr) (n c : Nat) (xs : List Int) : Prop where
  len : xs.length = n
  cap : n ≤ c
  max : c ≤ 9223372036854775807
  non : ao = none → c = 0
  cells : 0 < n → ∃ b o, ao = some ⟨b, o, none⟩ ∧ ∀ i, i < n → w.cell? ⟨b, o + i, none⟩ = some (.int k (nth xs i))

theorem Rd.nil (k : IntKind) (w : World) : Rd k w none 0 0 [] := ⟨rfl, Nat.le_refl _, by omega, fun _ => rfl, fun h => absurd h (Nat.lt_irrefl _)⟩

theorem ret_bool {a b : Bool} (h : a = b) : Ending.returned (.bool a) = .returned (.bool b) := by rw [h]
theorem ret_int {k : IntKind} {a b : Int} (h : a = b) : Ending.returned (.int k a) = .returned (.int k b) := by rw [h]
set_option linter.unusedVariables false

/-- -1, 0, 1: how two numbers stand. -/
def cmpI (x y : Int) : Int := if x < y then -1 else if y < x then 1 else 0

theorem cmpI_lt {x y : Int} (h : x < y) : cmpI x y = -1 := if_pos h

theorem cmpI_gt {x y : Int} (h : y < x) : cmpI x y = 1 := by rw [cmpI, if_neg (by omega), if_pos h]

theorem cmpI_eq (x : Int) : cmpI x x = 0 := by simp [cmpI]

/-- Two lists, number by number; a beginning of another stands ahead of it. -/
def lexI : List Int → List Int → Int
  | [], [] => 0
  | [], _ :: _ => -1
  | _ :: _, [] => 1
  | x :: xs, y :: ys => if x < y then -1 else if y < x then 1 else lexI xs ys

theorem lexI_lt {x y : Int} (xs ys : List Int) (h : x < y) : lexI (x :: xs) (y :: ys) = -1 := by rw [lexI, if_pos h]

theorem lexI_gt {x y : Int} (xs ys : List Int) (h : y < x) : lexI (x :: xs) (y :: ys) = 1 := by rw [lexI, if_neg (by omega), if_pos h]

theorem lexI_eq (x : Int) (xs ys : List Int) : lexI (x :: xs) (x :: ys) = lexI xs ys := by rw [lexI, if_neg (by omega), if_neg (by omega)]

theorem lexI_self (xs : List Int) : lexI xs xs = 0 := by
  induction xs with
  | nil => rfl
  | cons x xs ih => rw [lexI_eq]; exact ih

set_option linter.unusedVariables false

theorem lexI_vals : ∀ (A B : List Int), lexI A B = -1 ∨ lexI A B = 0 ∨ lexI A B = 1 := by
  intro A
  induction A with
  | nil => intro B; cases B <;> simp [lexI]
  | cons x r ih =>
    intro B
    cases B with
    | nil => simp [lexI]
    | cons y q =>
      rw [lexI]
      split
      · simp
      · split
        · simp
        · exact ih q

theorem owns_base {w : World} {base base' e size : Nat} {v : Value} {n : Nat} {xs : List Value} (h : w.ownsRow base e size v n xs) (hb : base' ≤ base) : w.ownsRow base' e size v n xs := by
  refine ⟨h.1, ?_⟩
  rcases h.2 with k | ⟨g, cap, cur, hv, hg, r⟩
  · exact .inl k
  · exact .inr ⟨g, cap, cur, hv, by omega, r⟩

set_option linter.unusedVariables false

set_option linter.unusedVariables false

/-- A text's bytes as numbers. -/
def nums (s : ByteArray) : List Int := s.data.toList.map fun c => (c.toNat : Int)

theorem nums_len (s : ByteArray) : (nums s).length = s.size := by rw [nums, List.length_map, Array.length_toList]; rfl

end Go.Proofs.YtnlaaejdianfjabGreat
namespace Go.Proofs.YtnlaaejdianfjabGreat
open Go.RowKit
set_option linter.unusedVariables false

/-- Does a whole number fit 64 bits with a sign? -/
abbrev Fits (z : Int) : Prop := -9223372036854775808 ≤ z ∧ z ≤ 9223372036854775807
/-- The number that is told, and the fault that is told beside it. -/
def nV (z : Int) : Int := if Fits z then z else 0
def nE (z : Int) : Int := if Fits z then 0 else 8
def nA (z : Int) : Value := .tuple #[.int .i64 (nV z), .int .i64 (nE z)]

theorem nA_in {z : Int} (h : Fits z) : nA z = .tuple #[.int .i64 z, .int .i64 0] := by simp [nA, nV, nE, h]
theorem nA_out {z : Int} (h : ¬ Fits z) : nA z = .tuple #[.int .i64 0, .int .i64 8] := by simp [nA, nV, nE, h]

set_option maxRecDepth 100000 in
theorem fit_yes (n : Int) (w : World) : Calls Tryz.prog 114 #[.int .i64 n, .bool true] w fun e w' => e = .returned (.tuple #[.int .i64 n, .int .i64 0]) ∧ w' = w := by
  go_enter Tryz.func114, Tryz.ntmps114
  go_wp2
  go_ret2
  exact ⟨rfl, rfl⟩
set_option maxRecDepth 100000 in
theorem fit_no (n : Int) (w : World) : Calls Tryz.prog 114 #[.int .i64 n, .bool false] w fun e w' => e = .returned (.tuple #[.int .i64 0, .int .i64 8]) ∧ w' = w := by
  go_enter Tryz.func114, Tryz.ntmps114
  go_wp2
  go_ret2
  exact ⟨rfl, rfl⟩

theorem add_fits {a b : Int} (h : Fits (a + b)) : (decide (a + b < a) == decide (b < 0)) = true := by
  have : decide (a + b < a) = decide (b < 0) := by rw [Bool.eq_iff_iff]; simp; omega
  simp [this]
theorem wrap_in {z : Int} (h : Fits z) : wrap64 z = z := by obtain ⟨h1, h2⟩ := h; unfold wrap64; omega
theorem add_over {a b : Int} (ha : Fits a) (hb : Fits b) (h : ¬ Fits (a + b)) : (decide (wrap64 (a + b) < a) == decide (b < 0)) = false := by
  unfold Fits wrap64 at *
  by_cases h0 : b < 0
  · have : ¬ ((a + b + 9223372036854775808) % 18446744073709551616 - 9223372036854775808 < a) := by omega
    simp [this, h0]
  · have : ((a + b + 9223372036854775808) % 18446744073709551616 - 9223372036854775808 < a) := by omega
    simp [this, h0]
theorem sub_fits {a b : Int} (h : Fits (a - b)) : (decide (a - b < a) == decide (0 < b)) = true := by
  have : decide (a - b < a) = decide (0 < b) := by rw [Bool.eq_iff_iff]; simp; omega
  simp [this]
theorem sub_over {a b : Int} (ha : Fits a) (hb : Fits b) (h : ¬ Fits (a - b)) : (decide (wrap64 (a - b) < a) == decide (0 < b)) = false := by
  unfold Fits wrap64 at *
  by_cases h0 : 0 < b
  · have : ¬ ((a - b + 9223372036854775808) % 18446744073709551616 - 9223372036854775808 < a) := by omega
    simp [this, h0]
  · have : ((a - b + 9223372036854775808) % 18446744073709551616 - 9223372036854775808 < a) := by omega
    simp [this, h0]

theorem wrap_fits (z : Int) : Fits (wrap64 z) := by unfold Fits wrap64; omega
theorem wrap_off (z : Int) : ∃ m : Int, z = wrap64 z + m * 18446744073709551616 := ⟨(z + 9223372036854775808) / 18446744073709551616, by unfold wrap64; omega⟩
theorem tmod_small {r b : Int} (hb : b ≠ 0) : (r.tmod b).natAbs < b.natAbs := by
  rw [Int.natAbs_tmod]
  exact Nat.mod_lt _ (by omega)
theorem tdiv_fits {r b : Int} (hr : Fits r) (h0 : b ≠ 0) (h1 : b ≠ -1) : Fits (r.tdiv b) := by
  by_cases e : b = 1
  · subst e; rw [Int.tdiv_one]; exact hr
  · have hq : (r.tdiv b).natAbs = r.natAbs / b.natAbs := Int.natAbs_tdiv r b
    have hle : r.natAbs / b.natAbs ≤ r.natAbs / 2 := Nat.div_le_div_left (by omega) (by omega)
    unfold Fits at *
    omega
theorem mul_over {a b : Int} (ha : Fits a) (hb : Fits b) (h0 : b ≠ 0) (h1 : b ≠ -1) (h : ¬ Fits (a * b)) : (wrap64 ((wrap64 (a * b)).tdiv b) == a) = false := by
  rw [wrap_in (tdiv_fits (wrap_fits _) h0 h1)]
  cases e : (wrap64 (a * b)).tdiv b == a with
  | false => rfl
  | true =>
    exfalso
    have e' : (wrap64 (a * b)).tdiv b = a := by simpa using e
    have hd := Int.mul_tdiv_add_tmod (wrap64 (a * b)) b
    rw [e', Int.mul_comm b a] at hd
    have ht := tmod_small (r := wrap64 (a * b)) h0
    obtain ⟨m, hm⟩ := wrap_off (a * b)
    have hm0 : m ≠ 0 := by
      rintro rfl
      apply h
      rw [show a * b = wrap64 (a * b) from by omega]
      exact wrap_fits _
    unfold Fits at hb
    omega

set_option maxRecDepth 100000 in
theorem add_any (a b : Int) (ha : Fits a) (hb : Fits b) (w : World) : Calls Tryz.prog 106 #[.int .i64 a, .int .i64 b] w fun e w' => e = .returned (nA (a + b)) ∧ w' = w := by
  by_cases h : Fits (a + b)
  · rw [nA_in h]
    have hd := add_fits h
    obtain ⟨h1, h2⟩ := h
    clear ha hb
    go_enter Tryz.func106, Tryz.ntmps106
    go_wp2_with fail
    refine Calls.mono (fit_yes _ _) ?_
    rintro e w' ⟨rfl, rfl⟩
    go_wp2
    go_ret2
    exact ⟨rfl, rfl⟩
  · rw [nA_out h]
    have hd := add_over ha hb h
    clear ha hb h
    go_enter Tryz.func106, Tryz.ntmps106
    go_wp2_with fail
    refine Calls.mono (fit_no _ _) ?_
    rintro e w' ⟨rfl, rfl⟩
    go_wp2
    go_ret2
    exact ⟨rfl, rfl⟩

set_option maxRecDepth 100000 in
theorem sub_any (a b : Int) (ha : Fits a) (hb : Fits b) (w : World) : Calls Tryz.prog 118 #[.int .i64 a, .int .i64 b] w fun e w' => e = .returned (nA (a - b)) ∧ w' = w := by
  by_cases h : Fits (a - b)
  · rw [nA_in h]
    have hd := sub_fits h
    obtain ⟨h1, h2⟩ := h
    clear ha hb
    go_enter Tryz.func118, Tryz.ntmps118
    go_wp2_with fail
    refine Calls.mono (fit_yes _ _) ?_
    rintro e w' ⟨rfl, rfl⟩
    go_wp2
    go_ret2
    exact ⟨rfl, rfl⟩
  · rw [nA_out h]
    have hd := sub_over ha hb h
    clear ha hb h
    go_enter Tryz.func118, Tryz.ntmps118
    go_wp2_with fail
    refine Calls.mono (fit_no _ _) ?_
    rintro e w' ⟨rfl, rfl⟩
    go_wp2
    go_ret2
    exact ⟨rfl, rfl⟩

set_option maxRecDepth 100000 in
theorem neg_any (a : Int) (ha : Fits a) (w : World) : Calls Tryz.prog 116 #[.int .i64 a] w fun e w' => e = .returned (nA (-a)) ∧ w' = w := by
  have H := sub_any 0 a (by decide) ha w
  rw [Int.zero_sub] at H
  replace H : Hid _ := H
  clear ha
  go_enter Tryz.func116, Tryz.ntmps116
  go_wp2_with fail
  refine Calls.mono H.out ?_
  rintro e w' ⟨rfl, rfl⟩
  unfold nA
  go_wp2
  go_ret2
  exact ⟨rfl, rfl⟩

set_option maxRecDepth 100000 in
theorem mul_any (a b : Int) (ha : Fits a) (hb : Fits b) (w : World) : Calls Tryz.prog 119 #[.int .i64 a, .int .i64 b] w fun e w' => e = .returned (nA (a * b)) ∧ w' = w := by
  by_cases h0 : b = 0
  · subst h0
    rw [Int.mul_zero, nA_in (by decide)]
    clear ha hb
    go_enter Tryz.func119, Tryz.ntmps119
    go_wp2
    go_ret2
    exact ⟨rfl, rfl⟩
  by_cases h1 : b = -1
  · subst h1
    have H := neg_any a ha w
    rw [show a * -1 = -a from by omega]
    replace H : Hid _ := H
    clear ha hb h0
    go_enter Tryz.func119, Tryz.ntmps119
    go_wp2_with fail
    refine Calls.mono H.out ?_
    rintro e w' ⟨rfl, rfl⟩
    unfold nA
    go_wp2
    go_ret2
    exact ⟨rfl, rfl⟩
  have g0 : (b == 0) = false := by simpa using h0
  have g1 : (b == -1) = false := by simpa using h1
  by_cases h : Fits (a * b)
  · rw [nA_in h]
    obtain ⟨k1, k2⟩ := h
    obtain ⟨k3, k4⟩ := ha
    obtain ⟨k5, k6⟩ := hb
    go_enter Tryz.func119, Tryz.ntmps119
    go_wp2_with fail
    refine Calls.mono (fit_yes _ _) ?_
    rintro e w' ⟨rfl, rfl⟩
    go_wp2
    go_ret2
    exact ⟨rfl, rfl⟩
  · rw [nA_out h]
    have hd := mul_over ha hb h0 h1 h
    clear h ha hb
    go_enter Tryz.func119, Tryz.ntmps119
    go_wp2_with fail
    refine Calls.mono (fit_no _ _) ?_
    rintro e w' ⟨rfl, rfl⟩
    go_wp2
    go_ret2
    exact ⟨rfl, rfl⟩

end Go.Proofs.YtnlaaejdianfjabGreat
namespace Go.Proofs.YtnlaaejdianfjabGreat
open Go.RowKit
set_option linter.unusedVariables false

end Go.Proofs.YtnlaaejdianfjabGreat
namespace Go.Proofs.YtnlaaejdianfjabGreat
open Go.RowKit
set_option linter.unusedVariables false
/-- The face of num: each calls its inner one. -/
theorem Add_any (a b : Int) (ha : Fits a) (hb : Fits b) (w : World) : Calls Tryz.prog 99 #[.int .i64 a, .int .i64 b] w fun e w' => e = .returned (nA (a + b)) ∧ w' = w := by
  have H : Hid _ := add_any a b ha hb w
  clear ha hb
  go_enter Tryz.func99, Tryz.ntmps99
  go_wp2_with fail
  refine Calls.mono H.out ?_
  rintro e w' ⟨rfl, rfl⟩
  unfold nA
  go_wp2
  go_ret2
  exact ⟨rfl, rfl⟩
theorem Sub_any (a b : Int) (ha : Fits a) (hb : Fits b) (w : World) : Calls Tryz.prog 112 #[.int .i64 a, .int .i64 b] w fun e w' => e = .returned (nA (a - b)) ∧ w' = w := by
  have H : Hid _ := sub_any a b ha hb w
  clear ha hb
  go_enter Tryz.func112, Tryz.ntmps112
  go_wp2_with fail
  refine Calls.mono H.out ?_
  rintro e w' ⟨rfl, rfl⟩
  unfold nA
  go_wp2
  go_ret2
  exact ⟨rfl, rfl⟩
theorem Mul_any (a b : Int) (ha : Fits a) (hb : Fits b) (w : World) : Calls Tryz.prog 113 #[.int .i64 a, .int .i64 b] w fun e w' => e = .returned (nA (a * b)) ∧ w' = w := by
  have H : Hid _ := mul_any a b ha hb w
  clear ha hb
  go_enter Tryz.func113, Tryz.ntmps113
  go_wp2_with fail
  refine Calls.mono H.out ?_
  rintro e w' ⟨rfl, rfl⟩
  unfold nA
  go_wp2
  go_ret2
  exact ⟨rfl, rfl⟩
theorem Neg_any (a : Int) (ha : Fits a) (w : World) : Calls Tryz.prog 110 #[.int .i64 a] w fun e w' => e = .returned (nA (-a)) ∧ w' = w := by
  have H : Hid _ := neg_any a ha w
  clear ha
  go_enter Tryz.func110, Tryz.ntmps110
  go_wp2_with fail
  refine Calls.mono H.out ?_
  rintro e w' ⟨rfl, rfl⟩
  unfold nA
  go_wp2
  go_ret2
  exact ⟨rfl, rfl⟩
end Go.Proofs.YtnlaaejdianfjabGreat
namespace Go.Proofs.YtnlaaejdianfjabGreat
open Go.RowKit
set_option linter.unusedVariables false

end Go.Proofs.YtnlaaejdianfjabGreat
namespace Go.Proofs.YtnlaaejdianfjabGreat
open Go.RowKit
set_option linter.unusedVariables false

/-- A word: Kind, Text, Int, At. -/
abbrev Tk := Int × ByteArray × Int × Int
end Go.Proofs.YtnlaaejdianfjabGreat
namespace Go.Proofs.YtnlaaejdianfjabGreat
open Go.RowKit
set_option linter.unusedVariables false
/-- May a text have this byte? -/
def okB (x : Int) : Bool := decide (32 ≤ x) && decide (x ≤ 126)
def mayT (l : List Int) : Bool := decide (l.length ≤ 30) && l.all okB
/-- May this value be? -/
def mayV (k n : Int) (l : List Int) : Bool := if k = 1 then decide (l = []) else decide (k = 2) && (decide (n = 0) && mayT l)
/-- The first that is not 0. -/
def orI (a b : Int) : Int := if a = 0 then b else a
def cmpV (k n : Int) (l : List Int) (k' n' : Int) (l' : List Int) : Int := orI (cmpI k k') (orI (cmpI n n') (lexI l l'))
theorem cmpI_neg (x y : Int) : cmpI y x = -cmpI x y := by unfold cmpI; split <;> split <;> (try split) <;> omega
theorem cmpI_zero {x y : Int} : cmpI x y = 0 ↔ x = y := by unfold cmpI; split <;> (try split) <;> omega
theorem lexI_neg : ∀ (A B : List Int), lexI B A = -lexI A B
  | [], [] => rfl
  | [], _ :: _ => rfl
  | _ :: _, [] => rfl
  | x :: xs, y :: ys => by
    rcases (by omega : x < y ∨ x = y ∨ y < x) with h | h | h
    · rw [lexI_gt _ _ h, lexI_lt _ _ h]; rfl
    · subst h; rw [lexI_eq, lexI_eq]; exact lexI_neg xs ys
    · rw [lexI_gt _ _ h, lexI_lt _ _ h]
theorem lexI_zero : ∀ {A B : List Int}, lexI A B = 0 → A = B
  | [], [], _ => rfl
  | [], _ :: _, h => by simp [lexI] at h
  | _ :: _, [], h => by simp [lexI] at h
  | x :: xs, y :: ys, h => by
    rcases (by omega : x < y ∨ x = y ∨ y < x) with k | k | k
    · rw [lexI_lt _ _ k] at h; omega
    · subst k; rw [lexI_eq] at h; rw [lexI_zero h]
    · rw [lexI_gt _ _ k] at h; omega
theorem cmpV_neg (k n : Int) (l : List Int) (k' n' : Int) (l' : List Int) : cmpV k' n' l' k n l = -cmpV k n l k' n' l' := by
  unfold cmpV orI
  rw [cmpI_neg k k', cmpI_neg n n', lexI_neg l l']
  split <;> split <;> (try split) <;> (try split) <;> omega
theorem cmpV_zero {k n : Int} {l : List Int} {k' n' : Int} {l' : List Int} : cmpV k n l k' n' l' = 0 ↔ k = k' ∧ n = n' ∧ l = l' := by
  unfold cmpV orI
  constructor
  · intro h
    split at h
    · rename_i h1
      split at h
      · rename_i h2
        exact ⟨cmpI_zero.1 h1, cmpI_zero.1 h2, lexI_zero h⟩
      · rename_i h2; exact absurd h h2
    · rename_i h1; exact absurd h h1
  · rintro ⟨rfl, rfl, rfl⟩
    rw [cmpI_eq, cmpI_eq, lexI_self]; rfl
theorem okB_iff {x : Int} : okB x = true ↔ 32 ≤ x ∧ x ≤ 126 := by simp [okB]
theorem mayT_iff {l : List Int} : mayT l = true ↔ l.length ≤ 30 ∧ ∀ x ∈ l, 32 ≤ x ∧ x ≤ 126 := by simp [mayT, okB_iff, List.all_eq_true]
theorem mayV_one {k n : Int} {l : List Int} (h : mayV k n l = true) : (k = 1 ∧ l = []) ∨ (k = 2 ∧ n = 0 ∧ l.length ≤ 30 ∧ ∀ x ∈ l, 32 ≤ x ∧ x ≤ 126) := by
  unfold mayV at h
  split at h
  · exact .inl ⟨by assumption, by simpa using h⟩
  · rw [Bool.and_eq_true, Bool.and_eq_true, decide_eq_true_iff, decide_eq_true_iff, mayT_iff] at h
    exact .inr ⟨h.1, h.2.1, h.2.2⟩
set_option maxRecDepth 100000 in
theorem orderInt_any (a b : Int) (w : World) : Calls Tryz.prog 67 #[.int .i64 a, .int .i64 b] w fun e w' => e = .returned (.int .i64 (cmpI a b)) ∧ w' = w := by
  rcases (by omega : a < b ∨ a = b ∨ b < a) with h | h | h
  · rw [cmpI_lt h]
    have h1 : decide (a < b) = true := by simpa using h
    go_enter Tryz.func67, Tryz.ntmps67
    go_wp2
    go_ret
    exact ⟨rfl, rfl⟩
  · subst h
    rw [cmpI_eq]
    go_enter Tryz.func67, Tryz.ntmps67
    go_wp2
    go_ret
    exact ⟨rfl, rfl⟩
  · rw [cmpI_gt h]
    have h1 : decide (a < b) = false := by simp; omega
    have h2 : decide (b < a) = true := by simpa using h
    go_enter Tryz.func67, Tryz.ntmps67
    go_wp2
    go_ret
    exact ⟨rfl, rfl⟩
set_option maxRecDepth 100000 in
theorem orderInt64_any (a b : Int) (w : World) : Calls Tryz.prog 68 #[.int .i64 a, .int .i64 b] w fun e w' => e = .returned (.int .i64 (cmpI a b)) ∧ w' = w := by
  rcases (by omega : a < b ∨ a = b ∨ b < a) with h | h | h
  · rw [cmpI_lt h]
    have h1 : decide (a < b) = true := by simpa using h
    go_enter Tryz.func68, Tryz.ntmps68
    go_wp2
    go_ret
    exact ⟨rfl, rfl⟩
  · subst h
    rw [cmpI_eq]
    go_enter Tryz.func68, Tryz.ntmps68
    go_wp2
    go_ret
    exact ⟨rfl, rfl⟩
  · rw [cmpI_gt h]
    have h1 : decide (a < b) = false := by simp; omega
    have h2 : decide (b < a) = true := by simpa using h
    go_enter Tryz.func68, Tryz.ntmps68
    go_wp2
    go_ret
    exact ⟨rfl, rfl⟩
theorem less_lex : ∀ (a b : List UInt8), Op.bytesLess a b = decide (lexI (a.map fun c => (c.toNat : Int)) (b.map fun c => (c.toNat : Int)) = -1)
  | [], [] => rfl
  | _ :: _, [] => rfl
  | [], _ :: _ => rfl
  | x :: xs, y :: ys => by
    rw [Op.bytesLess, List.map_cons, List.map_cons, less_lex xs ys]
    rcases Nat.lt_trichotomy x.toNat y.toNat with h | h | h
    · rw [lexI_lt _ _ (by omega), decide_eq_true (show x < y from UInt8.lt_iff_toNat_lt.2 h)]; rfl
    · have e : x = y := UInt8.toNat_inj.1 h
      subst e
      rw [lexI_eq]
      simp
    · have n1 : ¬ x < y := fun k => by have := UInt8.lt_iff_toNat_lt.1 k; omega
      have n2 : (x == y) = false := by
        simp
        intro k
        rw [k] at h
        omega
      rw [lexI_gt _ _ (by omega), decide_eq_false n1, n2]
      rfl
theorem less_nums (s t : ByteArray) : Op.bytesLess s.toList t.toList = decide (lexI (nums s) (nums t) = -1) := by
  rw [less_lex, ByteArray.toList_eq, ByteArray.toList_eq]; rfl
theorem map_inj8 : ∀ {a b : List UInt8}, (a.map fun c => (c.toNat : Int)) = (b.map fun c => (c.toNat : Int)) → a = b
  | [], [], _ => rfl
  | [], _ :: _, h => by simp at h
  | _ :: _, [], h => by simp at h
  | x :: xs, y :: ys, h => by
    rw [List.map_cons, List.map_cons, List.cons.injEq] at h
    rw [map_inj8 h.2, UInt8.toNat_inj.1 (by omega : x.toNat = y.toNat)]
theorem nums_inj {s t : ByteArray} (h : nums s = nums t) : s = t := ByteArray.ext (Array.toList_inj.1 (map_inj8 h))
theorem same_nums (s t : ByteArray) : (s.toList == t.toList) = decide (lexI (nums s) (nums t) = 0) := by
  rw [Bool.eq_iff_iff]
  simp only [beq_iff_eq, decide_eq_true_eq]
  constructor
  · intro h
    rw [ByteArray.toList_eq, ByteArray.toList_eq] at h
    rw [nums, nums, h, lexI_self]
  · intro h
    rw [nums_inj (lexI_zero h)]
set_option maxRecDepth 100000 in
theorem orderText_any (s t : ByteArray) (w : World) : Calls Tryz.prog 69 #[.string s, .string t] w fun e w' => e = .returned (.int .i64 (lexI (nums s) (nums t))) ∧ w' = w := by
  have h1 := less_nums s t
  have h2 := same_nums s t
  rcases lexI_vals (nums s) (nums t) with h | h | h
  · rw [h] at h1 h2 ⊢
    replace h1 : Op.bytesLess s.toList t.toList = true := h1
    clear h h2
    go_enter Tryz.func69, Tryz.ntmps69
    go_wp2
    go_ret
    exact ⟨rfl, rfl⟩
  · rw [h] at h1 h2 ⊢
    replace h1 : Op.bytesLess s.toList t.toList = false := h1
    replace h2 : (s.toList == t.toList) = true := h2
    clear h
    go_enter Tryz.func69, Tryz.ntmps69
    go_wp2
    go_ret
    exact ⟨rfl, rfl⟩
  · rw [h] at h1 h2 ⊢
    replace h1 : Op.bytesLess s.toList t.toList = false := h1
    replace h2 : (s.toList == t.toList) = false := h2
    clear h
    go_enter Tryz.func69, Tryz.ntmps69
    go_wp2
    go_ret
    exact ⟨rfl, rfl⟩
set_option maxRecDepth 100000 in
theorem orThree_any (a b c : Int) (g : Nat) (w : World) (h0 : w.cell? ⟨g, 0, none⟩ = some (.int .i64 a)) (h1 : w.cell? ⟨g, 1, none⟩ = some (.int .i64 b)) (h2 : w.cell? ⟨g, 2, none⟩ = some (.int .i64 c)) :
    Calls Tryz.prog 66 #[.slice (some ⟨g, 0, none⟩) 3 3] w fun e w' => e = .returned (.int .i64 (orI a (orI b c))) ∧ w' = w := by
  by_cases ha : a = 0
  · subst ha
    by_cases hb : b = 0
    · subst hb
      rw [show orI 0 (orI 0 c) = c from rfl]
      by_cases hc : c = 0
      · subst hc
        go_enter Tryz.func66, Tryz.ntmps66
        go_wp2
        refine wp_loop_rounds 4 ?_
        rw [rounds_succ]
        go_wp2
        rw [rounds_succ]
        go_wp2
        rw [rounds_succ]
        go_wp2
        rw [rounds_succ]
        go_wp2
        go_ret
        exact ⟨rfl, rfl⟩
      · have g1 : (c != 0) = true := by simpa using hc
        go_enter Tryz.func66, Tryz.ntmps66
        go_wp2
        refine wp_loop_rounds 3 ?_
        rw [rounds_succ]
        go_wp2
        rw [rounds_succ]
        go_wp2
        rw [rounds_succ]
        go_wp2
        go_ret
        exact ⟨rfl, rfl⟩
    · rw [show orI 0 (orI b c) = b from by simp [orI, hb]]
      have g1 : (b != 0) = true := by simpa using hb
      go_enter Tryz.func66, Tryz.ntmps66
      go_wp2
      refine wp_loop_rounds 2 ?_
      rw [rounds_succ]
      go_wp2
      rw [rounds_succ]
      go_wp2
      go_ret
      exact ⟨rfl, rfl⟩
  · rw [show orI a (orI b c) = a from by simp [orI, ha]]
    have g1 : (a != 0) = true := by simpa using ha
    go_enter Tryz.func66, Tryz.ntmps66
    go_wp2
    refine wp_loop_rounds 1 ?_
    rw [rounds_succ]
    go_wp2
    go_ret
    exact ⟨rfl, rfl⟩
set_option maxRecDepth 100000 in
set_option maxHeartbeats 1000000 in
theorem compare_any (k n : Int) (s : ByteArray) (k' n' : Int) (s' : ByteArray) (w : World) :
    Calls Tryz.prog 41 #[.agg #[.int .i64 k, .int .i64 n, .string s], .agg #[.int .i64 k', .int .i64 n', .string s']] w fun e w' => e = .returned (.int .i64 (cmpV k n (nums s) k' n' (nums s'))) ∧ Below w.heap.size w w' := by
  have HI : Hid (∀ w, _) := fun w => orderInt_any k k' w
  have HJ : Hid (∀ w, _) := fun w => orderInt64_any n n' w
  have HT : Hid (∀ w, _) := fun w => orderText_any s s' w
  have HO : Hid (∀ g w h0 h1 h2, _) := fun g w h0 h1 h2 => orThree_any (cmpI k k') (cmpI n n') (lexI (nums s) (nums s')) g w h0 h1 h2
  have HE : Hid (cmpV k n (nums s) k' n' (nums s') = orI (cmpI k k') (orI (cmpI n n') (lexI (nums s) (nums s')))) := rfl
  have hb : Below w.heap.size w ((w.alloc (.cells #[.int .i64 k, .int .i64 n, .string s] 39)).alloc (.cells #[.int .i64 k', .int .i64 n', .string s'] 39)) := ((Below.refl _ _).alloc (Nat.le_refl _) _).alloc (by simp) _
  generalize cmpV k n (nums s) k' n' (nums s') = R at *
  generalize cmpI k k' = A at *
  generalize cmpI n n' = B at *
  generalize lexI (nums s) (nums s') = C at *
  go_enter Tryz.func41, Tryz.ntmps41
  go_wp2_with fail
  have c0 : ((w.alloc (.cells #[.int .i64 k, .int .i64 n, .string s] 39)).alloc (.cells #[.int .i64 k', .int .i64 n', .string s'] 39)).cell? ⟨w.heap.size, 0, none⟩ = some (.int .i64 k) := by simp [go_sem]
  have c1 : ((w.alloc (.cells #[.int .i64 k, .int .i64 n, .string s] 39)).alloc (.cells #[.int .i64 k', .int .i64 n', .string s'] 39)).cell? ⟨w.heap.size, 1, none⟩ = some (.int .i64 n) := by simp [go_sem]
  have c2 : ((w.alloc (.cells #[.int .i64 k, .int .i64 n, .string s] 39)).alloc (.cells #[.int .i64 k', .int .i64 n', .string s'] 39)).cell? ⟨w.heap.size, 2, none⟩ = some (.string s) := by simp [go_sem]
  have d0 : ((w.alloc (.cells #[.int .i64 k, .int .i64 n, .string s] 39)).alloc (.cells #[.int .i64 k', .int .i64 n', .string s'] 39)).cell? ⟨w.heap.size + 1, 0, none⟩ = some (.int .i64 k') := by simp [go_sem]
  have d1 : ((w.alloc (.cells #[.int .i64 k, .int .i64 n, .string s] 39)).alloc (.cells #[.int .i64 k', .int .i64 n', .string s'] 39)).cell? ⟨w.heap.size + 1, 1, none⟩ = some (.int .i64 n') := by simp [go_sem]
  have d2 : ((w.alloc (.cells #[.int .i64 k, .int .i64 n, .string s] 39)).alloc (.cells #[.int .i64 k', .int .i64 n', .string s'] 39)).cell? ⟨w.heap.size + 1, 2, none⟩ = some (.string s') := by simp [go_sem]
  have hz : w.heap.size ≤ ((w.alloc (.cells #[.int .i64 k, .int .i64 n, .string s] 39)).alloc (.cells #[.int .i64 k', .int .i64 n', .string s'] 39)).heap.size := hb.size
  generalize (w.alloc (.cells #[.int .i64 k, .int .i64 n, .string s] 39)).alloc (.cells #[.int .i64 k', .int .i64 n', .string s'] 39) = W at *
  go_region_held3 (fun w' => w'.cell? ⟨w.heap.size, 0, none⟩ = some (.int .i64 k) ∧ w'.cell? ⟨w.heap.size, 1, none⟩ = some (.int .i64 n) ∧ w'.cell? ⟨w.heap.size, 2, none⟩ = some (.string s) ∧ w'.cell? ⟨w.heap.size + 1, 0, none⟩ = some (.int .i64 k') ∧ w'.cell? ⟨w.heap.size + 1, 1, none⟩ = some (.int .i64 n') ∧ w'.cell? ⟨w.heap.size + 1, 2, none⟩ = some (.string s')) (go_keep)
    (first
    | (go_at_call 67; refine Calls.mono (HI.out _) ?_; rintro e y1 ⟨rfl, rfl⟩)
    | (go_at_call 68; refine Calls.mono (HJ.out _) ?_; rintro e y2 ⟨rfl, rfl⟩)
    | (go_at_call 69; refine Calls.mono (HT.out _) ?_; rintro e y3 ⟨rfl, rfl⟩)
    | (go_at_call 66; refine Calls.mono (HO.out _ _ (by simp [go_sem]) (by simp [go_sem]) (by simp [go_sem])) ?_; rintro e y4 ⟨rfl, rfl⟩))
  all_goals
    go_wp2
    go_ret
    exact ⟨by rw [HE.out]; rfl, by first | exact (hb.drew.alloc hz _) | exact (hb.alloc hz _).drew⟩
end Go.Proofs.YtnlaaejdianfjabGreat
namespace Go.Proofs.YtnlaaejdianfjabGreat
open Go.RowKit
set_option linter.unusedVariables false

end Go.Proofs.YtnlaaejdianfjabGreat
namespace Go.Proofs.YtnlaaejdianfjabGreat
open Go.RowKit
set_option linter.unusedVariables false

/-- But for block g all that lay in w lies in w' as it did. -/
structure But (g : Nat) (w w' : World) : Prop where
  os : w'.os = w.os
  tape : w'.tape = w.tape
  output : w'.output = w.output
  size : w.heap.size ≤ w'.heap.size
  block : ∀ k, k < w.heap.size → k ≠ g → w'.heap[k]? = w.heap[k]?
theorem But.refl (g : Nat) (w : World) : But g w w := ⟨rfl, rfl, rfl, Nat.le_refl _, fun _ _ _ => rfl⟩
theorem But.trans {g : Nat} {a b c : World} (h : But g a b) (k : But g b c) : But g a c :=
  ⟨k.os.trans h.os, k.tape.trans h.tape, k.output.trans h.output, Nat.le_trans h.size k.size, fun i hi hg => (k.block i (Nat.lt_of_lt_of_le hi h.size) hg).trans (h.block i hi hg)⟩
theorem But.of {g : Nat} {w w' : World} (h : Below w.heap.size w w') : But g w w' := ⟨h.os, h.tape, h.output, h.size, fun k hk _ => h.block k hk⟩
theorem But.set (g o : Nat) (w : World) (v : Value) : But g w (w.setCell ⟨g, o, none⟩ v) := ⟨rfl, rfl, rfl, by simp [World.setCell], fun k _ hk => Below.heap_setCell _ _ _ _ hk⟩
theorem But.below {g B : Nat} {a w w' : World} (h : Below B a w) (k : But g w w') (hB : B ≤ g) (hw : B ≤ w.heap.size) : Below B a w' :=
  h.trans ⟨k.os, k.tape, k.output, k.size, fun i hi => k.block i (by omega) (by omega)⟩
theorem But.cell {g : Nat} {w w' : World} (h : But g w w') {a : Addr} {v : Value} (hc : w.cell? a = some v) (hg : a.block ≠ g) : w'.cell? a = some v :=
  (World.cell?_of_block (h.block a.block (World.block_lt_of_cell? _ _ hc) hg)).trans hc
theorem But.rdrew {g : Nat} {w w' : World} (h : But g w w') (n : Nat) : But g w (w'.drewN n) := ⟨h.os, h.tape, h.output, h.size, h.block⟩

end Go.Proofs.YtnlaaejdianfjabGreat
namespace Go.Proofs
open Go.Shelf
def Tryz.laysM316_ren : Go.Shelf.Ren := ⟨fun | 316 => 86 | n => n, fun | 9 => 9 | 3 => 3 | 4 => 4 | 37 => 22 | 0 => 0 | 127 => 162 | 5 => 5 | n => n, fun | n => n⟩
theorem Tryz.laysM316 : Go.Proofs.LaysM.n316 Tryz.prog Tryz.laysM316_ren := {
  mixed := by kernel_rfl
  f316 := Tryz.func86.trans (congrArg some (by kernel_rfl))
  t0 := Tryz.underlying0
  a0 := Tryz.isAgg0
  z0 := Tryz.sizeOf0
  v0 := Tryz.zeroValue0
  t3 := Tryz.underlying3
  a3 := Tryz.isAgg3
  z3 := Tryz.sizeOf3
  v3 := Tryz.zeroValue3
  t4 := Tryz.underlying4
  a4 := Tryz.isAgg4
  z4 := Tryz.sizeOf4
  v4 := Tryz.zeroValue4
  t9 := Tryz.underlying9
  a9 := Tryz.isAgg9
  z9 := Tryz.sizeOf9
  v9 := Tryz.zeroValue9
  t37 := Tryz.underlying22
  a37 := Tryz.isAgg22
  z37 := Tryz.sizeOf22
  v37 := Tryz.zeroValue22
  t127 := Tryz.underlying162
  a127 := Tryz.isAgg162
  z127 := Tryz.sizeOf162
  v127 := Tryz.zeroValue162
  t5 := Tryz.underlying5
  a5 := Tryz.isAgg5
  z5 := Tryz.sizeOf5
  v5 := Tryz.zeroValue5
  i0 := by kernel_rfl
  i3 := by kernel_rfl
  i4 := by kernel_rfl
  i5 := by kernel_rfl
  i9 := by kernel_rfl
  i37 := by kernel_rfl
  i127 := by kernel_rfl }
open Go.RowKit in
/-- internal/stringslite.Clone: the same bytes. -/
theorem Tryz.stringslite_Clone (s : ByteArray) (w : World) (hlim : s.size ≤ 281474976710656) :
    Calls Tryz.prog 86 #[.string s] w fun e w' => e = .returned (.string s) ∧ Below w.heap.size w w' := Any.stringslite_Clone Tryz.laysM316 s w hlim
end Go.Proofs
namespace Go.Proofs.YtnlaaejdianfjabGreat
open Go.RowKit
set_option linter.unusedVariables false

/-- A step on. -/
theorem Below.on {a w w' : World} (h : Below a.heap.size a w) (k : Below w.heap.size w w') : Below a.heap.size a w' := h.trans (k.mono h.size)
/-- Are two texts the same? -/
def eqS (s t : ByteArray) : Bool := decide (s = t)
theorem same_str (s t : ByteArray) : (s.toList == t.toList) = decide (s = t) := by
  rw [Bool.eq_iff_iff]
  simp only [beq_iff_eq, decide_eq_true_eq]
  constructor
  · intro h
    rw [ByteArray.toList_eq, ByteArray.toList_eq] at h
    exact ByteArray.ext (Array.toList_inj.1 h)
  · intro h; rw [h]
end Go.Proofs.YtnlaaejdianfjabGreat
namespace Go.Proofs.YtnlaaejdianfjabGreat
open Go.RowKit
set_option linter.unusedVariables false

theorem cell_new (w : World) (arr : Array Value) (e : TypeId) (mk : Nat × Nat) (j : Nat) : (w.alloc (.cells arr e mk)).cell? ⟨w.heap.size, j, none⟩ = arr[j]? := by
  have : (w.alloc (.cells arr e mk)).heap[w.heap.size]? = some (.cells arr e mk) := heap_alloc_new w _
  unfold World.cell?
  rw [this]
  rfl
end Go.Proofs.YtnlaaejdianfjabGreat
namespace Go.Proofs.YtnlaaejdianfjabGreat
open Go.RowKit
set_option linter.unusedVariables false

theorem But.new {g : Nat} {w w' : World} (h : But g w w') {r : Nat} (hr : w.heap.size ≤ r) (o : Nat) (v : Value) : But g w (w'.setCell ⟨r, o, none⟩ v) :=
  ⟨h.os, h.tape, h.output, by simp [World.setCell]; exact h.size, fun k hk hg => (Below.heap_setCell _ _ _ _ (by show k ≠ r; omega)).trans (h.block k hk hg)⟩
theorem But.alloc {g : Nat} {w w' : World} (h : But g w w') (o : Obj) : But g w (w'.alloc o) :=
  h.trans (But.of ((Below.refl _ _).alloc (Nat.le_refl _) o))
end Go.Proofs.YtnlaaejdianfjabGreat
namespace Go.Proofs.YtnlaaejdianfjabGreat
open Go.RowKit
set_option linter.unusedVariables false

end Go.Proofs.YtnlaaejdianfjabGreat
namespace Go.Proofs.YtnlaaejdianfjabGreat
open Go.RowKit
set_option linter.unusedVariables false

end Go.Proofs.YtnlaaejdianfjabGreat
namespace Go.Proofs.YtnlaaejdianfjabGreat
open Go.RowKit
set_option linter.unusedVariables false

end Go.Proofs.YtnlaaejdianfjabGreat
namespace Go.Proofs.YtnlaaejdianfjabGreat
open Go.RowKit
set_option linter.unusedVariables false

end Go.Proofs.YtnlaaejdianfjabGreat
namespace Go.Proofs.YtnlaaejdianfjabGreat
open Go.RowKit
set_option linter.unusedVariables false

end Go.Proofs.YtnlaaejdianfjabGreat
namespace Go.Proofs.YtnlaaejdianfjabGreat
open Go.RowKit
set_option linter.unusedVariables false

end Go.Proofs.YtnlaaejdianfjabGreat
namespace Go.Proofs.YtnlaaejdianfjabGreat
open Go.RowKit
set_option linter.unusedVariables false

end Go.Proofs.YtnlaaejdianfjabGreat
namespace Go.Proofs.YtnlaaejdianfjabGreat
open Go.RowKit
set_option linter.unusedVariables false

/-- What a node of an expression has besides its number: Value (Kind, Int, Text), Table, Name. -/
abbrev Pay := Int × Int × ByteArray × ByteArray × ByteArray
/-- An expression: '.node 0 number payload left right'. -/
abbrev Tr := Go.Deep.BT Pay
/-- A fault's place and the fault; or what was read, and the words behind it. -/
abbrev Re (α : Type) := Sum (Int × Int) (α × List Tk)
/-- A fault's place and the fault; or the words that are yet to be read. -/
abbrev Sa := Sum (Int × Int) (List Tk)
/-- What may lie one deeper, where n may. -/
def below (f : Nat → List Tk → Re Tr) : Nat → Option (List Tk → Re Tr)
  | 0 => none
  | n + 1 => some (f n)
end Go.Proofs.YtnlaaejdianfjabGreat
namespace Go.Proofs.YtnlaaejdianfjabGreat
open Go.RowKit
set_option linter.unusedVariables false

end Go.Proofs.YtnlaaejdianfjabGreat
namespace Go.Proofs.YtnlaaejdianfjabGreat
open Go.RowKit
set_option linter.unusedVariables false

theorem hid {p : Prop} (h : p) : Hid p := h
end Go.Proofs.YtnlaaejdianfjabGreat
namespace Go.Proofs.YtnlaaejdianfjabGreat
open Go.RowKit
set_option linter.unusedVariables false

end Go.Proofs.YtnlaaejdianfjabGreat
namespace Go.Proofs.YtnlaaejdianfjabGreat
open Go.RowKit
set_option linter.unusedVariables false

/-- The seven cells of an expression from place o on in block b. -/
def Ce (w : World) (b o : Nat) (op : Int) (p : Pay) (sl : Value) : Prop :=
  w.cell? ⟨b, o, none⟩ = some (.int .i64 op) ∧ w.cell? ⟨b, o + 1, none⟩ = some (.int .i64 p.1) ∧ w.cell? ⟨b, o + 2, none⟩ = some (.int .i64 p.2.1) ∧ w.cell? ⟨b, o + 3, none⟩ = some (.string p.2.2.1) ∧ w.cell? ⟨b, o + 4, none⟩ = some (.string p.2.2.2.1) ∧ w.cell? ⟨b, o + 5, none⟩ = some (.string p.2.2.2.2) ∧ w.cell? ⟨b, o + 6, none⟩ = some sl
theorem Ce.keep {w w' : World} {b o : Nat} {op : Int} {p : Pay} {sl : Value} (h : Ce w b o op p sl) (hk : w'.heap[b]? = w.heap[b]?) : Ce w' b o op p sl := by
  obtain ⟨h0, h1, h2, h3, h4, h5, h6⟩ := h
  exact ⟨(World.cell?_of_block (a := ⟨b, _, none⟩) hk).trans h0, (World.cell?_of_block (a := ⟨b, _, none⟩) hk).trans h1, (World.cell?_of_block (a := ⟨b, _, none⟩) hk).trans h2, (World.cell?_of_block (a := ⟨b, _, none⟩) hk).trans h3, (World.cell?_of_block (a := ⟨b, _, none⟩) hk).trans h4, (World.cell?_of_block (a := ⟨b, _, none⟩) hk).trans h5, (World.cell?_of_block (a := ⟨b, _, none⟩) hk).trans h6⟩
theorem Ce.lt {w : World} {b o : Nat} {op : Int} {p : Pay} {sl : Value} (h : Ce w b o op p sl) : b < w.heap.size := World.block_lt_of_cell? _ _ h.1
theorem bal {a w : World} (h : Below a.heap.size a w) (o : Obj) : Below a.heap.size a (w.alloc o) := h.alloc h.size o

abbrev zE : Obj := .cells #[.int .i64 0, .int .i64 0, .int .i64 0, .string ⟨#[]⟩, .string ⟨#[]⟩, .string ⟨#[]⟩, .slice none 0 0] 42

end Go.Proofs.YtnlaaejdianfjabGreat
namespace Go.Proofs.YtnlaaejdianfjabGreat
open Go.RowKit
set_option linter.unusedVariables false

end Go.Proofs.YtnlaaejdianfjabGreat
namespace Go.Proofs.YtnlaaejdianfjabGreat
open Go.RowKit
set_option linter.unusedVariables false

end Go.Proofs.YtnlaaejdianfjabGreat
namespace Go.Proofs.YtnlaaejdianfjabGreat
open Go.RowKit
set_option linter.unusedVariables false

end Go.Proofs.YtnlaaejdianfjabGreat
namespace Go.Proofs.YtnlaaejdianfjabGreat
open Go.RowKit
set_option linter.unusedVariables false

end Go.Proofs.YtnlaaejdianfjabGreat
namespace Go.Proofs.YtnlaaejdianfjabGreat
open Go.RowKit
set_option linter.unusedVariables false

end Go.Proofs.YtnlaaejdianfjabGreat
