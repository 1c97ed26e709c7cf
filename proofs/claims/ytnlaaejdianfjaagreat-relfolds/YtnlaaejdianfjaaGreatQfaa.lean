import Derived.Test.YtnlaaejdianfjaaGreatRows
import Derived.WalkKit
import Derived.WalkSpells
import Derived.WalkLawsBesides
import Derived.BigQuiet
import Derived.Deep.QuietTactic
import Derived.Deep.RegionLaw
import Derived.Deep.DeepCutAuto
import Derived.Deep.CutBlock
import Derived.Laws.BitsAllLaws
import Derived.Laws.BytesArg
import Derived.LoopN
import Derived.BigRegion
import Derived.Deep.RegionHeld3
import Derived.Deep.AppendSrc
namespace Go.Proofs.YtnlaaejdianfjaaGreat
open Go.RowKit
set_option linter.unusedVariables false

/-- The number at place i (0 beyond the end); a name of its own, so that the walk does not spell it anew. -/
def nth (xs : List Int) (i : Nat) : Int := xs[i]?.getD 0

/-- The slice value '.slice ao n c' reads, in w, as the n numbers xs of kind k. -/
structure Rd (k : IntKind) (w : World) (ao : Option Addr) (n c : Nat) (xs : List Int) : Prop where
  len : xs.length = n
  cap : n ≤ c
  max : c ≤ 9223372036854775807
  non : ao = none → c = 0
  cells : 0 < n → ∃ b o, ao = some ⟨b, o, none⟩ ∧ ∀ i, i < n → w.cell? ⟨b, o + i, none⟩ = some (.int k (nth xs i))

theorem Rd.nil (k : IntKind) (w : World) : Rd k w none 0 0 [] := ⟨rfl, Nat.le_refl _, by omega, fun _ => rfl, fun h => absurd h (Nat.lt_irrefl _)⟩

theorem ret_bool {a b : Bool} (h : a = b) : Ending.returned (.bool a) = .returned (.bool b) := by rw [h]
theorem ret_int {k : IntKind} {a b : Int} (h : a = b) : Ending.returned (.int k a) = .returned (.int k b) := by rw [h]
theorem drop_nth {xs : List Int} {k : Nat} (h : k < xs.length) : xs.drop k = nth xs k :: xs.drop (k + 1) := by
  rw [List.drop_eq_getElem_cons h, nth, List.getElem?_eq_getElem h]; rfl

set_option linter.unusedVariables false

/-- -1, 0, 1: how two numbers stand. -/
def cmpI (x y : Int) : Int := if x < y then -1 else if y < x then 1 else 0

theorem cmpI_lt {x y : Int} (h : x < y) : cmpI x y = -1 := if_pos h

theorem cmpI_gt {x y : Int} (h : y < x) : cmpI x y = 1 := by rw [cmpI, if_neg (by omega), if_pos h]

theorem cmpI_eq (x : Int) : cmpI x x = 0 := by simp [cmpI]

/-- Two lists, number by number; a beginning of another stands ahead of it. -/
def lexI : List Int → List Int → Int
  | [], [] => 0
  | [], _ :: _ => -1
  | _ :: _, [] => 1
  | x :: xs, y :: ys => if x < y then -1 else if y < x then 1 else lexI xs ys

theorem lexI_lt {x y : Int} (xs ys : List Int) (h : x < y) : lexI (x :: xs) (y :: ys) = -1 := by rw [lexI, if_pos h]

theorem lexI_gt {x y : Int} (xs ys : List Int) (h : y < x) : lexI (x :: xs) (y :: ys) = 1 := by rw [lexI, if_neg (by omega), if_pos h]

theorem lexI_eq (x : Int) (xs ys : List Int) : lexI (x :: xs) (x :: ys) = lexI xs ys := by rw [lexI, if_neg (by omega), if_neg (by omega)]

theorem lexI_self (xs : List Int) : lexI xs xs = 0 := by
  induction xs with
  | nil => rfl
  | cons x xs ih => rw [lexI_eq]; exact ih

set_option linter.unusedVariables false

theorem lexI_vals : ∀ (A B : List Int), lexI A B = -1 ∨ lexI A B = 0 ∨ lexI A B = 1 := by
  intro A
  induction A with
  | nil => intro B; cases B <;> simp [lexI]
  | cons x r ih =>
    intro B
    cases B with
    | nil => simp [lexI]
    | cons y q =>
      rw [lexI]
      split
      · simp
      · split
        · simp
        · exact ih q

theorem owns_base {w : World} {base base' e size : Nat} {v : Value} {n : Nat} {xs : List Value} (h : w.ownsRow base e size v n xs) (hb : base' ≤ base) : w.ownsRow base' e size v n xs := by
  refine ⟨h.1, ?_⟩
  rcases h.2 with k | ⟨g, cap, cur, hv, hg, r⟩
  · exact .inl k
  · exact .inr ⟨g, cap, cur, hv, by omega, r⟩

set_option linter.unusedVariables false

set_option linter.unusedVariables false

/-- A text's bytes as numbers. -/
def nums (s : ByteArray) : List Int := s.data.toList.map fun c => (c.toNat : Int)

theorem nums_len (s : ByteArray) : (nums s).length = s.size := by rw [nums, List.length_map, Array.length_toList]; rfl

theorem nums_nth (s : ByteArray) (k : Nat) (h : k < s.size) : nth (nums s) k = (s[k].toNat : Int) := by
  have h' : k < s.data.size := h
  rw [nth, nums, List.getElem?_map, Array.getElem?_toList, Array.getElem?_eq_getElem h']
  rfl

end Go.Proofs.YtnlaaejdianfjaaGreat
namespace Go.Proofs.YtnlaaejdianfjaaGreat
open Go.RowKit
set_option linter.unusedVariables false

/-- Does a whole number fit 64 bits with a sign? -/
abbrev Fits (z : Int) : Prop := -9223372036854775808 ≤ z ∧ z ≤ 9223372036854775807
/-- The number that is told, and the fault that is told beside it. -/
def nV (z : Int) : Int := if Fits z then z else 0
def nE (z : Int) : Int := if Fits z then 0 else 8
def nA (z : Int) : Value := .tuple #[.int .i64 (nV z), .int .i64 (nE z)]

theorem nA_in {z : Int} (h : Fits z) : nA z = .tuple #[.int .i64 z, .int .i64 0] := by simp [nA, nV, nE, h]
theorem nA_out {z : Int} (h : ¬ Fits z) : nA z = .tuple #[.int .i64 0, .int .i64 8] := by simp [nA, nV, nE, h]

set_option maxRecDepth 100000 in
theorem fit_yes (n : Int) (w : World) : Calls Tryz.prog 158 #[.int .i64 n, .bool true] w fun e w' => e = .returned (.tuple #[.int .i64 n, .int .i64 0]) ∧ w' = w := by
  go_enter Tryz.func158, Tryz.ntmps158
  go_wp2
  go_ret2
  exact ⟨rfl, rfl⟩
set_option maxRecDepth 100000 in
theorem fit_no (n : Int) (w : World) : Calls Tryz.prog 158 #[.int .i64 n, .bool false] w fun e w' => e = .returned (.tuple #[.int .i64 0, .int .i64 8]) ∧ w' = w := by
  go_enter Tryz.func158, Tryz.ntmps158
  go_wp2
  go_ret2
  exact ⟨rfl, rfl⟩

theorem add_fits {a b : Int} (h : Fits (a + b)) : (decide (a + b < a) == decide (b < 0)) = true := by
  have : decide (a + b < a) = decide (b < 0) := by rw [Bool.eq_iff_iff]; simp; omega
  simp [this]
theorem wrap_in {z : Int} (h : Fits z) : wrap64 z = z := by obtain ⟨h1, h2⟩ := h; unfold wrap64; omega
theorem add_over {a b : Int} (ha : Fits a) (hb : Fits b) (h : ¬ Fits (a + b)) : (decide (wrap64 (a + b) < a) == decide (b < 0)) = false := by
  unfold Fits wrap64 at *
  by_cases h0 : b < 0
  · have : ¬ ((a + b + 9223372036854775808) % 18446744073709551616 - 9223372036854775808 < a) := by omega
    simp [this, h0]
  · have : ((a + b + 9223372036854775808) % 18446744073709551616 - 9223372036854775808 < a) := by omega
    simp [this, h0]
theorem sub_fits {a b : Int} (h : Fits (a - b)) : (decide (a - b < a) == decide (0 < b)) = true := by
  have : decide (a - b < a) = decide (0 < b) := by rw [Bool.eq_iff_iff]; simp; omega
  simp [this]
theorem sub_over {a b : Int} (ha : Fits a) (hb : Fits b) (h : ¬ Fits (a - b)) : (decide (wrap64 (a - b) < a) == decide (0 < b)) = false := by
  unfold Fits wrap64 at *
  by_cases h0 : 0 < b
  · have : ¬ ((a - b + 9223372036854775808) % 18446744073709551616 - 9223372036854775808 < a) := by omega
    simp [this, h0]
  · have : ((a - b + 9223372036854775808) % 18446744073709551616 - 9223372036854775808 < a) := by omega
    simp [this, h0]

theorem wrap_fits (z : Int) : Fits (wrap64 z) := by unfold Fits wrap64; omega
theorem wrap_off (z : Int) : ∃ m : Int, z = wrap64 z + m * 18446744073709551616 := ⟨(z + 9223372036854775808) / 18446744073709551616, by unfold wrap64; omega⟩
theorem tmod_small {r b : Int} (hb : b ≠ 0) : (r.tmod b).natAbs < b.natAbs := by
  rw [Int.natAbs_tmod]
  exact Nat.mod_lt _ (by omega)
theorem tdiv_fits {r b : Int} (hr : Fits r) (h0 : b ≠ 0) (h1 : b ≠ -1) : Fits (r.tdiv b) := by
  by_cases e : b = 1
  · subst e; rw [Int.tdiv_one]; exact hr
  · have hq : (r.tdiv b).natAbs = r.natAbs / b.natAbs := Int.natAbs_tdiv r b
    have hle : r.natAbs / b.natAbs ≤ r.natAbs / 2 := Nat.div_le_div_left (by omega) (by omega)
    unfold Fits at *
    omega
theorem mul_over {a b : Int} (ha : Fits a) (hb : Fits b) (h0 : b ≠ 0) (h1 : b ≠ -1) (h : ¬ Fits (a * b)) : (wrap64 ((wrap64 (a * b)).tdiv b) == a) = false := by
  rw [wrap_in (tdiv_fits (wrap_fits _) h0 h1)]
  cases e : (wrap64 (a * b)).tdiv b == a with
  | false => rfl
  | true =>
    exfalso
    have e' : (wrap64 (a * b)).tdiv b = a := by simpa using e
    have hd := Int.mul_tdiv_add_tmod (wrap64 (a * b)) b
    rw [e', Int.mul_comm b a] at hd
    have ht := tmod_small (r := wrap64 (a * b)) h0
    obtain ⟨m, hm⟩ := wrap_off (a * b)
    have hm0 : m ≠ 0 := by
      rintro rfl
      apply h
      rw [show a * b = wrap64 (a * b) from by omega]
      exact wrap_fits _
    unfold Fits at hb
    omega

set_option maxRecDepth 100000 in
theorem add_any (a b : Int) (ha : Fits a) (hb : Fits b) (w : World) : Calls Tryz.prog 150 #[.int .i64 a, .int .i64 b] w fun e w' => e = .returned (nA (a + b)) ∧ w' = w := by
  by_cases h : Fits (a + b)
  · rw [nA_in h]
    have hd := add_fits h
    obtain ⟨h1, h2⟩ := h
    clear ha hb
    go_enter Tryz.func150, Tryz.ntmps150
    go_wp2_with fail
    refine Calls.mono (fit_yes _ _) ?_
    rintro e w' ⟨rfl, rfl⟩
    go_wp2
    go_ret2
    exact ⟨rfl, rfl⟩
  · rw [nA_out h]
    have hd := add_over ha hb h
    clear ha hb h
    go_enter Tryz.func150, Tryz.ntmps150
    go_wp2_with fail
    refine Calls.mono (fit_no _ _) ?_
    rintro e w' ⟨rfl, rfl⟩
    go_wp2
    go_ret2
    exact ⟨rfl, rfl⟩

set_option maxRecDepth 100000 in
theorem sub_any (a b : Int) (ha : Fits a) (hb : Fits b) (w : World) : Calls Tryz.prog 162 #[.int .i64 a, .int .i64 b] w fun e w' => e = .returned (nA (a - b)) ∧ w' = w := by
  by_cases h : Fits (a - b)
  · rw [nA_in h]
    have hd := sub_fits h
    obtain ⟨h1, h2⟩ := h
    clear ha hb
    go_enter Tryz.func162, Tryz.ntmps162
    go_wp2_with fail
    refine Calls.mono (fit_yes _ _) ?_
    rintro e w' ⟨rfl, rfl⟩
    go_wp2
    go_ret2
    exact ⟨rfl, rfl⟩
  · rw [nA_out h]
    have hd := sub_over ha hb h
    clear ha hb h
    go_enter Tryz.func162, Tryz.ntmps162
    go_wp2_with fail
    refine Calls.mono (fit_no _ _) ?_
    rintro e w' ⟨rfl, rfl⟩
    go_wp2
    go_ret2
    exact ⟨rfl, rfl⟩

set_option maxRecDepth 100000 in
theorem neg_any (a : Int) (ha : Fits a) (w : World) : Calls Tryz.prog 160 #[.int .i64 a] w fun e w' => e = .returned (nA (-a)) ∧ w' = w := by
  have H := sub_any 0 a (by decide) ha w
  rw [Int.zero_sub] at H
  replace H : Hid _ := H
  clear ha
  go_enter Tryz.func160, Tryz.ntmps160
  go_wp2_with fail
  refine Calls.mono H.out ?_
  rintro e w' ⟨rfl, rfl⟩
  unfold nA
  go_wp2
  go_ret2
  exact ⟨rfl, rfl⟩

set_option maxRecDepth 100000 in
theorem mul_any (a b : Int) (ha : Fits a) (hb : Fits b) (w : World) : Calls Tryz.prog 163 #[.int .i64 a, .int .i64 b] w fun e w' => e = .returned (nA (a * b)) ∧ w' = w := by
  by_cases h0 : b = 0
  · subst h0
    rw [Int.mul_zero, nA_in (by decide)]
    clear ha hb
    go_enter Tryz.func163, Tryz.ntmps163
    go_wp2
    go_ret2
    exact ⟨rfl, rfl⟩
  by_cases h1 : b = -1
  · subst h1
    have H := neg_any a ha w
    rw [show a * -1 = -a from by omega]
    replace H : Hid _ := H
    clear ha hb h0
    go_enter Tryz.func163, Tryz.ntmps163
    go_wp2_with fail
    refine Calls.mono H.out ?_
    rintro e w' ⟨rfl, rfl⟩
    unfold nA
    go_wp2
    go_ret2
    exact ⟨rfl, rfl⟩
  have g0 : (b == 0) = false := by simpa using h0
  have g1 : (b == -1) = false := by simpa using h1
  by_cases h : Fits (a * b)
  · rw [nA_in h]
    obtain ⟨k1, k2⟩ := h
    obtain ⟨k3, k4⟩ := ha
    obtain ⟨k5, k6⟩ := hb
    go_enter Tryz.func163, Tryz.ntmps163
    go_wp2_with fail
    refine Calls.mono (fit_yes _ _) ?_
    rintro e w' ⟨rfl, rfl⟩
    go_wp2
    go_ret2
    exact ⟨rfl, rfl⟩
  · rw [nA_out h]
    have hd := mul_over ha hb h0 h1 h
    clear h ha hb
    go_enter Tryz.func163, Tryz.ntmps163
    go_wp2_with fail
    refine Calls.mono (fit_no _ _) ?_
    rintro e w' ⟨rfl, rfl⟩
    go_wp2
    go_ret2
    exact ⟨rfl, rfl⟩

end Go.Proofs.YtnlaaejdianfjaaGreat
namespace Go.Proofs.YtnlaaejdianfjaaGreat
open Go.RowKit
set_option linter.unusedVariables false

end Go.Proofs.YtnlaaejdianfjaaGreat
namespace Go.Proofs.YtnlaaejdianfjaaGreat
open Go.RowKit
set_option linter.unusedVariables false
/-- The face of num: each calls its inner one. -/
theorem Add_any (a b : Int) (ha : Fits a) (hb : Fits b) (w : World) : Calls Tryz.prog 143 #[.int .i64 a, .int .i64 b] w fun e w' => e = .returned (nA (a + b)) ∧ w' = w := by
  have H : Hid _ := add_any a b ha hb w
  clear ha hb
  go_enter Tryz.func143, Tryz.ntmps143
  go_wp2_with fail
  refine Calls.mono H.out ?_
  rintro e w' ⟨rfl, rfl⟩
  unfold nA
  go_wp2
  go_ret2
  exact ⟨rfl, rfl⟩
theorem Sub_any (a b : Int) (ha : Fits a) (hb : Fits b) (w : World) : Calls Tryz.prog 156 #[.int .i64 a, .int .i64 b] w fun e w' => e = .returned (nA (a - b)) ∧ w' = w := by
  have H : Hid _ := sub_any a b ha hb w
  clear ha hb
  go_enter Tryz.func156, Tryz.ntmps156
  go_wp2_with fail
  refine Calls.mono H.out ?_
  rintro e w' ⟨rfl, rfl⟩
  unfold nA
  go_wp2
  go_ret2
  exact ⟨rfl, rfl⟩
theorem Mul_any (a b : Int) (ha : Fits a) (hb : Fits b) (w : World) : Calls Tryz.prog 157 #[.int .i64 a, .int .i64 b] w fun e w' => e = .returned (nA (a * b)) ∧ w' = w := by
  have H : Hid _ := mul_any a b ha hb w
  clear ha hb
  go_enter Tryz.func157, Tryz.ntmps157
  go_wp2_with fail
  refine Calls.mono H.out ?_
  rintro e w' ⟨rfl, rfl⟩
  unfold nA
  go_wp2
  go_ret2
  exact ⟨rfl, rfl⟩
theorem Neg_any (a : Int) (ha : Fits a) (w : World) : Calls Tryz.prog 154 #[.int .i64 a] w fun e w' => e = .returned (nA (-a)) ∧ w' = w := by
  have H : Hid _ := neg_any a ha w
  clear ha
  go_enter Tryz.func154, Tryz.ntmps154
  go_wp2_with fail
  refine Calls.mono H.out ?_
  rintro e w' ⟨rfl, rfl⟩
  unfold nA
  go_wp2
  go_ret2
  exact ⟨rfl, rfl⟩
set_option maxRecDepth 100000 in
theorem refAdd_any (a b : Int) (ha : Fits a) (hb : Fits b) (w : World) : Calls Tryz.prog 25 #[.int .i64 a, .int .i64 b] w fun e w' => e = .returned (nA (a + b)) ∧ w' = w := by
  obtain ⟨a1, a2⟩ := ha
  obtain ⟨b1, b2⟩ := hb
  rcases Int.lt_trichotomy b 0 with h0 | h0 | h0
  · have g1 : decide (0 < b) = false := by simp; omega
    have g2 : decide (b < 0) = true := by simpa using h0
    by_cases h : Fits (a + b)
    · rw [nA_in h]
      obtain ⟨k1, k2⟩ := h
      have g3 : decide (a < -9223372036854775808 - b) = false := by simp; omega
      go_enter Tryz.func25, Tryz.ntmps25
      go_wp2
      go_ret2
      exact ⟨rfl, rfl⟩
    · rw [nA_out h]
      unfold Fits at h
      have g3 : decide (a < -9223372036854775808 - b) = true := by simp; omega
      clear h
      go_enter Tryz.func25, Tryz.ntmps25
      go_wp2
      go_ret2
      exact ⟨rfl, rfl⟩
  · subst h0
    have h : Fits (a + 0) := by unfold Fits; omega
    rw [nA_in h]
    rw [Int.add_zero] at *
    go_enter Tryz.func25, Tryz.ntmps25
    go_wp2
    go_ret2
    exact ⟨by simp, rfl⟩
  · have g1 : decide (0 < b) = true := by simpa using h0
    have g2 : decide (b < 0) = false := by simp; omega
    by_cases h : Fits (a + b)
    · rw [nA_in h]
      obtain ⟨k1, k2⟩ := h
      have g3 : decide (9223372036854775807 - b < a) = false := by simp; omega
      go_enter Tryz.func25, Tryz.ntmps25
      go_wp2
      go_ret2
      exact ⟨rfl, rfl⟩
    · rw [nA_out h]
      unfold Fits at h
      have g3 : decide (9223372036854775807 - b < a) = true := by simp; omega
      clear h
      go_enter Tryz.func25, Tryz.ntmps25
      go_wp2
      go_ret2
      exact ⟨rfl, rfl⟩
end Go.Proofs.YtnlaaejdianfjaaGreat
namespace Go.Proofs.YtnlaaejdianfjaaGreat
open Go.RowKit
set_option linter.unusedVariables false

/-- The text's bytes. -/
def bs (s : ByteArray) : List UInt8 := s.data.toList
end Go.Proofs.YtnlaaejdianfjaaGreat
namespace Go.Proofs.YtnlaaejdianfjaaGreat
open Go.RowKit
set_option linter.unusedVariables false

/-- A word: Kind, Text, Int, At. -/
abbrev Tk := Int × ByteArray × Int × Int
end Go.Proofs.YtnlaaejdianfjaaGreat
namespace Go.Proofs.YtnlaaejdianfjaaGreat
open Go.RowKit
set_option linter.unusedVariables false
/-- May a text have this byte? -/
def okB (x : Int) : Bool := decide (32 ≤ x) && decide (x ≤ 126)
def mayT (l : List Int) : Bool := decide (l.length ≤ 30) && l.all okB
/-- May this value be? -/
def mayV (k n : Int) (l : List Int) : Bool := if k = 1 then decide (l = []) else decide (k = 2) && (decide (n = 0) && mayT l)
/-- The first that is not 0. -/
def orI (a b : Int) : Int := if a = 0 then b else a
def cmpV (k n : Int) (l : List Int) (k' n' : Int) (l' : List Int) : Int := orI (cmpI k k') (orI (cmpI n n') (lexI l l'))
theorem cmpI_neg (x y : Int) : cmpI y x = -cmpI x y := by unfold cmpI; split <;> split <;> (try split) <;> omega
theorem cmpI_zero {x y : Int} : cmpI x y = 0 ↔ x = y := by unfold cmpI; split <;> (try split) <;> omega
theorem cmpI_m1 {x y : Int} : cmpI x y = -1 ↔ x < y := by unfold cmpI; split <;> (try split) <;> omega
theorem cmpI_vals (x y : Int) : cmpI x y = -1 ∨ cmpI x y = 0 ∨ cmpI x y = 1 := by unfold cmpI; split <;> (try split) <;> omega
theorem lexI_neg : ∀ (A B : List Int), lexI B A = -lexI A B
  | [], [] => rfl
  | [], _ :: _ => rfl
  | _ :: _, [] => rfl
  | x :: xs, y :: ys => by
    rcases (by omega : x < y ∨ x = y ∨ y < x) with h | h | h
    · rw [lexI_gt _ _ h, lexI_lt _ _ h]; rfl
    · subst h; rw [lexI_eq, lexI_eq]; exact lexI_neg xs ys
    · rw [lexI_gt _ _ h, lexI_lt _ _ h]
theorem lexI_zero : ∀ {A B : List Int}, lexI A B = 0 → A = B
  | [], [], _ => rfl
  | [], _ :: _, h => by simp [lexI] at h
  | _ :: _, [], h => by simp [lexI] at h
  | x :: xs, y :: ys, h => by
    rcases (by omega : x < y ∨ x = y ∨ y < x) with k | k | k
    · rw [lexI_lt _ _ k] at h; omega
    · subst k; rw [lexI_eq] at h; rw [lexI_zero h]
    · rw [lexI_gt _ _ k] at h; omega
theorem lexI_trans : ∀ {A B C : List Int}, lexI A B = -1 → lexI B C = -1 → lexI A C = -1
  | [], [], _, h, _ => by simp [lexI] at h
  | [], _ :: _, [], _, h => by simp [lexI] at h
  | [], _ :: _, _ :: _, _, _ => rfl
  | _ :: _, [], _, h, _ => by simp [lexI] at h
  | _ :: _, _ :: _, [], _, h => by simp [lexI] at h
  | x :: xs, y :: ys, z :: zs, h1, h2 => by
    rcases (by omega : x < y ∨ x = y ∨ y < x) with k | k | k
    · rcases (by omega : y < z ∨ y = z ∨ z < y) with j | j | j
      · exact lexI_lt _ _ (by omega)
      · exact lexI_lt _ _ (by omega)
      · rw [lexI_gt _ _ j] at h2; omega
    · subst k
      rcases (by omega : x < z ∨ x = z ∨ z < x) with j | j | j
      · exact lexI_lt _ _ j
      · subst j; rw [lexI_eq] at *; exact lexI_trans h1 h2
      · rw [lexI_gt _ _ j] at h2; omega
    · rw [lexI_gt _ _ k] at h1; omega
theorem cmpV_neg (k n : Int) (l : List Int) (k' n' : Int) (l' : List Int) : cmpV k' n' l' k n l = -cmpV k n l k' n' l' := by
  unfold cmpV orI
  rw [cmpI_neg k k', cmpI_neg n n', lexI_neg l l']
  split <;> split <;> (try split) <;> (try split) <;> omega
theorem cmpV_zero {k n : Int} {l : List Int} {k' n' : Int} {l' : List Int} : cmpV k n l k' n' l' = 0 ↔ k = k' ∧ n = n' ∧ l = l' := by
  unfold cmpV orI
  constructor
  · intro h
    split at h
    · rename_i h1
      split at h
      · rename_i h2
        exact ⟨cmpI_zero.1 h1, cmpI_zero.1 h2, lexI_zero h⟩
      · rename_i h2; exact absurd h h2
    · rename_i h1; exact absurd h h1
  · rintro ⟨rfl, rfl, rfl⟩
    rw [cmpI_eq, cmpI_eq, lexI_self]; rfl
theorem cmpV_m1 {k n : Int} {l : List Int} {k' n' : Int} {l' : List Int} : cmpV k n l k' n' l' = -1 ↔ k < k' ∨ (k = k' ∧ (n < n' ∨ (n = n' ∧ lexI l l' = -1))) := by
  unfold cmpV orI
  have h1 := @cmpI_m1 k k'
  have h2 := @cmpI_zero k k'
  have h3 := @cmpI_m1 n n'
  have h4 := @cmpI_zero n n'
  split
  · split
    · omega
    · omega
  · omega
theorem cmpV_trans {k n : Int} {l : List Int} {k' n' : Int} {l' : List Int} {k'' n'' : Int} {l'' : List Int} (h1 : cmpV k n l k' n' l' = -1) (h2 : cmpV k' n' l' k'' n'' l'' = -1) : cmpV k n l k'' n'' l'' = -1 := by
  rw [cmpV_m1] at *
  have ht : lexI l l' = -1 → lexI l' l'' = -1 → lexI l l'' = -1 := lexI_trans
  omega
theorem cmpV_vals (k n : Int) (l : List Int) (k' n' : Int) (l' : List Int) : cmpV k n l k' n' l' = -1 ∨ cmpV k n l k' n' l' = 0 ∨ cmpV k n l k' n' l' = 1 := by
  unfold cmpV orI
  have := cmpI_vals k k'
  have := cmpI_vals n n'
  have := lexI_vals l l'
  split <;> (try split) <;> omega
theorem okB_iff {x : Int} : okB x = true ↔ 32 ≤ x ∧ x ≤ 126 := by simp [okB]
theorem mayT_iff {l : List Int} : mayT l = true ↔ l.length ≤ 30 ∧ ∀ x ∈ l, 32 ≤ x ∧ x ≤ 126 := by simp [mayT, okB_iff, List.all_eq_true]
theorem mayV_one {k n : Int} {l : List Int} (h : mayV k n l = true) : (k = 1 ∧ l = []) ∨ (k = 2 ∧ n = 0 ∧ l.length ≤ 30 ∧ ∀ x ∈ l, 32 ≤ x ∧ x ≤ 126) := by
  unfold mayV at h
  split at h
  · exact .inl ⟨by assumption, by simpa using h⟩
  · rw [Bool.and_eq_true, Bool.and_eq_true, decide_eq_true_iff, decide_eq_true_iff, mayT_iff] at h
    exact .inr ⟨h.1, h.2.1, h.2.2⟩
set_option maxHeartbeats 1000000 in
theorem text_any (s t : ByteArray) (w : World) (hs : s.size ≤ 9223372036854775807) (ht : t.size ≤ 9223372036854775807) :
    Calls Tryz.prog 45 #[.string s, .string t] w fun e w' => e = .returned (.int .i64 (lexI (nums s) (nums t))) ∧ Below w.heap.size w w' := by
  have hls := nums_len s
  have hlt' := nums_len t
  go_enter Tryz.func45, Tryz.ntmps45
  go_wp2
  go_loopw [5] (fun i wr => ∃ k : Nat, k ≤ s.size ∧ k ≤ t.size ∧ i = .int .i64 k ∧ Below w.heap.size w wr ∧ Hid (lexI (nums s) (nums t) = lexI ((nums s).drop k) ((nums t).drop k))) (fun i _ => s.size - (intOf i).toNat)
  case atStart => exact ⟨0, by omega, by omega, rfl, Below.refl _ _, rfl⟩
  case round =>
    obtain ⟨k, hk, hk2, rfl, hB, HE⟩ := hrel
    by_cases h1 : k < s.size
    · by_cases h2 : k < t.size
      · have HX : Hid (lexI (nums s) (nums t) = lexI (((s[k].toNat : Int)) :: (nums s).drop (k + 1)) ((t[k].toNat : Int) :: (nums t).drop (k + 1))) := by
          rw [← nums_nth s k h1, ← nums_nth t k h2, ← drop_nth (by omega), ← drop_nth (by omega)]; exact HE
        clear HE hls hlt'
        rcases (by omega : (s[k].toNat : Int) < (t[k].toNat : Int) ∨ (s[k].toNat : Int) = (t[k].toNat : Int) ∨ (t[k].toNat : Int) < (s[k].toNat : Int)) with h | h | h
        · go_wp2
          go_quiet (fail)
          go_wp2
          go_ret
          exact ⟨ret_int (by rw [HX.out, lexI_lt _ _ h]), below_drewN hB _⟩
        · have HX2 : Hid (lexI (nums s) (nums t) = lexI ((nums s).drop (k + 1)) ((nums t).drop (k + 1))) := by
            have e := HX.out
            rw [h, lexI_eq] at e
            exact e
          have n1 : ¬ (s[k].toNat : Int) < (t[k].toNat : Int) := by omega
          have n2 : ¬ (t[k].toNat : Int) < (s[k].toNat : Int) := by omega
          clear HX h
          go_wp2
          go_quiet (fail)
          go_wp2
          go_quiet (fail)
          go_wp2
          go_roundw
          case rel => exact ⟨k + 1, by omega, by omega, by go_num, by first | exact below_drewN hB _ | exact below_drewN (below_drewN hB _) _, HX2⟩
          case measure => simp only [intOf]; omega
        · go_wp2
          go_quiet (fail)
          go_wp2
          go_quiet (fail)
          go_wp2
          go_ret
          exact ⟨ret_int (by rw [HX.out, lexI_gt _ _ h]), by first | exact below_drewN hB _ | exact below_drewN (below_drewN hB _) _⟩
      · go_wp2
        go_ret
        exact ⟨ret_int (by rw [HE.out, drop_nth (by omega : k < (nums s).length), List.drop_eq_nil_of_le (by omega : (nums t).length ≤ k)]; rfl), hB⟩
    · by_cases h2 : k < t.size
      · go_wp2
        go_ret
        exact ⟨ret_int (by rw [HE.out, drop_nth (by omega : k < (nums t).length), List.drop_eq_nil_of_le (by omega : (nums s).length ≤ k)]; rfl), hB⟩
      · go_wp2
        go_ret
        exact ⟨ret_int (by rw [HE.out, List.drop_eq_nil_of_le (by omega : (nums t).length ≤ k), List.drop_eq_nil_of_le (by omega : (nums s).length ≤ k)]; rfl), hB⟩
set_option maxRecDepth 100000 in
theorem orderInt_any (a b : Int) (w : World) : Calls Tryz.prog 110 #[.int .i64 a, .int .i64 b] w fun e w' => e = .returned (.int .i64 (cmpI a b)) ∧ w' = w := by
  rcases (by omega : a < b ∨ a = b ∨ b < a) with h | h | h
  · rw [cmpI_lt h]
    have h1 : decide (a < b) = true := by simpa using h
    go_enter Tryz.func110, Tryz.ntmps110
    go_wp2
    go_ret
    exact ⟨rfl, rfl⟩
  · subst h
    rw [cmpI_eq]
    go_enter Tryz.func110, Tryz.ntmps110
    go_wp2
    go_ret
    exact ⟨rfl, rfl⟩
  · rw [cmpI_gt h]
    have h1 : decide (a < b) = false := by simp; omega
    have h2 : decide (b < a) = true := by simpa using h
    go_enter Tryz.func110, Tryz.ntmps110
    go_wp2
    go_ret
    exact ⟨rfl, rfl⟩
set_option maxRecDepth 100000 in
theorem orderInt64_any (a b : Int) (w : World) : Calls Tryz.prog 111 #[.int .i64 a, .int .i64 b] w fun e w' => e = .returned (.int .i64 (cmpI a b)) ∧ w' = w := by
  rcases (by omega : a < b ∨ a = b ∨ b < a) with h | h | h
  · rw [cmpI_lt h]
    have h1 : decide (a < b) = true := by simpa using h
    go_enter Tryz.func111, Tryz.ntmps111
    go_wp2
    go_ret
    exact ⟨rfl, rfl⟩
  · subst h
    rw [cmpI_eq]
    go_enter Tryz.func111, Tryz.ntmps111
    go_wp2
    go_ret
    exact ⟨rfl, rfl⟩
  · rw [cmpI_gt h]
    have h1 : decide (a < b) = false := by simp; omega
    have h2 : decide (b < a) = true := by simpa using h
    go_enter Tryz.func111, Tryz.ntmps111
    go_wp2
    go_ret
    exact ⟨rfl, rfl⟩
theorem less_lex : ∀ (a b : List UInt8), Op.bytesLess a b = decide (lexI (a.map fun c => (c.toNat : Int)) (b.map fun c => (c.toNat : Int)) = -1)
  | [], [] => rfl
  | _ :: _, [] => rfl
  | [], _ :: _ => rfl
  | x :: xs, y :: ys => by
    rw [Op.bytesLess, List.map_cons, List.map_cons, less_lex xs ys]
    rcases Nat.lt_trichotomy x.toNat y.toNat with h | h | h
    · rw [lexI_lt _ _ (by omega), decide_eq_true (show x < y from UInt8.lt_iff_toNat_lt.2 h)]; rfl
    · have e : x = y := UInt8.toNat_inj.1 h
      subst e
      rw [lexI_eq]
      simp
    · have n1 : ¬ x < y := fun k => by have := UInt8.lt_iff_toNat_lt.1 k; omega
      have n2 : (x == y) = false := by
        simp
        intro k
        rw [k] at h
        omega
      rw [lexI_gt _ _ (by omega), decide_eq_false n1, n2]
      rfl
theorem less_nums (s t : ByteArray) : Op.bytesLess s.toList t.toList = decide (lexI (nums s) (nums t) = -1) := by
  rw [less_lex, ByteArray.toList_eq, ByteArray.toList_eq]; rfl
theorem map_inj8 : ∀ {a b : List UInt8}, (a.map fun c => (c.toNat : Int)) = (b.map fun c => (c.toNat : Int)) → a = b
  | [], [], _ => rfl
  | [], _ :: _, h => by simp at h
  | _ :: _, [], h => by simp at h
  | x :: xs, y :: ys, h => by
    rw [List.map_cons, List.map_cons, List.cons.injEq] at h
    rw [map_inj8 h.2, UInt8.toNat_inj.1 (by omega : x.toNat = y.toNat)]
theorem nums_inj {s t : ByteArray} (h : nums s = nums t) : s = t := ByteArray.ext (Array.toList_inj.1 (map_inj8 h))
theorem same_nums (s t : ByteArray) : (s.toList == t.toList) = decide (lexI (nums s) (nums t) = 0) := by
  rw [Bool.eq_iff_iff]
  simp only [beq_iff_eq, decide_eq_true_eq]
  constructor
  · intro h
    rw [ByteArray.toList_eq, ByteArray.toList_eq] at h
    rw [nums, nums, h, lexI_self]
  · intro h
    rw [nums_inj (lexI_zero h)]
set_option maxRecDepth 100000 in
theorem orderText_any (s t : ByteArray) (w : World) : Calls Tryz.prog 112 #[.string s, .string t] w fun e w' => e = .returned (.int .i64 (lexI (nums s) (nums t))) ∧ w' = w := by
  have h1 := less_nums s t
  have h2 := same_nums s t
  rcases lexI_vals (nums s) (nums t) with h | h | h
  · rw [h] at h1 h2 ⊢
    replace h1 : Op.bytesLess s.toList t.toList = true := h1
    clear h h2
    go_enter Tryz.func112, Tryz.ntmps112
    go_wp2
    go_ret
    exact ⟨rfl, rfl⟩
  · rw [h] at h1 h2 ⊢
    replace h1 : Op.bytesLess s.toList t.toList = false := h1
    replace h2 : (s.toList == t.toList) = true := h2
    clear h
    go_enter Tryz.func112, Tryz.ntmps112
    go_wp2
    go_ret
    exact ⟨rfl, rfl⟩
  · rw [h] at h1 h2 ⊢
    replace h1 : Op.bytesLess s.toList t.toList = false := h1
    replace h2 : (s.toList == t.toList) = false := h2
    clear h
    go_enter Tryz.func112, Tryz.ntmps112
    go_wp2
    go_ret
    exact ⟨rfl, rfl⟩
set_option maxRecDepth 100000 in
theorem orThree_any (a b c : Int) (g : Nat) (w : World) (h0 : w.cell? ⟨g, 0, none⟩ = some (.int .i64 a)) (h1 : w.cell? ⟨g, 1, none⟩ = some (.int .i64 b)) (h2 : w.cell? ⟨g, 2, none⟩ = some (.int .i64 c)) :
    Calls Tryz.prog 109 #[.slice (some ⟨g, 0, none⟩) 3 3] w fun e w' => e = .returned (.int .i64 (orI a (orI b c))) ∧ w' = w := by
  by_cases ha : a = 0
  · subst ha
    by_cases hb : b = 0
    · subst hb
      rw [show orI 0 (orI 0 c) = c from rfl]
      by_cases hc : c = 0
      · subst hc
        go_enter Tryz.func109, Tryz.ntmps109
        go_wp2
        refine wp_loop_rounds 4 ?_
        rw [rounds_succ]
        go_wp2
        rw [rounds_succ]
        go_wp2
        rw [rounds_succ]
        go_wp2
        rw [rounds_succ]
        go_wp2
        go_ret
        exact ⟨rfl, rfl⟩
      · have g1 : (c != 0) = true := by simpa using hc
        go_enter Tryz.func109, Tryz.ntmps109
        go_wp2
        refine wp_loop_rounds 3 ?_
        rw [rounds_succ]
        go_wp2
        rw [rounds_succ]
        go_wp2
        rw [rounds_succ]
        go_wp2
        go_ret
        exact ⟨rfl, rfl⟩
    · rw [show orI 0 (orI b c) = b from by simp [orI, hb]]
      have g1 : (b != 0) = true := by simpa using hb
      go_enter Tryz.func109, Tryz.ntmps109
      go_wp2
      refine wp_loop_rounds 2 ?_
      rw [rounds_succ]
      go_wp2
      rw [rounds_succ]
      go_wp2
      go_ret
      exact ⟨rfl, rfl⟩
  · rw [show orI a (orI b c) = a from by simp [orI, ha]]
    have g1 : (a != 0) = true := by simpa using ha
    go_enter Tryz.func109, Tryz.ntmps109
    go_wp2
    refine wp_loop_rounds 1 ?_
    rw [rounds_succ]
    go_wp2
    go_ret
    exact ⟨rfl, rfl⟩
set_option maxRecDepth 100000 in
set_option maxHeartbeats 1000000 in
theorem compare_any (k n : Int) (s : ByteArray) (k' n' : Int) (s' : ByteArray) (w : World) :
    Calls Tryz.prog 78 #[.agg #[.int .i64 k, .int .i64 n, .string s], .agg #[.int .i64 k', .int .i64 n', .string s']] w fun e w' => e = .returned (.int .i64 (cmpV k n (nums s) k' n' (nums s'))) ∧ Below w.heap.size w w' := by
  have HI : Hid (∀ w, _) := fun w => orderInt_any k k' w
  have HJ : Hid (∀ w, _) := fun w => orderInt64_any n n' w
  have HT : Hid (∀ w, _) := fun w => orderText_any s s' w
  have HO : Hid (∀ g w h0 h1 h2, _) := fun g w h0 h1 h2 => orThree_any (cmpI k k') (cmpI n n') (lexI (nums s) (nums s')) g w h0 h1 h2
  have HE : Hid (cmpV k n (nums s) k' n' (nums s') = orI (cmpI k k') (orI (cmpI n n') (lexI (nums s) (nums s')))) := rfl
  have hb : Below w.heap.size w ((w.alloc (.cells #[.int .i64 k, .int .i64 n, .string s] 44)).alloc (.cells #[.int .i64 k', .int .i64 n', .string s'] 44)) := ((Below.refl _ _).alloc (Nat.le_refl _) _).alloc (by simp) _
  generalize cmpV k n (nums s) k' n' (nums s') = R at *
  generalize cmpI k k' = A at *
  generalize cmpI n n' = B at *
  generalize lexI (nums s) (nums s') = C at *
  go_enter Tryz.func78, Tryz.ntmps78
  go_wp2_with fail
  have c0 : ((w.alloc (.cells #[.int .i64 k, .int .i64 n, .string s] 44)).alloc (.cells #[.int .i64 k', .int .i64 n', .string s'] 44)).cell? ⟨w.heap.size, 0, none⟩ = some (.int .i64 k) := by simp [go_sem]
  have c1 : ((w.alloc (.cells #[.int .i64 k, .int .i64 n, .string s] 44)).alloc (.cells #[.int .i64 k', .int .i64 n', .string s'] 44)).cell? ⟨w.heap.size, 1, none⟩ = some (.int .i64 n) := by simp [go_sem]
  have c2 : ((w.alloc (.cells #[.int .i64 k, .int .i64 n, .string s] 44)).alloc (.cells #[.int .i64 k', .int .i64 n', .string s'] 44)).cell? ⟨w.heap.size, 2, none⟩ = some (.string s) := by simp [go_sem]
  have d0 : ((w.alloc (.cells #[.int .i64 k, .int .i64 n, .string s] 44)).alloc (.cells #[.int .i64 k', .int .i64 n', .string s'] 44)).cell? ⟨w.heap.size + 1, 0, none⟩ = some (.int .i64 k') := by simp [go_sem]
  have d1 : ((w.alloc (.cells #[.int .i64 k, .int .i64 n, .string s] 44)).alloc (.cells #[.int .i64 k', .int .i64 n', .string s'] 44)).cell? ⟨w.heap.size + 1, 1, none⟩ = some (.int .i64 n') := by simp [go_sem]
  have d2 : ((w.alloc (.cells #[.int .i64 k, .int .i64 n, .string s] 44)).alloc (.cells #[.int .i64 k', .int .i64 n', .string s'] 44)).cell? ⟨w.heap.size + 1, 2, none⟩ = some (.string s') := by simp [go_sem]
  have hz : w.heap.size ≤ ((w.alloc (.cells #[.int .i64 k, .int .i64 n, .string s] 44)).alloc (.cells #[.int .i64 k', .int .i64 n', .string s'] 44)).heap.size := hb.size
  generalize (w.alloc (.cells #[.int .i64 k, .int .i64 n, .string s] 44)).alloc (.cells #[.int .i64 k', .int .i64 n', .string s'] 44) = W at *
  go_region_held3 (fun w' => w'.cell? ⟨w.heap.size, 0, none⟩ = some (.int .i64 k) ∧ w'.cell? ⟨w.heap.size, 1, none⟩ = some (.int .i64 n) ∧ w'.cell? ⟨w.heap.size, 2, none⟩ = some (.string s) ∧ w'.cell? ⟨w.heap.size + 1, 0, none⟩ = some (.int .i64 k') ∧ w'.cell? ⟨w.heap.size + 1, 1, none⟩ = some (.int .i64 n') ∧ w'.cell? ⟨w.heap.size + 1, 2, none⟩ = some (.string s')) (go_keep)
    (first
    | (go_at_call 110; refine Calls.mono (HI.out _) ?_; rintro e y1 ⟨rfl, rfl⟩)
    | (go_at_call 111; refine Calls.mono (HJ.out _) ?_; rintro e y2 ⟨rfl, rfl⟩)
    | (go_at_call 112; refine Calls.mono (HT.out _) ?_; rintro e y3 ⟨rfl, rfl⟩)
    | (go_at_call 109; refine Calls.mono (HO.out _ _ (by simp [go_sem]) (by simp [go_sem]) (by simp [go_sem])) ?_; rintro e y4 ⟨rfl, rfl⟩))
  all_goals
    go_wp2
    go_ret
    exact ⟨by rw [HE.out]; rfl, by first | exact (hb.drew.alloc hz _) | exact (hb.alloc hz _).drew⟩
/-- The document's own road. -/
def refC (k n : Int) (l : List Int) (k' n' : Int) (l' : List Int) : Int := if k < k' then -1 else if k' < k then 1 else if k = 1 then cmpI n n' else lexI l l'
theorem refC_eq {k n : Int} {l : List Int} {k' n' : Int} {l' : List Int} (h : mayV k n l = true) (h' : mayV k' n' l' = true) : refC k n l k' n' l' = cmpV k n l k' n' l' := by
  rcases mayV_one h with ⟨rfl, rfl⟩ | ⟨rfl, rfl, _, ht⟩ <;> rcases mayV_one h' with ⟨rfl, rfl⟩ | ⟨rfl, rfl, _, ht'⟩
  · rw [refC, if_neg (by omega), if_neg (by omega), if_pos rfl, cmpV, cmpI_eq, lexI_self, orI, if_pos rfl, orI]
    split <;> omega
  · rfl
  · rfl
  · rw [refC, if_neg (by omega), if_neg (by omega), if_neg (by omega), cmpV, cmpI_eq, cmpI_eq, orI, if_pos rfl, orI, if_pos rfl]
set_option maxRecDepth 100000 in
set_option maxHeartbeats 1000000 in
theorem refCompare_any (k n : Int) (s : ByteArray) (k' n' : Int) (s' : ByteArray) (hs : s.size ≤ 9223372036854775807) (hs' : s'.size ≤ 9223372036854775807) (w : World) :
    Calls Tryz.prog 19 #[.agg #[.int .i64 k, .int .i64 n, .string s], .agg #[.int .i64 k', .int .i64 n', .string s']] w fun e w' => e = .returned (.int .i64 (refC k n (nums s) k' n' (nums s'))) ∧ Below w.heap.size w w' := by
  have HT : Hid (∀ w, _) := fun w => text_any s s' w hs hs'
  have hb : Below w.heap.size w ((w.alloc (.cells #[.int .i64 k, .int .i64 n, .string s] 44)).alloc (.cells #[.int .i64 k', .int .i64 n', .string s'] 44)) := ((Below.refl _ _).alloc (Nat.le_refl _) _).alloc (by simp) _
  clear hs hs'
  rcases (by omega : k < k' ∨ k = k' ∨ k' < k) with h | h | h
  · rw [show refC k n (nums s) k' n' (nums s') = -1 from by rw [refC, if_pos h]]
    have h1 : decide (k < k') = true := by simpa using h
    go_enter Tryz.func19, Tryz.ntmps19
    go_wp2
    go_ret
    exact ⟨rfl, hb⟩
  · subst h
    by_cases h1 : k = 1
    · subst h1
      rw [show refC 1 n (nums s) 1 n' (nums s') = cmpI n n' from by rw [refC, if_neg (by omega), if_neg (by omega), if_pos rfl]]
      rcases (by omega : n < n' ∨ n = n' ∨ n' < n) with h | h | h
      · rw [cmpI_lt h]
        have h1 : decide (n < n') = true := by simpa using h
        go_enter Tryz.func19, Tryz.ntmps19
        go_wp2
        go_ret
        exact ⟨rfl, hb⟩
      · subst h
        rw [cmpI_eq]
        go_enter Tryz.func19, Tryz.ntmps19
        go_wp2
        go_ret
        exact ⟨rfl, hb⟩
      · rw [cmpI_gt h]
        have h1 : decide (n < n') = false := by simp; omega
        have h2 : decide (n' < n) = true := by simpa using h
        go_enter Tryz.func19, Tryz.ntmps19
        go_wp2
        go_ret
        exact ⟨rfl, hb⟩
    · rw [show refC k n (nums s) k n' (nums s') = lexI (nums s) (nums s') from by rw [refC, if_neg (by omega), if_neg (by omega), if_neg h1]]
      have g1 : (k == 1) = false := by simpa using h1
      go_enter Tryz.func19, Tryz.ntmps19
      go_wp2_with fail
      refine Calls.mono (HT.out _) ?_
      rintro e w1 ⟨rfl, hb1⟩
      clear HT
      have hb2 := hb.trans (hb1.mono hb.size)
      go_wp2
      go_ret
      exact ⟨rfl, hb2⟩
  · rw [show refC k n (nums s) k' n' (nums s') = 1 from by rw [refC, if_neg (by omega), if_pos h]]
    have h1 : decide (k < k') = false := by simp; omega
    have h2 : decide (k' < k) = true := by simpa using h
    go_enter Tryz.func19, Tryz.ntmps19
    go_wp2
    go_ret
    exact ⟨rfl, hb⟩

end Go.Proofs.YtnlaaejdianfjaaGreat
namespace Go.Proofs.YtnlaaejdianfjaaGreat
open Go.RowKit
set_option linter.unusedVariables false

end Go.Proofs.YtnlaaejdianfjaaGreat
