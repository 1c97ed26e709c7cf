/- Plain facts: which values may be, how they stand, which bytes they have, what bytes are read as. -/
import Derived.Test.YtdeplfhkeneabaaV1
namespace Go.Proofs.Ytdeplfhkeneabaa
open Go.RowKit
set_option linter.unusedVariables false

abbrev Fits (z : Int) : Prop := -9223372036854775808 ≤ z ∧ z ≤ 9223372036854775807
def U8 (l : List Int) : Prop := ∀ x ∈ l, 0 ≤ x ∧ x ≤ 255

/-- May a text have this byte? -/
def okB (x : Int) : Bool := decide (32 ≤ x) && decide (x ≤ 126)
def mayT (l : List Int) : Bool := decide (l.length ≤ 30) && l.all okB
/-- May this value be? -/
def mayV (k n : Int) (l : List Int) : Bool := if k = 1 then decide (l = []) else decide (k = 2) && (decide (n = 0) && mayT l)

/-- The first that is not 0. -/
def orI (a b : Int) : Int := if a = 0 then b else a
def cmpV (k n : Int) (l : List Int) (k' n' : Int) (l' : List Int) : Int := orI (cmpI k k') (orI (cmpI n n') (lexI l l'))

/-- A number's last m bytes, the highest first. -/
def be : Nat → Nat → List Int
  | 0, _ => []
  | m + 1, u => ((u / 256 ^ m % 256 : Nat) : Int) :: be m u
/-- The number that bytes say. -/
def num (l : List Int) : Int := l.foldl (fun a x => a * 256 + x) 0
/-- A number with its highest bit turned. -/
def turn (n : Int) : Nat := (n + 9223372036854775808).toNat
def keyL (k n : Int) (l : List Int) : List Int := if k = 1 then 1 :: be 8 (turn n) else 2 :: (l ++ [0])

/-- Why bytes behind a 2 are no text: 0 (they are one), 2, 3; i: how many were looked at. -/
def scanE : Nat → List Int → Int
  | _, [] => 2
  | i, c :: r => if c = 0 then 0 else if i = 30 ∨ okB c = false then 3 else scanE (i + 1) r
/-- Where the look ends. -/
def scanN : Nat → List Int → Nat
  | i, [] => i
  | i, c :: r => if c = 0 then i else if i = 30 ∨ okB c = false then i else scanN (i + 1) r

def tkE : List Int → Int
  | [] => 2
  | c :: r => if c = 1 then (if r.length < 8 then 2 else 0) else if c = 2 then scanE 0 r else 3
def tkK (b : List Int) : Int := if tkE b = 0 then nth b 0 else 0
def tkI (b : List Int) : Int := if tkE b = 0 ∧ nth b 0 = 1 then num (b.tail.take 8) - 9223372036854775808 else 0
def tkT (b : List Int) : List Int := if tkE b = 0 ∧ nth b 0 ≠ 1 then b.tail.take (scanN 0 b.tail) else []
def tkN (b : List Int) : Int := if tkE b = 0 then (if nth b 0 = 1 then 9 else scanN 0 b.tail + 2) else 0

/-! Orders. -/

theorem cmpI_neg (x y : Int) : cmpI y x = -cmpI x y := by unfold cmpI; split <;> split <;> (try split) <;> omega
theorem cmpI_zero {x y : Int} : cmpI x y = 0 ↔ x = y := by unfold cmpI; split <;> (try split) <;> omega
theorem cmpI_m1 {x y : Int} : cmpI x y = -1 ↔ x < y := by unfold cmpI; split <;> (try split) <;> omega
theorem cmpI_vals (x y : Int) : cmpI x y = -1 ∨ cmpI x y = 0 ∨ cmpI x y = 1 := by unfold cmpI; split <;> (try split) <;> omega

theorem lexI_neg : ∀ (A B : List Int), lexI B A = -lexI A B
  | [], [] => rfl
  | [], _ :: _ => rfl
  | _ :: _, [] => rfl
  | x :: xs, y :: ys => by
    rcases (by omega : x < y ∨ x = y ∨ y < x) with h | h | h
    · rw [lexI_gt _ _ h, lexI_lt _ _ h]; rfl
    · subst h; rw [lexI_eq, lexI_eq]; exact lexI_neg xs ys
    · rw [lexI_gt _ _ h, lexI_lt _ _ h]
theorem lexI_zero : ∀ {A B : List Int}, lexI A B = 0 → A = B
  | [], [], _ => rfl
  | [], _ :: _, h => by simp [lexI] at h
  | _ :: _, [], h => by simp [lexI] at h
  | x :: xs, y :: ys, h => by
    rcases (by omega : x < y ∨ x = y ∨ y < x) with k | k | k
    · rw [lexI_lt _ _ k] at h; omega
    · subst k; rw [lexI_eq] at h; rw [lexI_zero h]
    · rw [lexI_gt _ _ k] at h; omega
theorem lexI_trans : ∀ {A B C : List Int}, lexI A B = -1 → lexI B C = -1 → lexI A C = -1
  | [], [], _, h, _ => by simp [lexI] at h
  | [], _ :: _, [], _, h => by simp [lexI] at h
  | [], _ :: _, _ :: _, _, _ => rfl
  | _ :: _, [], _, h, _ => by simp [lexI] at h
  | _ :: _, _ :: _, [], _, h => by simp [lexI] at h
  | x :: xs, y :: ys, z :: zs, h1, h2 => by
    rcases (by omega : x < y ∨ x = y ∨ y < x) with k | k | k
    · rcases (by omega : y < z ∨ y = z ∨ z < y) with j | j | j
      · exact lexI_lt _ _ (by omega)
      · exact lexI_lt _ _ (by omega)
      · rw [lexI_gt _ _ j] at h2; omega
    · subst k
      rcases (by omega : x < z ∨ x = z ∨ z < x) with j | j | j
      · exact lexI_lt _ _ j
      · subst j; rw [lexI_eq] at *; exact lexI_trans h1 h2
      · rw [lexI_gt _ _ j] at h2; omega
    · rw [lexI_gt _ _ k] at h1; omega

theorem cmpV_neg (k n : Int) (l : List Int) (k' n' : Int) (l' : List Int) : cmpV k' n' l' k n l = -cmpV k n l k' n' l' := by
  unfold cmpV orI
  rw [cmpI_neg k k', cmpI_neg n n', lexI_neg l l']
  split <;> split <;> (try split) <;> (try split) <;> omega
theorem cmpV_zero {k n : Int} {l : List Int} {k' n' : Int} {l' : List Int} : cmpV k n l k' n' l' = 0 ↔ k = k' ∧ n = n' ∧ l = l' := by
  unfold cmpV orI
  constructor
  · intro h
    split at h
    · rename_i h1
      split at h
      · rename_i h2
        exact ⟨cmpI_zero.1 h1, cmpI_zero.1 h2, lexI_zero h⟩
      · rename_i h2; exact absurd h h2
    · rename_i h1; exact absurd h h1
  · rintro ⟨rfl, rfl, rfl⟩
    rw [cmpI_eq, cmpI_eq, lexI_self]; rfl
theorem cmpV_m1 {k n : Int} {l : List Int} {k' n' : Int} {l' : List Int} : cmpV k n l k' n' l' = -1 ↔ k < k' ∨ (k = k' ∧ (n < n' ∨ (n = n' ∧ lexI l l' = -1))) := by
  unfold cmpV orI
  have h1 := @cmpI_m1 k k'
  have h2 := @cmpI_zero k k'
  have h3 := @cmpI_m1 n n'
  have h4 := @cmpI_zero n n'
  split
  · split
    · omega
    · omega
  · omega
theorem cmpV_trans {k n : Int} {l : List Int} {k' n' : Int} {l' : List Int} {k'' n'' : Int} {l'' : List Int} (h1 : cmpV k n l k' n' l' = -1) (h2 : cmpV k' n' l' k'' n'' l'' = -1) : cmpV k n l k'' n'' l'' = -1 := by
  rw [cmpV_m1] at *
  have ht : lexI l l' = -1 → lexI l' l'' = -1 → lexI l l'' = -1 := lexI_trans
  omega
theorem cmpV_vals (k n : Int) (l : List Int) (k' n' : Int) (l' : List Int) : cmpV k n l k' n' l' = -1 ∨ cmpV k n l k' n' l' = 0 ∨ cmpV k n l k' n' l' = 1 := by
  unfold cmpV orI
  have := cmpI_vals k k'
  have := cmpI_vals n n'
  have := lexI_vals l l'
  split <;> (try split) <;> omega

/-! Numbers as bytes. -/

theorem be_len (m u : Nat) : (be m u).length = m := by
  induction m with
  | zero => rfl
  | succ m ih => rw [be, List.length_cons, ih]
theorem be_u8 (m u : Nat) : U8 (be m u) := by
  induction m with
  | zero => intro x hx; simp [be] at hx
  | succ m ih =>
    intro x hx
    rw [be, List.mem_cons] at hx
    rcases hx with rfl | hx
    · omega
    · exact ih x hx
theorem be_lex (m u v : Nat) : lexI (be m u) (be m v) = cmpI ((u % 256 ^ m : Nat) : Int) ((v % 256 ^ m : Nat) : Int) := by
  induction m with
  | zero => simp [be, lexI, Nat.mod_one, cmpI]
  | succ m ih =>
    have hu := Nat.mod_pow_succ (x := u) (b := 256) (k := m)
    have hv := Nat.mod_pow_succ (x := v) (b := 256) (k := m)
    have hp : 0 < 256 ^ m := Nat.pow_pos (by omega)
    have hu' := Nat.mod_lt u hp
    have hv' := Nat.mod_lt v hp
    rw [be, be]
    generalize u / 256 ^ m % 256 = a at *
    generalize v / 256 ^ m % 256 = b at *
    generalize u % 256 ^ m = c at *
    generalize v % 256 ^ m = d at *
    generalize u % 256 ^ (m + 1) = e at *
    generalize v % 256 ^ (m + 1) = f at *
    generalize 256 ^ m = P at *
    rcases (by omega : a < b ∨ a = b ∨ b < a) with h | h | h
    · have : P * (a + 1) ≤ P * b := Nat.mul_le_mul_left P h
      rw [Nat.mul_add, Nat.mul_one] at this
      rw [lexI_lt _ _ (by omega), cmpI_lt (by omega)]
    · subst h
      rw [lexI_eq, ih, hu, hv]
      rcases (by omega : c < d ∨ c = d ∨ d < c) with j | j | j
      · rw [cmpI_lt (by omega), cmpI_lt (by omega)]
      · subst j; rw [cmpI_eq, cmpI_eq]
      · rw [cmpI_gt (by omega), cmpI_gt (by omega)]
    · have : P * (b + 1) ≤ P * a := Nat.mul_le_mul_left P h
      rw [Nat.mul_add, Nat.mul_one] at this
      rw [lexI_gt _ _ (by omega), cmpI_gt (by omega)]

theorem num_snoc (l : List Int) (x : Int) : num (l ++ [x]) = num l * 256 + x := by simp [num, List.foldl_append]
theorem num_take {l : List Int} {k : Nat} (h : k < l.length) : num (l.take (k + 1)) = num (l.take k) * 256 + nth l k := by
  rw [List.take_add_one, nth, List.getElem?_eq_getElem h]; exact num_snoc _ _
theorem num_from : ∀ (l : List Int) (a : Int) (N : Nat), U8 l → 0 ≤ a → a < N → 0 ≤ l.foldl (fun a x => a * 256 + x) a ∧ l.foldl (fun a x => a * 256 + x) a < ((N * 256 ^ l.length : Nat) : Int)
  | [], a, N, _, h1, h2 => by simpa using ⟨h1, h2⟩
  | x :: r, a, N, hu, h1, h2 => by
    have hx := hu x (by simp)
    have := num_from r (a * 256 + x) (N * 256) (fun z hz => hu z (by simp [hz])) (by omega) (by omega)
    rw [List.foldl_cons, List.length_cons, Nat.pow_succ, Nat.mul_comm (256 ^ r.length) 256, ← Nat.mul_assoc]
    exact this
theorem num_le {l : List Int} (h : U8 l) : 0 ≤ num l ∧ num l < ((256 ^ l.length : Nat) : Int) := by
  have := num_from l 0 1 h (by omega) (by omega)
  rw [Nat.one_mul] at this
  exact this
/-- Bytes that a number has say it. -/
theorem num_be_from : ∀ (m u : Nat) (a : Int), (be m u).foldl (fun a x => a * 256 + x) a = a * ((256 ^ m : Nat) : Int) + ((u % 256 ^ m : Nat) : Int)
  | 0, u, a => by simp [be, Nat.mod_one]
  | m + 1, u, a => by
    rw [be, List.foldl_cons, num_be_from m u, Nat.mod_pow_succ, Nat.pow_succ]
    generalize u / 256 ^ m % 256 = b
    generalize u % 256 ^ m = c
    generalize 256 ^ m = P
    have e1 : ((P * 256 : Nat) : Int) = 256 * (P : Int) := by omega
    have e2 : ((P * b : Nat) : Int) = (b : Int) * (P : Int) := by rw [Int.natCast_mul, Int.mul_comm]
    rw [Int.add_mul, Int.natCast_add, e1, e2, Int.mul_assoc a]
    omega
theorem num_be (u : Nat) (h : u < 18446744073709551616) : num (be 8 u) = u := by
  rw [num, num_be_from, Int.zero_mul, Nat.mod_eq_of_lt (by simpa using h)]; omega

/-! Keys. -/

theorem turn_lt {n : Int} (h : Fits n) : turn n < 18446744073709551616 := by unfold turn Fits at *; omega
theorem turn_cast {n : Int} (h : Fits n) : ((turn n : Nat) : Int) = n + 9223372036854775808 := by unfold turn Fits at *; omega
theorem be_turn_lex {n n' : Int} (h : Fits n) (h' : Fits n') : lexI (be 8 (turn n)) (be 8 (turn n')) = cmpI n n' := by
  rw [be_lex, Nat.mod_eq_of_lt (by simpa using turn_lt h), Nat.mod_eq_of_lt (by simpa using turn_lt h'), turn_cast h, turn_cast h']
  unfold cmpI
  by_cases h1 : n < n'
  · rw [if_pos (by omega), if_pos h1]
  · rw [if_neg (by omega), if_neg h1]
    by_cases h2 : n' < n
    · rw [if_pos (by omega), if_pos h2]
    · rw [if_neg (by omega), if_neg h2]
theorem okB_iff {x : Int} : okB x = true ↔ 32 ≤ x ∧ x ≤ 126 := by simp [okB]
theorem mayT_iff {l : List Int} : mayT l = true ↔ l.length ≤ 30 ∧ ∀ x ∈ l, 32 ≤ x ∧ x ≤ 126 := by simp [mayT, okB_iff, List.all_eq_true]
theorem text_lex : ∀ {l l' : List Int}, (∀ x ∈ l, 0 < x) → (∀ x ∈ l', 0 < x) → lexI (l ++ [0]) (l' ++ [0]) = lexI l l'
  | [], [], _, _ => rfl
  | [], y :: r, _, h => by
    have := h y (by simp)
    rw [List.nil_append, List.cons_append, lexI_lt _ _ this]; rfl
  | x :: r, [], h, _ => by
    have := h x (by simp)
    rw [List.nil_append, List.cons_append, lexI_gt _ _ this]; rfl
  | x :: r, y :: q, h, h' => by
    rw [List.cons_append, List.cons_append, lexI, lexI, text_lex (fun z hz => h z (by simp [hz])) (fun z hz => h' z (by simp [hz]))]
theorem mayV_one {k n : Int} {l : List Int} (h : mayV k n l = true) : (k = 1 ∧ l = []) ∨ (k = 2 ∧ n = 0 ∧ l.length ≤ 30 ∧ ∀ x ∈ l, 32 ≤ x ∧ x ≤ 126) := by
  unfold mayV at h
  split at h
  · exact .inl ⟨by assumption, by simpa using h⟩
  · rw [Bool.and_eq_true, Bool.and_eq_true, decide_eq_true_iff, decide_eq_true_iff, mayT_iff] at h
    exact .inr ⟨h.1, h.2.1, h.2.2⟩
/-- Keys stand as their values do. -/
theorem key_lex {k n : Int} {l : List Int} {k' n' : Int} {l' : List Int} (h : mayV k n l = true) (h' : mayV k' n' l' = true) (hf : Fits n) (hf' : Fits n') : lexI (keyL k n l) (keyL k' n' l') = cmpV k n l k' n' l' := by
  rcases mayV_one h with ⟨rfl, rfl⟩ | ⟨rfl, rfl, _, ht⟩ <;> rcases mayV_one h' with ⟨rfl, rfl⟩ | ⟨rfl, rfl, _, ht'⟩
  · rw [keyL, keyL, if_pos rfl, if_pos rfl, lexI_eq, be_turn_lex hf hf', cmpV, cmpI_eq, orI, if_pos rfl, lexI_self, orI]
    split <;> omega
  · rw [keyL, keyL, if_pos rfl, if_neg (by omega), lexI_lt _ _ (by omega)]; rfl
  · rw [keyL, keyL, if_pos rfl, if_neg (by omega), lexI_gt _ _ (by omega)]; rfl
  · rw [keyL, keyL, if_neg (by omega), if_neg (by omega), lexI_eq, text_lex (fun x hx => by have := ht x hx; omega) (fun x hx => by have := ht' x hx; omega), cmpV, cmpI_eq, cmpI_eq, orI, if_pos rfl, orI, if_pos rfl]
theorem keyL_u8 {k n : Int} {l : List Int} (h : mayV k n l = true) : U8 (keyL k n l) := by
  unfold keyL
  split
  · intro x hx
    rw [List.mem_cons] at hx
    rcases hx with rfl | hx
    · omega
    · exact be_u8 8 _ x hx
  · rcases mayV_one h with ⟨rfl, rfl⟩ | ⟨rfl, rfl, _, ht⟩
    · omega
    · intro x hx
      rw [List.mem_cons, List.mem_append, List.mem_singleton] at hx
      rcases hx with rfl | hx | rfl
      · omega
      · have := ht x hx; omega
      · omega
theorem keyL_len {k n : Int} {l : List Int} (h : mayV k n l = true) : (keyL k n l).length ≤ 32 := by
  unfold keyL
  split
  · rw [List.length_cons, be_len]; omega
  · rcases mayV_one h with ⟨rfl, rfl⟩ | ⟨rfl, rfl, hl, ht⟩
    · omega
    · simp; omega
theorem text_begins : ∀ {l l' r : List Int}, (∀ x ∈ l, 32 ≤ x ∧ x ≤ 126) → (∀ x ∈ l', 32 ≤ x ∧ x ≤ 126) → l' ++ [0] = l ++ [0] ++ r → r = []
  | [], [], r, _, _, h => by simpa using h
  | [], y :: q, r, _, ht, h => by
    have := ht y (by simp)
    rw [List.cons_append, List.nil_append, List.cons_append, List.cons.injEq] at h
    omega
  | x :: q, [], r, ht, _, h => by
    have := ht x (by simp)
    rw [List.cons_append, List.nil_append, List.cons_append, List.cons.injEq] at h
    omega
  | x :: q, y :: q', r, ht, ht', h => by
    simp only [List.cons_append, List.cons.injEq] at h
    exact text_begins (fun z hz => ht z (by simp [hz])) (fun z hz => ht' z (by simp [hz])) h.2
/-- No key is another one's beginning. -/
theorem key_begins {k n : Int} {l : List Int} {k' n' : Int} {l' : List Int} (h : mayV k n l = true) (h' : mayV k' n' l' = true) (hf : Fits n) (hf' : Fits n') (hp : (keyL k' n' l').take (keyL k n l).length = keyL k n l) : k = k' ∧ n = n' ∧ l = l' := by
  have hc : lexI (keyL k n l) (keyL k' n' l') = 0 := by
    obtain ⟨r, hr⟩ : ∃ r, keyL k' n' l' = keyL k n l ++ r := ⟨_, (by rw [← hp]; exact (List.take_append_drop _ _).symm.trans (by rw [hp]))⟩
    have hr0 : r = [] := by
      rcases mayV_one h with ⟨rfl, rfl⟩ | ⟨rfl, rfl, _, ht⟩ <;> rcases mayV_one h' with ⟨rfl, rfl⟩ | ⟨rfl, rfl, _, ht'⟩
      · have := congrArg List.length hr
        simp [keyL, be_len] at this
        exact this
      · simp [keyL] at hr
      · simp [keyL] at hr
      · simp only [keyL] at hr
        rw [if_neg (by omega), if_neg (by omega), List.cons_append, List.cons.injEq] at hr
        exact text_begins ht ht' hr.2
    rw [hr, hr0, List.append_nil, lexI_self]
  rw [key_lex h h' hf hf'] at hc
  exact cmpV_zero.1 hc

/-! What is read. -/

theorem scan_text : ∀ {l : List Int} {i : Nat} (r : List Int), i + l.length ≤ 30 → (∀ x ∈ l, 32 ≤ x ∧ x ≤ 126) → scanE i (l ++ 0 :: r) = 0 ∧ scanN i (l ++ 0 :: r) = i + l.length
  | [], i, r, _, _ => by simp [scanE, scanN]
  | x :: q, i, r, hl, h => by
    have hx := h x (by simp)
    have hi : ¬ (i = 30 ∨ okB x = false) := by
      rw [List.length_cons] at hl
      have : okB x = true := okB_iff.2 hx
      rw [this]
      simp
      omega
    have ih := scan_text (l := q) (i := i + 1) r (by rw [List.length_cons] at hl; omega) (fun z hz => h z (by simp [hz]))
    rw [List.cons_append, scanE, scanN, if_neg (by omega), if_neg hi, if_neg (by omega), if_neg hi, ih.1, ih.2]
    simp
    omega

/-- What is written is read again. -/
theorem tk_key {k n : Int} {l : List Int} (h : mayV k n l = true) (hf : Fits n) (r : List Int) : tkE (keyL k n l ++ r) = 0 ∧ tkK (keyL k n l ++ r) = k ∧ tkI (keyL k n l ++ r) = n ∧ tkT (keyL k n l ++ r) = l ∧ tkN (keyL k n l ++ r) = ((keyL k n l).length : Int) := by
  rcases mayV_one h with ⟨rfl, rfl⟩ | ⟨rfl, rfl, hl, ht⟩
  · have e : tkE (keyL 1 n [] ++ r) = 0 := by
      rw [keyL, if_pos rfl, List.cons_append, tkE, if_pos rfl, if_neg (by rw [List.length_append, be_len]; omega)]
    have e0 : nth (keyL 1 n [] ++ r) 0 = 1 := rfl
    refine ⟨e, by rw [tkK, e, e0]; rfl, ?_, by rw [tkT, e0, if_neg (by omega)], ?_⟩
    · rw [tkI, e, e0, if_pos ⟨rfl, rfl⟩, keyL, if_pos rfl, List.cons_append, List.tail_cons, List.take_left' (be_len 8 _), num_be _ (turn_lt hf), turn_cast hf]
      omega
    · rw [tkN, e, e0, if_pos rfl, if_pos rfl, keyL, if_pos rfl, List.length_cons, be_len]; rfl
  · have hs := scan_text (l := l) (i := 0) r (by omega) ht
    have ek : keyL 2 0 l ++ r = 2 :: (l ++ 0 :: r) := by rw [keyL, if_neg (by omega)]; simp
    have e : tkE (keyL 2 0 l ++ r) = 0 := by rw [ek, tkE, if_neg (by omega), if_pos rfl, hs.1]
    have e0 : nth (keyL 2 0 l ++ r) 0 = 2 := by rw [ek]; rfl
    refine ⟨e, by rw [tkK, e, e0]; rfl, by rw [tkI, e0, if_neg (by omega)], ?_, ?_⟩
    · rw [tkT, e, e0, if_pos ⟨rfl, by omega⟩, ek, List.tail_cons, hs.2, Nat.zero_add, List.take_left]
    · rw [tkN, e, e0, if_pos rfl, if_neg (by omega), ek, List.tail_cons, hs.2, keyL, if_neg (by omega)]
      simp
      omega

end Go.Proofs.Ytdeplfhkeneabaa
