/- Words of a text, as plain functions over its bytes: what the walks of lex and of the document's own are held against. -/
import Derived.Test.YtjlmcnbmhgabpaaGreatN3
namespace Go.Proofs.YtjlmcnbmhgabpaaGreat
open Go.RowKit
set_option linter.unusedVariables false

/-- Bytes that begin a name; that go on in one; that a text value may have; one byte; one of two; a sign that begins no longer one. -/
def isL (x : UInt8) : Bool := (decide (97 ≤ x.toNat) && decide (x.toNat ≤ 122)) || decide (x.toNat = 95)
def isN (x : UInt8) : Bool := isL x || isDig x
def isT (x : UInt8) : Bool := decide (32 ≤ x.toNat) && decide (x.toNat ≤ 126)
def isB (n : Nat) (x : UInt8) : Bool := decide (x.toNat = n)
def is2 (a b : Nat) (x : UInt8) : Bool := decide (x.toNat = a) || decide (x.toNat = b)
def isO (x : UInt8) : Bool := [40, 41, 44, 46, 61, 43, 45, 42].contains x

/-- Is the byte at place k such a one? -/
def got (p : UInt8 → Bool) (s : ByteArray) (k : Nat) : Bool := ((bs s)[k]?).any p
/-- The first place from k on that is no such one. -/
def till (p : UInt8 → Bool) (s : ByteArray) (k : Nat) : Nat := k + (((bs s).drop k).takeWhile p).length

theorem got_at {p : UInt8 → Bool} {s : ByteArray} {k : Nat} (h : k < s.size) : got p s k = p s[k] := by rw [got, bs_at s k h]; rfl
theorem got_end {p : UInt8 → Bool} {s : ByteArray} {k : Nat} (h : s.size ≤ k) : got p s k = false := by
  rw [got, List.getElem?_eq_none (by rw [bs_length]; exact h)]; rfl
theorem got_lt {p : UInt8 → Bool} {s : ByteArray} {k : Nat} (h : got p s k = true) : k < s.size := by
  cases Nat.lt_or_ge k s.size with
  | inl h' => exact h'
  | inr h' => rw [got_end h'] at h; cases h
theorem drop_at {s : ByteArray} {k : Nat} (h : k < s.size) : (bs s).drop k = s[k] :: (bs s).drop (k + 1) := by
  have h' : k < (bs s).length := by rw [bs_length]; exact h
  rw [List.drop_eq_getElem_cons h']
  rfl
theorem till_step {p : UInt8 → Bool} {s : ByteArray} {k : Nat} (h : got p s k = true) : till p s k = till p s (k + 1) := by
  have hl := got_lt h
  rw [got_at hl] at h
  rw [till, till, drop_at hl, List.takeWhile_cons, if_pos h, List.length_cons]
  omega
theorem till_stop {p : UInt8 → Bool} {s : ByteArray} {k : Nat} (h : got p s k = false) : till p s k = k := by
  cases Nat.lt_or_ge k s.size with
  | inl hl =>
    rw [got_at hl] at h
    rw [till, drop_at hl, List.takeWhile_cons, h]
    rfl
  | inr hl => rw [till, List.drop_of_length_le (by rw [bs_length]; exact hl)]; rfl
theorem till_ge (p : UInt8 → Bool) (s : ByteArray) (k : Nat) : k ≤ till p s k := by rw [till]; omega
theorem till_le {p : UInt8 → Bool} {s : ByteArray} {k : Nat} (h : k ≤ s.size) : till p s k ≤ s.size := by
  have h1 := (List.takeWhile_prefix p (l := (bs s).drop k)).length_le
  rw [List.length_drop, bs_length] at h1
  rw [till]; omega
theorem till_got {p : UInt8 → Bool} {s : ByteArray} : ∀ (n k : Nat), s.size - k = n → got p s (till p s k) = false := by
  intro n
  induction n with
  | zero => intro k h; rw [till_stop (got_end (by omega))]; exact got_end (by omega)
  | succ n ih =>
    intro k h
    cases hg : got p s k with
    | false => rw [till_stop hg]; exact hg
    | true => rw [till_step hg]; exact ih (k + 1) (by omega)
theorem got_till (p : UInt8 → Bool) (s : ByteArray) (k : Nat) : got p s (till p s k) = false := till_got _ k rfl
theorem till_lt {p : UInt8 → Bool} {s : ByteArray} {k : Nat} (h : got p s k = true) : k < till p s k := by
  rw [till_step h]
  exact till_ge p s (k + 1)

/-- A word: Kind, Text, Int, At. -/
abbrev Tk := Int × ByteArray × Int × Int
/-- What is told of the word at a place: it, where the next one is looked for; or the fault's place, and the fault. -/
structure Wr where
  tk : Tk
  nx : Nat
  pl : Int
  er : Int
/-- A fault. -/
def flt (k : Nat) (e : Int) : Wr := ⟨(0, ⟨#[]⟩, 0, 0), 0, k, e⟩
def wrd (t : Tk) (n : Nat) : Wr := ⟨t, n, 0, 0⟩

/-- The words that are no names. -/
def wl : List ByteArray := [⟨#[97, 110, 100]⟩, ⟨#[97, 115]⟩, ⟨#[98, 101, 103, 105, 110]⟩, ⟨#[98, 121]⟩, ⟨#[99, 97, 108, 108]⟩, ⟨#[99, 108, 111, 115, 117, 114, 101]⟩, ⟨#[99, 111, 109, 109, 105, 116]⟩, ⟨#[99, 111, 117, 110, 116]⟩, ⟨#[99, 114, 101, 97, 116, 101]⟩, ⟨#[100, 101, 108, 101, 116, 101]⟩, ⟨#[100, 101, 115, 99]⟩, ⟨#[102, 114, 111, 109]⟩, ⟨#[103, 114, 111, 117, 112]⟩, ⟨#[105, 110, 100, 101, 120]⟩, ⟨#[105, 110, 115, 101, 114, 116]⟩, ⟨#[105, 110, 116]⟩, ⟨#[105, 110, 116, 111]⟩, ⟨#[106, 111, 105, 110]⟩, ⟨#[109, 97, 120]⟩, ⟨#[109, 105, 110]⟩, ⟨#[110, 111, 116]⟩, ⟨#[111, 110]⟩, ⟨#[111, 114]⟩, ⟨#[111, 114, 100, 101, 114]⟩, ⟨#[114, 97, 105, 115, 101]⟩, ⟨#[114, 101, 102]⟩, ⟨#[114, 111, 108, 108, 98, 97, 99, 107]⟩, ⟨#[115, 101, 108, 101, 99, 116]⟩, ⟨#[115, 101, 116]⟩, ⟨#[115, 116, 114, 105, 112]⟩, ⟨#[115, 117, 109]⟩, ⟨#[116, 97, 98, 108, 101]⟩, ⟨#[116, 101, 120, 116]⟩, ⟨#[117, 112, 100, 97, 116, 101]⟩, ⟨#[118, 97, 108, 117, 101, 115]⟩, ⟨#[118, 105, 101, 119]⟩, ⟨#[119, 104, 101, 114, 101]⟩]
def isW (s : ByteArray) : Bool := wl.any fun t => decide (t = s)
theorem isW_iff {s : ByteArray} : isW s = true ↔ s ∈ wl := by
  rw [isW, List.any_eq_true]
  constructor
  · rintro ⟨t, ht, h⟩; rw [decide_eq_true_iff] at h; subst h; exact ht
  · exact fun h => ⟨s, h, by simp⟩
theorem wl_short : ∀ s ∈ wl, s.size ≤ 8 := by decide

/-- A name, or a word that is none. -/
def nameW (s : ByteArray) (j : Nat) : Wr :=
  if 16 < till isN s j - j then flt j 7
  else wrd (if isW (s.extract j (till isN s j)) then 2 else 1, s.extract j (till isN s j), 0, j) (till isN s j)
/-- The number that digits from j up to k say. -/
def numV (s : ByteArray) (j k : Nat) : Nat := val (bs (s.extract j k))
def numW (s : ByteArray) (j : Nat) : Wr :=
  if got isL s (till isDig s j) then flt (till isDig s j) 4
  else if Fits (numV s j (till isDig s j)) then wrd (3, ⟨#[]⟩, numV s j (till isDig s j), j) (till isDig s j)
  else flt j 8
/-- The text value in these bytes, behind its first mark: its letters, how many bytes were read, does it end? -/
def quo : List UInt8 → List UInt8 × Nat × Bool
  | [] => ([], 0, false)
  | [x] => if isB 39 x then ([], 1, true) else if isT x then ([x], 1, false) else ([], 0, false)
  | x :: y :: r =>
    if isB 39 x then (if isB 39 y then (x :: (quo r).1, (quo r).2.1 + 2, (quo r).2.2) else ([], 1, true))
    else if isT x then (x :: (quo (y :: r)).1, (quo (y :: r)).2.1 + 1, (quo (y :: r)).2.2) else ([], 0, false)
def quoW (s : ByteArray) (j : Nat) : Wr :=
  if (quo ((bs s).drop (j + 1))).2.2 then
    if 30 < (quo ((bs s).drop (j + 1))).1.length then flt j 7
    else wrd (4, ⟨(quo ((bs s).drop (j + 1))).1.toArray⟩, 0, j) (j + 1 + (quo ((bs s).drop (j + 1))).2.1)
  else flt (j + 1 + (quo ((bs s).drop (j + 1))).2.1) 4
/-- How many bytes the sign at j has. -/
def sgn (s : ByteArray) (j : Nat) : Nat :=
  if got (isB 60) s j then (if got (is2 61 62) s (j + 1) then 2 else 1)
  else if got (isB 62) s j then (if got (isB 61) s (j + 1) then 2 else 1)
  else if got isO s j then 1 else 0
def sgnW (s : ByteArray) (j : Nat) : Wr :=
  if sgn s j = 0 then flt j 4 else wrd (5, s.extract j (j + sgn s j), 0, j) (j + sgn s j)
def oneW (s : ByteArray) (j : Nat) : Wr :=
  if got isL s j then nameW s j else if got isDig s j then numW s j else if got (isB 39) s j then quoW s j else sgnW s j
/-- The word at j, no space there. -/
def endW (s : ByteArray) (j : Nat) : Wr := if j = s.size then wrd (6, ⟨#[]⟩, 0, j) j else oneW s j
def wordW (s : ByteArray) (k : Nat) : Wr := endW s (till (isB 32) s k)

/-- One step of what is told of a text from k on: a fault; the end; a word, and then what R tells of the rest; a word, and then R's fault. -/
def LxS (s : ByteArray) (R : Nat → List Tk → Int → Int → Prop) (k : Nat) (l : List Tk) (a e : Int) : Prop :=
  ((wordW s k).er ≠ 0 ∧ l = [] ∧ a = (wordW s k).pl ∧ e = (wordW s k).er) ∨
  ((wordW s k).er = 0 ∧ (wordW s k).tk.1 = 6 ∧ l = [(wordW s k).tk] ∧ a = 0 ∧ e = 0) ∨
  ((wordW s k).er = 0 ∧ (wordW s k).tk.1 ≠ 6 ∧ ∃ m, l = (wordW s k).tk :: m ∧ a = 0 ∧ e = 0 ∧ R (wordW s k).nx m 0 0) ∨
  ((wordW s k).er = 0 ∧ (wordW s k).tk.1 ≠ 6 ∧ l = [] ∧ e ≠ 0 ∧ R (wordW s k).nx [] a e)
/-- In so many steps. -/
def LxN (s : ByteArray) : Nat → Nat → List Tk → Int → Int → Prop
  | 0 => fun _ _ _ _ => False
  | n + 1 => LxS s (LxN s n)
/-- What is told of a text from k on: words, the fault's place, the fault. -/
structure Lx (s : ByteArray) (k : Nat) (l : List Tk) (a e : Int) : Prop where
  steps : ∃ n, LxN s n k l a e
theorem Lx.bad {s : ByteArray} (k : Nat) (h : (wordW s k).er ≠ 0) : Lx s k [] (wordW s k).pl (wordW s k).er := ⟨1, .inl ⟨h, rfl, rfl, rfl⟩⟩
theorem Lx.fin {s : ByteArray} (k : Nat) (h : (wordW s k).er = 0) (h6 : (wordW s k).tk.1 = 6) : Lx s k [(wordW s k).tk] 0 0 := ⟨1, .inr (.inl ⟨h, h6, rfl, rfl, rfl⟩)⟩
theorem Lx.more {s : ByteArray} (k : Nat) (l : List Tk) (h : (wordW s k).er = 0) (h6 : (wordW s k).tk.1 ≠ 6) (hx : Lx s (wordW s k).nx l 0 0) : Lx s k ((wordW s k).tk :: l) 0 0 := by
  obtain ⟨n, hn⟩ := hx.steps
  exact ⟨n + 1, .inr (.inr (.inl ⟨h, h6, l, rfl, rfl, rfl, hn⟩))⟩
theorem Lx.far {s : ByteArray} (k : Nat) (a e : Int) (h : (wordW s k).er = 0) (h6 : (wordW s k).tk.1 ≠ 6) (hx : Lx s (wordW s k).nx [] a e) (he : e ≠ 0) : Lx s k [] a e := by
  obtain ⟨n, hn⟩ := hx.steps
  exact ⟨n + 1, .inr (.inr (.inr ⟨h, h6, rfl, he, hn⟩))⟩
/-- What holds of each step holds of all that is told. -/
theorem Lx.all {s : ByteArray} (M : Nat → List Tk → Int → Int → Prop)
    (bad : ∀ k, (wordW s k).er ≠ 0 → M k [] (wordW s k).pl (wordW s k).er)
    (fin : ∀ k, (wordW s k).er = 0 → (wordW s k).tk.1 = 6 → M k [(wordW s k).tk] 0 0)
    (more : ∀ k l, (wordW s k).er = 0 → (wordW s k).tk.1 ≠ 6 → Lx s (wordW s k).nx l 0 0 → M (wordW s k).nx l 0 0 → M k ((wordW s k).tk :: l) 0 0)
    (far : ∀ k a e, (wordW s k).er = 0 → (wordW s k).tk.1 ≠ 6 → Lx s (wordW s k).nx [] a e → e ≠ 0 → M (wordW s k).nx [] a e → M k [] a e)
    {k : Nat} {l : List Tk} {a e : Int} (h : Lx s k l a e) : M k l a e := by
  obtain ⟨n, hn⟩ := h.steps
  clear h
  induction n generalizing k l a e with
  | zero => exact hn.elim
  | succ n ih =>
    rcases hn with ⟨h1, rfl, rfl, rfl⟩ | ⟨h1, h2, rfl, rfl, rfl⟩ | ⟨h1, h2, m, rfl, rfl, rfl, hm⟩ | ⟨h1, h2, rfl, he, hm⟩
    · exact bad k h1
    · exact fin k h1 h2
    · exact more k m h1 h2 ⟨n, hm⟩ (ih hm)
    · exact far k a e h1 h2 ⟨n, hm⟩ he (ih hm)
/-- One step. -/
theorem Lx.step {s : ByteArray} {k : Nat} {l : List Tk} {a e : Int} (h : Lx s k l a e) : LxS s (Lx s) k l a e :=
  Lx.all (LxS s (Lx s)) (fun k h1 => .inl ⟨h1, rfl, rfl, rfl⟩) (fun k h1 h2 => .inr (.inl ⟨h1, h2, rfl, rfl, rfl⟩))
    (fun k l h1 h2 hx _ => .inr (.inr (.inl ⟨h1, h2, l, rfl, rfl, rfl, hx⟩))) (fun k a e h1 h2 hx he _ => .inr (.inr (.inr ⟨h1, h2, rfl, he, hx⟩))) h

/-- What Lex tells of a text. -/
def LexR (s : ByteArray) (l : List Tk) (a e : Int) : Prop := (400 < s.size ∧ l = [] ∧ a = 0 ∧ e = 7) ∨ (s.size ≤ 400 ∧ Lx s 0 l a e)

theorem Lx.det {s : ByteArray} {k : Nat} {l m : List Tk} {a b e f : Int} (h : Lx s k l a e) (h' : Lx s k m b f) : l = m ∧ a = b ∧ e = f := by
  refine Lx.all (fun k l a e => ∀ m b f, Lx s k m b f → l = m ∧ a = b ∧ e = f) ?_ ?_ ?_ ?_ h m b f h'
  · intro k h1 m b f g
    rcases g.step with ⟨g1, rfl, rfl, rfl⟩ | ⟨g1, _⟩ | ⟨g1, _⟩ | ⟨g1, _⟩
    · exact ⟨rfl, rfl, rfl⟩
    · exact absurd g1 h1
    · exact absurd g1 h1
    · exact absurd g1 h1
  · intro k h1 h2 m b f g
    rcases g.step with ⟨g1, _⟩ | ⟨_, _, rfl, rfl, rfl⟩ | ⟨_, g2, _⟩ | ⟨_, g2, _⟩
    · exact absurd h1 g1
    · exact ⟨rfl, rfl, rfl⟩
    · exact absurd h2 g2
    · exact absurd h2 g2
  · intro k l h1 h2 h3 ih m b f g
    rcases g.step with ⟨g1, _⟩ | ⟨_, g2, _⟩ | ⟨_, _, n, rfl, rfl, rfl, g3⟩ | ⟨_, _, rfl, g4, g3⟩
    · exact absurd h1 g1
    · exact absurd g2 h2
    · obtain ⟨rfl, _, _⟩ := ih _ _ _ g3
      exact ⟨rfl, rfl, rfl⟩
    · exact absurd (ih _ _ _ g3).2.2.symm g4
  · intro k a e h1 h2 h3 h4 ih m b f g
    rcases g.step with ⟨g1, _⟩ | ⟨_, g2, _⟩ | ⟨_, _, n, rfl, rfl, rfl, g3⟩ | ⟨_, _, rfl, g4, g3⟩
    · exact absurd h1 g1
    · exact absurd g2 h2
    · exact absurd (ih _ _ _ g3).2.2 h4
    · obtain ⟨_, rfl, rfl⟩ := ih _ _ _ g3
      exact ⟨rfl, rfl, rfl⟩
theorem LexR.det {s : ByteArray} {l m : List Tk} {a b e f : Int} (h : LexR s l a e) (h' : LexR s m b f) : l = m ∧ a = b ∧ e = f := by
  rcases h with ⟨h0, rfl, rfl, rfl⟩ | ⟨h0, h⟩ <;> rcases h' with ⟨g0, rfl, rfl, rfl⟩ | ⟨g0, h'⟩
  · exact ⟨rfl, rfl, rfl⟩
  · omega
  · omega
  · exact h.det h'

theorem quo_le : ∀ (n : Nat) (l : List UInt8), l.length ≤ n → (quo l).2.1 ≤ l.length ∧ (quo l).1.length ≤ (quo l).2.1 ∧ ((quo l).2.2 = true → 0 < (quo l).2.1) := by
  intro n
  induction n with
  | zero =>
    intro l h
    obtain rfl : l = [] := List.eq_nil_of_length_eq_zero (by omega)
    simp [quo]
  | succ n ih =>
    intro l h
    match l, h with
    | [], _ => simp [quo]
    | [x], _ =>
      rw [quo]
      split
      · simp
      · split <;> simp
    | x :: y :: r, h =>
      have h1 := ih r (by simp at h; omega)
      have h2 := ih (y :: r) (by simpa using h)
      rw [quo]
      split
      · split
        · simp; omega
        · simp
      · split
        · simp at h2 ⊢; omega
        · simp
theorem quo_end (l : List UInt8) : (quo l).2.1 ≤ l.length := (quo_le _ l (Nat.le_refl _)).1
theorem sgn_le {s : ByteArray} {j : Nat} : j + sgn s j ≤ s.size ∨ sgn s j = 0 := by
  unfold sgn
  split
  · rename_i h
    have := got_lt h
    split
    · rename_i h2; have := got_lt h2; omega
    · omega
  · split
    · rename_i h
      have := got_lt h
      split
      · rename_i h2; have := got_lt h2; omega
      · omega
    · split
      · rename_i h; have := got_lt h; omega
      · exact .inr rfl

/-- A word is no end, and takes a byte at least. -/
theorem oneW_on {s : ByteArray} {j : Nat} (hj : j < s.size) (h : (oneW s j).er = 0) : (oneW s j).tk.1 ≠ 6 ∧ j < (oneW s j).nx ∧ (oneW s j).nx ≤ s.size := by
  unfold oneW at *
  split at h
  · rename_i hg
    rw [if_pos hg]
    unfold nameW at *
    split at h
    · simp [flt] at h
    · rename_i h2
      rw [if_neg h2]
      refine ⟨?_, ?_, till_le (by omega)⟩
      · show (if _ then (2 : Int) else 1) ≠ 6
        split <;> omega
      · exact till_lt (by rw [got_at hj, isN, ← got_at (p := isL) hj, hg]; rfl)
  · rename_i hg
    rw [if_neg hg]
    split at h
    · rename_i hd
      rw [if_pos hd]
      unfold numW at *
      split at h
      · simp [flt] at h
      · rename_i h2
        rw [if_neg h2]
        split at h
        · rename_i h3
          rw [if_pos h3]
          exact ⟨by simp [wrd], till_lt hd, till_le (by omega)⟩
        · simp [flt] at h
    · rename_i hd
      rw [if_neg hd]
      split at h
      · rename_i hq
        rw [if_pos hq]
        unfold quoW at *
        split at h
        · rename_i h2
          rw [if_pos h2]
          split at h
          · simp [flt] at h
          · rename_i h3
            rw [if_neg h3]
            have := quo_end ((bs s).drop (j + 1))
            rw [List.length_drop, bs_length] at this
            exact ⟨by simp [wrd], by simp [wrd]; omega, by simp [wrd]; omega⟩
        · simp [flt] at h
      · rename_i hq
        rw [if_neg hq]
        unfold sgnW at *
        split at h
        · simp [flt] at h
        · rename_i h2
          rw [if_neg h2]
          have := sgn_le (s := s) (j := j)
          exact ⟨by simp [wrd], by simp [wrd]; omega, by simp [wrd]; omega⟩
theorem wordW_on {s : ByteArray} {k : Nat} (hk : k ≤ s.size) (h : (wordW s k).er = 0) : ((wordW s k).tk.1 = 6 ∧ till (isB 32) s k = s.size) ∨ ((wordW s k).tk.1 ≠ 6 ∧ k < (wordW s k).nx ∧ (wordW s k).nx ≤ s.size) := by
  have h1 := till_ge (isB 32) s k
  have h2 := till_le (p := isB 32) hk
  unfold wordW endW at *
  split at h
  · rename_i he
    rw [if_pos he]
    exact .inl ⟨rfl, he⟩
  · rename_i he
    rw [if_neg he]
    have := oneW_on (s := s) (j := till (isB 32) s k) (by omega) h
    exact .inr ⟨this.1, by omega, this.2.2⟩

end Go.Proofs.YtjlmcnbmhgabpaaGreat
