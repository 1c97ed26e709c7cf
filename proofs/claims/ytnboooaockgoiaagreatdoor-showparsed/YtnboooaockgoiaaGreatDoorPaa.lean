import Derived.Test.YtnboooaockgoiaaGreatDoorRows
import Derived.WalkKit
import Derived.WalkSpells
import Derived.WalkLawsBesides
import Derived.BigQuiet
import Derived.Deep.QuietTactic
import Derived.Deep.RegionLaw
import Derived.Deep.DeepCutAuto
import Derived.Deep.CutBlock
import Derived.Laws.BitsAllLaws
import Derived.Laws.BytesArg
import Derived.Shelf.LaysM
import Derived.Shelf.Strconv.Clone
import Derived.Deep.AppendSrc
import Derived.Lib.Bytealg
import Derived.Deep.RegionHeld3
namespace Go.Proofs.YtnboooaockgoiaaGreatDoor
open Go.RowKit
set_option linter.unusedVariables false

/-- The number at place i (0 beyond the end); a name of its own, so that the walk does not spell it anew. -/
def nth (xs : List Int) (i : Nat) : Int := xs[i]?.getD 0

/-- The slice value '.slice ao n c' reads, in w, as the n numbers xs of kind k. -/
structure Rd (k : IntKind) (w : World) (ao : Option Addr) (n c : Nat) (xs : List Int) : Prop where
  len : xs.length = n
  cap : n ≤ c
  max : c ≤ 9223372036854775807
  non : ao = none → c = 0
  cells : 0 < n → ∃ b o, ao = some ⟨b, o, none⟩ ∧ ∀ i, i < n → w.cell? ⟨b, o + i, none⟩ = some (.int k (nth xs i))

theorem Rd.nil (k : IntKind) (w : World) : Rd k w none 0 0 [] := ⟨rfl, Nat.le_refl _, by omega, fun _ => rfl, fun h => absurd h (Nat.lt_irrefl _)⟩

theorem ret_bool {a b : Bool} (h : a = b) : Ending.returned (.bool a) = .returned (.bool b) := by rw [h]
/-- What a call has built by appends, read as a slice. -/
theorem Rd.of_owns {k : IntKind} {w : World} {base e : Nat} {v : Value} {out : List Int} (h : w.ownsRow base e 1 v out.length (out.map (Value.int k))) : ∃ ao c, v = .slice ao out.length c ∧ Rd k w ao out.length c out := by
  rcases h.2 with ⟨rfl, h0⟩ | ⟨g, cap, cur, rfl, hb, hg, hn, hc, hs, ht⟩
  · have : out = [] := List.eq_nil_of_length_eq_zero h0
    subst this
    exact ⟨none, 0, rfl, Rd.nil k w⟩
  · refine ⟨_, cap, rfl, ⟨rfl, hn, hc, fun e => by simp at e, fun hp => ⟨g, 0, rfl, fun i hi => ?_⟩⟩⟩
    have := h.cellAt i (by omega)
    rw [show 0 + i = i from by omega, this, List.getElem?_map, nth, List.getElem?_eq_getElem hi]
    rfl

theorem below_grown {B : Nat} {a w w' : World} {base e size : Nat} {v : Value} {n : Nat} {xs : List Value} (hb : Below B a w) (hB : B ≤ w.heap.size) (h : w.ownsRow base e size v n xs) (hbase : B ≤ base) (hg : w.grownBy w' v.ownBlock) : Below B a w' :=
  hb.grown hg hB fun k hk => Nat.le_trans hbase (h.lt k hk).1

theorem ints_one (k : IntKind) (xs : List Int) : ∀ u ∈ xs.map (Value.int k), u.oneCell' = true := by
  intro u hu
  obtain ⟨x, _, rfl⟩ := List.mem_map.1 hu
  rfl

theorem Tryz.info5 : (Tryz.prog.info? 5).map (fun i => (i.zero, i.size, i.bytes)) = some (some (.int .u8 0), 1, 1) := by kernel_rfl

set_option linter.unusedVariables false

set_option linter.unusedVariables false

set_option linter.unusedVariables false

set_option linter.unusedVariables false

/-- A text's bytes as numbers. -/
def nums (s : ByteArray) : List Int := s.data.toList.map fun c => (c.toNat : Int)

theorem nums_len (s : ByteArray) : (nums s).length = s.size := by rw [nums, List.length_map, Array.length_toList]; rfl

end Go.Proofs.YtnboooaockgoiaaGreatDoor
namespace Go.Proofs
open Go.Shelf
end Go.Proofs
namespace Go.Proofs.YtnboooaockgoiaaGreatDoor
open Go.RowKit
set_option linter.unusedVariables false

/-- Does a whole number fit 64 bits with a sign? -/
abbrev Fits (z : Int) : Prop := -9223372036854775808 ≤ z ∧ z ≤ 9223372036854775807
/-- The number that is told, and the fault that is told beside it. -/
def nV (z : Int) : Int := if Fits z then z else 0
def nE (z : Int) : Int := if Fits z then 0 else 8
def nA (z : Int) : Value := .tuple #[.int .i64 (nV z), .int .i64 (nE z)]

theorem nA_in {z : Int} (h : Fits z) : nA z = .tuple #[.int .i64 z, .int .i64 0] := by simp [nA, nV, nE, h]
theorem nA_out {z : Int} (h : ¬ Fits z) : nA z = .tuple #[.int .i64 0, .int .i64 8] := by simp [nA, nV, nE, h]

end Go.Proofs.YtnboooaockgoiaaGreatDoor
namespace Go.Proofs.YtnboooaockgoiaaGreatDoor
open Go.RowKit
set_option linter.unusedVariables false

/-- Is a byte a digit? -/
def isDig (x : UInt8) : Bool := decide (48 ≤ x.toNat) && decide (x.toNat ≤ 57)
/-- The number that digits say. -/
def val (l : List UInt8) : Nat := l.foldl (fun n x => n * 10 + (x.toNat - 48)) 0
/-- The text's bytes. -/
def bs (s : ByteArray) : List UInt8 := s.data.toList
/-- What a text is told as: a number, one that runs over, or none. -/
def isNum (l : List UInt8) : Bool := decide (0 < l.length) && l.all isDig
def pA (l : List UInt8) : Value := if isNum l then nA (val l) else .tuple #[.int .i64 0, .int .i64 3]

theorem bs_length (s : ByteArray) : (bs s).length = s.size := Array.length_toList
theorem bs_at (s : ByteArray) (k : Nat) (h : k < s.size) : (bs s)[k]? = some s[k] := by
  have h' : k < (bs s).length := by rw [bs_length]; exact h
  rw [List.getElem?_eq_getElem h']
  rfl
theorem take_snoc {l : List UInt8} {k : Nat} {x : UInt8} (h : l[k]? = some x) : l.take (k + 1) = l.take k ++ [x] := by
  rw [List.take_add_one, h]; rfl
theorem all_take {l : List UInt8} {k : Nat} {x : UInt8} (h : l[k]? = some x) (hp : (l.take k).all isDig = true) (hx : isDig x = true) : (l.take (k + 1)).all isDig = true := by
  rw [take_snoc h, List.all_append, hp]; simp [hx]
theorem all_not {l : List UInt8} {k : Nat} {x : UInt8} (h : l[k]? = some x) (hx : isDig x = false) : l.all isDig = false := by
  cases e : l.all isDig with
  | false => rfl
  | true =>
    have := List.all_eq_true.1 e x (List.mem_of_getElem? h)
    rw [hx] at this; cases this
theorem val_snoc (l : List UInt8) (x : UInt8) : val (l ++ [x]) = val l * 10 + (x.toNat - 48) := by simp [val, List.foldl_append]
theorem val_take {l : List UInt8} {k : Nat} {x : UInt8} (h : l[k]? = some x) : val (l.take (k + 1)) = val (l.take k) * 10 + (x.toNat - 48) := by rw [take_snoc h, val_snoc]
end Go.Proofs.YtnboooaockgoiaaGreatDoor
namespace Go.Proofs.YtnboooaockgoiaaGreatDoor
open Go.RowKit
set_option linter.unusedVariables false

/-- Bytes that begin a name; that go on in one; that a text value may have; one byte; one of two; a sign that begins no longer one. -/
def isL (x : UInt8) : Bool := (decide (97 ≤ x.toNat) && decide (x.toNat ≤ 122)) || decide (x.toNat = 95)
def isN (x : UInt8) : Bool := isL x || isDig x
def isT (x : UInt8) : Bool := decide (32 ≤ x.toNat) && decide (x.toNat ≤ 126)
def isB (n : Nat) (x : UInt8) : Bool := decide (x.toNat = n)
def is2 (a b : Nat) (x : UInt8) : Bool := decide (x.toNat = a) || decide (x.toNat = b)
def isO (x : UInt8) : Bool := [40, 41, 44, 46, 61, 43, 45, 42].contains x

/-- Is the byte at place k such a one? -/
def got (p : UInt8 → Bool) (s : ByteArray) (k : Nat) : Bool := ((bs s)[k]?).any p
/-- The first place from k on that is no such one. -/
def till (p : UInt8 → Bool) (s : ByteArray) (k : Nat) : Nat := k + (((bs s).drop k).takeWhile p).length

theorem got_at {p : UInt8 → Bool} {s : ByteArray} {k : Nat} (h : k < s.size) : got p s k = p s[k] := by rw [got, bs_at s k h]; rfl
theorem got_end {p : UInt8 → Bool} {s : ByteArray} {k : Nat} (h : s.size ≤ k) : got p s k = false := by
  rw [got, List.getElem?_eq_none (by rw [bs_length]; exact h)]; rfl
theorem got_lt {p : UInt8 → Bool} {s : ByteArray} {k : Nat} (h : got p s k = true) : k < s.size := by
  cases Nat.lt_or_ge k s.size with
  | inl h' => exact h'
  | inr h' => rw [got_end h'] at h; cases h
theorem drop_at {s : ByteArray} {k : Nat} (h : k < s.size) : (bs s).drop k = s[k] :: (bs s).drop (k + 1) := by
  have h' : k < (bs s).length := by rw [bs_length]; exact h
  rw [List.drop_eq_getElem_cons h']
  rfl
theorem till_step {p : UInt8 → Bool} {s : ByteArray} {k : Nat} (h : got p s k = true) : till p s k = till p s (k + 1) := by
  have hl := got_lt h
  rw [got_at hl] at h
  rw [till, till, drop_at hl, List.takeWhile_cons, if_pos h, List.length_cons]
  omega
theorem till_stop {p : UInt8 → Bool} {s : ByteArray} {k : Nat} (h : got p s k = false) : till p s k = k := by
  cases Nat.lt_or_ge k s.size with
  | inl hl =>
    rw [got_at hl] at h
    rw [till, drop_at hl, List.takeWhile_cons, h]
    rfl
  | inr hl => rw [till, List.drop_of_length_le (by rw [bs_length]; exact hl)]; rfl
theorem till_ge (p : UInt8 → Bool) (s : ByteArray) (k : Nat) : k ≤ till p s k := by rw [till]; omega
theorem till_le {p : UInt8 → Bool} {s : ByteArray} {k : Nat} (h : k ≤ s.size) : till p s k ≤ s.size := by
  have h1 := (List.takeWhile_prefix p (l := (bs s).drop k)).length_le
  rw [List.length_drop, bs_length] at h1
  rw [till]; omega
theorem till_lt {p : UInt8 → Bool} {s : ByteArray} {k : Nat} (h : got p s k = true) : k < till p s k := by
  rw [till_step h]
  exact till_ge p s (k + 1)

/-- A word: Kind, Text, Int, At. -/
abbrev Tk := Int × ByteArray × Int × Int
/-- What is told of the word at a place: it, where the next one is looked for; or the fault's place, and the fault. -/
structure Wr where
  tk : Tk
  nx : Nat
  pl : Int
  er : Int
/-- A fault. -/
def flt (k : Nat) (e : Int) : Wr := ⟨(0, ⟨#[]⟩, 0, 0), 0, k, e⟩
def wrd (t : Tk) (n : Nat) : Wr := ⟨t, n, 0, 0⟩

/-- The words that are no names. -/
def wl : List ByteArray := [⟨#[97, 110, 100]⟩, ⟨#[97, 115]⟩, ⟨#[98, 101, 103, 105, 110]⟩, ⟨#[98, 121]⟩, ⟨#[99, 97, 108, 108]⟩, ⟨#[99, 108, 111, 115, 117, 114, 101]⟩, ⟨#[99, 111, 109, 109, 105, 116]⟩, ⟨#[99, 111, 117, 110, 116]⟩, ⟨#[99, 114, 101, 97, 116, 101]⟩, ⟨#[100, 101, 108, 101, 116, 101]⟩, ⟨#[100, 101, 115, 99]⟩, ⟨#[102, 114, 111, 109]⟩, ⟨#[103, 114, 111, 117, 112]⟩, ⟨#[105, 110, 100, 101, 120]⟩, ⟨#[105, 110, 115, 101, 114, 116]⟩, ⟨#[105, 110, 116]⟩, ⟨#[105, 110, 116, 111]⟩, ⟨#[106, 111, 105, 110]⟩, ⟨#[109, 97, 120]⟩, ⟨#[109, 105, 110]⟩, ⟨#[110, 111, 116]⟩, ⟨#[111, 110]⟩, ⟨#[111, 114]⟩, ⟨#[111, 114, 100, 101, 114]⟩, ⟨#[114, 97, 105, 115, 101]⟩, ⟨#[114, 101, 102]⟩, ⟨#[114, 111, 108, 108, 98, 97, 99, 107]⟩, ⟨#[115, 101, 108, 101, 99, 116]⟩, ⟨#[115, 101, 116]⟩, ⟨#[115, 116, 114, 105, 112]⟩, ⟨#[115, 117, 109]⟩, ⟨#[116, 97, 98, 108, 101]⟩, ⟨#[116, 101, 120, 116]⟩, ⟨#[117, 112, 100, 97, 116, 101]⟩, ⟨#[118, 97, 108, 117, 101, 115]⟩, ⟨#[118, 105, 101, 119]⟩, ⟨#[119, 104, 101, 114, 101]⟩]
def isW (s : ByteArray) : Bool := wl.any fun t => decide (t = s)
theorem isW_iff {s : ByteArray} : isW s = true ↔ s ∈ wl := by
  rw [isW, List.any_eq_true]
  constructor
  · rintro ⟨t, ht, h⟩; rw [decide_eq_true_iff] at h; subst h; exact ht
  · exact fun h => ⟨s, h, by simp⟩
theorem wl_short : ∀ s ∈ wl, s.size ≤ 8 := by decide

/-- A name, or a word that is none. -/
def nameW (s : ByteArray) (j : Nat) : Wr :=
  if 16 < till isN s j - j then flt j 7
  else wrd (if isW (s.extract j (till isN s j)) then 2 else 1, s.extract j (till isN s j), 0, j) (till isN s j)
/-- The number that digits from j up to k say. -/
def numV (s : ByteArray) (j k : Nat) : Nat := val (bs (s.extract j k))
def numW (s : ByteArray) (j : Nat) : Wr :=
  if got isL s (till isDig s j) then flt (till isDig s j) 4
  else if Fits (numV s j (till isDig s j)) then wrd (3, ⟨#[]⟩, numV s j (till isDig s j), j) (till isDig s j)
  else flt j 8
/-- The text value in these bytes, behind its first mark: its letters, how many bytes were read, does it end? -/
def quo : List UInt8 → List UInt8 × Nat × Bool
  | [] => ([], 0, false)
  | [x] => if isB 39 x then ([], 1, true) else if isT x then ([x], 1, false) else ([], 0, false)
  | x :: y :: r =>
    if isB 39 x then (if isB 39 y then (x :: (quo r).1, (quo r).2.1 + 2, (quo r).2.2) else ([], 1, true))
    else if isT x then (x :: (quo (y :: r)).1, (quo (y :: r)).2.1 + 1, (quo (y :: r)).2.2) else ([], 0, false)
def quoW (s : ByteArray) (j : Nat) : Wr :=
  if (quo ((bs s).drop (j + 1))).2.2 then
    if 30 < (quo ((bs s).drop (j + 1))).1.length then flt j 7
    else wrd (4, ⟨(quo ((bs s).drop (j + 1))).1.toArray⟩, 0, j) (j + 1 + (quo ((bs s).drop (j + 1))).2.1)
  else flt (j + 1 + (quo ((bs s).drop (j + 1))).2.1) 4
/-- How many bytes the sign at j has. -/
def sgn (s : ByteArray) (j : Nat) : Nat :=
  if got (isB 60) s j then (if got (is2 61 62) s (j + 1) then 2 else 1)
  else if got (isB 62) s j then (if got (isB 61) s (j + 1) then 2 else 1)
  else if got isO s j then 1 else 0
def sgnW (s : ByteArray) (j : Nat) : Wr :=
  if sgn s j = 0 then flt j 4 else wrd (5, s.extract j (j + sgn s j), 0, j) (j + sgn s j)
def oneW (s : ByteArray) (j : Nat) : Wr :=
  if got isL s j then nameW s j else if got isDig s j then numW s j else if got (isB 39) s j then quoW s j else sgnW s j
/-- The word at j, no space there. -/
def endW (s : ByteArray) (j : Nat) : Wr := if j = s.size then wrd (6, ⟨#[]⟩, 0, j) j else oneW s j
def wordW (s : ByteArray) (k : Nat) : Wr := endW s (till (isB 32) s k)

/-- One step of what is told of a text from k on: a fault; the end; a word, and then what R tells of the rest; a word, and then R's fault. -/
def LxS (s : ByteArray) (R : Nat → List Tk → Int → Int → Prop) (k : Nat) (l : List Tk) (a e : Int) : Prop :=
  ((wordW s k).er ≠ 0 ∧ l = [] ∧ a = (wordW s k).pl ∧ e = (wordW s k).er) ∨
  ((wordW s k).er = 0 ∧ (wordW s k).tk.1 = 6 ∧ l = [(wordW s k).tk] ∧ a = 0 ∧ e = 0) ∨
  ((wordW s k).er = 0 ∧ (wordW s k).tk.1 ≠ 6 ∧ ∃ m, l = (wordW s k).tk :: m ∧ a = 0 ∧ e = 0 ∧ R (wordW s k).nx m 0 0) ∨
  ((wordW s k).er = 0 ∧ (wordW s k).tk.1 ≠ 6 ∧ l = [] ∧ e ≠ 0 ∧ R (wordW s k).nx [] a e)
/-- In so many steps. -/
def LxN (s : ByteArray) : Nat → Nat → List Tk → Int → Int → Prop
  | 0 => fun _ _ _ _ => False
  | n + 1 => LxS s (LxN s n)
/-- What is told of a text from k on: words, the fault's place, the fault. -/
structure Lx (s : ByteArray) (k : Nat) (l : List Tk) (a e : Int) : Prop where
  steps : ∃ n, LxN s n k l a e
theorem Lx.bad {s : ByteArray} (k : Nat) (h : (wordW s k).er ≠ 0) : Lx s k [] (wordW s k).pl (wordW s k).er := ⟨1, .inl ⟨h, rfl, rfl, rfl⟩⟩
theorem Lx.fin {s : ByteArray} (k : Nat) (h : (wordW s k).er = 0) (h6 : (wordW s k).tk.1 = 6) : Lx s k [(wordW s k).tk] 0 0 := ⟨1, .inr (.inl ⟨h, h6, rfl, rfl, rfl⟩)⟩
theorem Lx.more {s : ByteArray} (k : Nat) (l : List Tk) (h : (wordW s k).er = 0) (h6 : (wordW s k).tk.1 ≠ 6) (hx : Lx s (wordW s k).nx l 0 0) : Lx s k ((wordW s k).tk :: l) 0 0 := by
  obtain ⟨n, hn⟩ := hx.steps
  exact ⟨n + 1, .inr (.inr (.inl ⟨h, h6, l, rfl, rfl, rfl, hn⟩))⟩
theorem Lx.far {s : ByteArray} (k : Nat) (a e : Int) (h : (wordW s k).er = 0) (h6 : (wordW s k).tk.1 ≠ 6) (hx : Lx s (wordW s k).nx [] a e) (he : e ≠ 0) : Lx s k [] a e := by
  obtain ⟨n, hn⟩ := hx.steps
  exact ⟨n + 1, .inr (.inr (.inr ⟨h, h6, rfl, he, hn⟩))⟩
/-- What holds of each step holds of all that is told. -/
theorem Lx.all {s : ByteArray} (M : Nat → List Tk → Int → Int → Prop)
    (bad : ∀ k, (wordW s k).er ≠ 0 → M k [] (wordW s k).pl (wordW s k).er)
    (fin : ∀ k, (wordW s k).er = 0 → (wordW s k).tk.1 = 6 → M k [(wordW s k).tk] 0 0)
    (more : ∀ k l, (wordW s k).er = 0 → (wordW s k).tk.1 ≠ 6 → Lx s (wordW s k).nx l 0 0 → M (wordW s k).nx l 0 0 → M k ((wordW s k).tk :: l) 0 0)
    (far : ∀ k a e, (wordW s k).er = 0 → (wordW s k).tk.1 ≠ 6 → Lx s (wordW s k).nx [] a e → e ≠ 0 → M (wordW s k).nx [] a e → M k [] a e)
    {k : Nat} {l : List Tk} {a e : Int} (h : Lx s k l a e) : M k l a e := by
  obtain ⟨n, hn⟩ := h.steps
  clear h
  induction n generalizing k l a e with
  | zero => exact hn.elim
  | succ n ih =>
    rcases hn with ⟨h1, rfl, rfl, rfl⟩ | ⟨h1, h2, rfl, rfl, rfl⟩ | ⟨h1, h2, m, rfl, rfl, rfl, hm⟩ | ⟨h1, h2, rfl, he, hm⟩
    · exact bad k h1
    · exact fin k h1 h2
    · exact more k m h1 h2 ⟨n, hm⟩ (ih hm)
    · exact far k a e h1 h2 ⟨n, hm⟩ he (ih hm)
/-- One step. -/
theorem Lx.step {s : ByteArray} {k : Nat} {l : List Tk} {a e : Int} (h : Lx s k l a e) : LxS s (Lx s) k l a e :=
  Lx.all (LxS s (Lx s)) (fun k h1 => .inl ⟨h1, rfl, rfl, rfl⟩) (fun k h1 h2 => .inr (.inl ⟨h1, h2, rfl, rfl, rfl⟩))
    (fun k l h1 h2 hx _ => .inr (.inr (.inl ⟨h1, h2, l, rfl, rfl, rfl, hx⟩))) (fun k a e h1 h2 hx he _ => .inr (.inr (.inr ⟨h1, h2, rfl, he, hx⟩))) h

/-- What Lex tells of a text. -/
def LexR (s : ByteArray) (l : List Tk) (a e : Int) : Prop := (400 < s.size ∧ l = [] ∧ a = 0 ∧ e = 7) ∨ (s.size ≤ 400 ∧ Lx s 0 l a e)

theorem Lx.det {s : ByteArray} {k : Nat} {l m : List Tk} {a b e f : Int} (h : Lx s k l a e) (h' : Lx s k m b f) : l = m ∧ a = b ∧ e = f := by
  refine Lx.all (fun k l a e => ∀ m b f, Lx s k m b f → l = m ∧ a = b ∧ e = f) ?_ ?_ ?_ ?_ h m b f h'
  · intro k h1 m b f g
    rcases g.step with ⟨g1, rfl, rfl, rfl⟩ | ⟨g1, _⟩ | ⟨g1, _⟩ | ⟨g1, _⟩
    · exact ⟨rfl, rfl, rfl⟩
    · exact absurd g1 h1
    · exact absurd g1 h1
    · exact absurd g1 h1
  · intro k h1 h2 m b f g
    rcases g.step with ⟨g1, _⟩ | ⟨_, _, rfl, rfl, rfl⟩ | ⟨_, g2, _⟩ | ⟨_, g2, _⟩
    · exact absurd h1 g1
    · exact ⟨rfl, rfl, rfl⟩
    · exact absurd h2 g2
    · exact absurd h2 g2
  · intro k l h1 h2 h3 ih m b f g
    rcases g.step with ⟨g1, _⟩ | ⟨_, g2, _⟩ | ⟨_, _, n, rfl, rfl, rfl, g3⟩ | ⟨_, _, rfl, g4, g3⟩
    · exact absurd h1 g1
    · exact absurd g2 h2
    · obtain ⟨rfl, _, _⟩ := ih _ _ _ g3
      exact ⟨rfl, rfl, rfl⟩
    · exact absurd (ih _ _ _ g3).2.2.symm g4
  · intro k a e h1 h2 h3 h4 ih m b f g
    rcases g.step with ⟨g1, _⟩ | ⟨_, g2, _⟩ | ⟨_, _, n, rfl, rfl, rfl, g3⟩ | ⟨_, _, rfl, g4, g3⟩
    · exact absurd h1 g1
    · exact absurd g2 h2
    · exact absurd (ih _ _ _ g3).2.2 h4
    · obtain ⟨_, rfl, rfl⟩ := ih _ _ _ g3
      exact ⟨rfl, rfl, rfl⟩
theorem LexR.det {s : ByteArray} {l m : List Tk} {a b e f : Int} (h : LexR s l a e) (h' : LexR s m b f) : l = m ∧ a = b ∧ e = f := by
  rcases h with ⟨h0, rfl, rfl, rfl⟩ | ⟨h0, h⟩ <;> rcases h' with ⟨g0, rfl, rfl, rfl⟩ | ⟨g0, h'⟩
  · exact ⟨rfl, rfl, rfl⟩
  · omega
  · omega
  · exact h.det h'

theorem quo_le : ∀ (n : Nat) (l : List UInt8), l.length ≤ n → (quo l).2.1 ≤ l.length ∧ (quo l).1.length ≤ (quo l).2.1 ∧ ((quo l).2.2 = true → 0 < (quo l).2.1) := by
  intro n
  induction n with
  | zero =>
    intro l h
    obtain rfl : l = [] := List.eq_nil_of_length_eq_zero (by omega)
    simp [quo]
  | succ n ih =>
    intro l h
    match l, h with
    | [], _ => simp [quo]
    | [x], _ =>
      rw [quo]
      split
      · simp
      · split <;> simp
    | x :: y :: r, h =>
      have h1 := ih r (by simp at h; omega)
      have h2 := ih (y :: r) (by simpa using h)
      rw [quo]
      split
      · split
        · simp; omega
        · simp
      · split
        · simp at h2 ⊢; omega
        · simp
theorem quo_end (l : List UInt8) : (quo l).2.1 ≤ l.length := (quo_le _ l (Nat.le_refl _)).1
theorem sgn_le {s : ByteArray} {j : Nat} : j + sgn s j ≤ s.size ∨ sgn s j = 0 := by
  unfold sgn
  split
  · rename_i h
    have := got_lt h
    split
    · rename_i h2; have := got_lt h2; omega
    · omega
  · split
    · rename_i h
      have := got_lt h
      split
      · rename_i h2; have := got_lt h2; omega
      · omega
    · split
      · rename_i h; have := got_lt h; omega
      · exact .inr rfl

/-- A word is no end, and takes a byte at least. -/
theorem oneW_on {s : ByteArray} {j : Nat} (hj : j < s.size) (h : (oneW s j).er = 0) : (oneW s j).tk.1 ≠ 6 ∧ j < (oneW s j).nx ∧ (oneW s j).nx ≤ s.size := by
  unfold oneW at *
  split at h
  · rename_i hg
    rw [if_pos hg]
    unfold nameW at *
    split at h
    · simp [flt] at h
    · rename_i h2
      rw [if_neg h2]
      refine ⟨?_, ?_, till_le (by omega)⟩
      · show (if _ then (2 : Int) else 1) ≠ 6
        split <;> omega
      · exact till_lt (by rw [got_at hj, isN, ← got_at (p := isL) hj, hg]; rfl)
  · rename_i hg
    rw [if_neg hg]
    split at h
    · rename_i hd
      rw [if_pos hd]
      unfold numW at *
      split at h
      · simp [flt] at h
      · rename_i h2
        rw [if_neg h2]
        split at h
        · rename_i h3
          rw [if_pos h3]
          exact ⟨by simp [wrd], till_lt hd, till_le (by omega)⟩
        · simp [flt] at h
    · rename_i hd
      rw [if_neg hd]
      split at h
      · rename_i hq
        rw [if_pos hq]
        unfold quoW at *
        split at h
        · rename_i h2
          rw [if_pos h2]
          split at h
          · simp [flt] at h
          · rename_i h3
            rw [if_neg h3]
            have := quo_end ((bs s).drop (j + 1))
            rw [List.length_drop, bs_length] at this
            exact ⟨by simp [wrd], by simp [wrd]; omega, by simp [wrd]; omega⟩
        · simp [flt] at h
      · rename_i hq
        rw [if_neg hq]
        unfold sgnW at *
        split at h
        · simp [flt] at h
        · rename_i h2
          rw [if_neg h2]
          have := sgn_le (s := s) (j := j)
          exact ⟨by simp [wrd], by simp [wrd]; omega, by simp [wrd]; omega⟩
theorem wordW_on {s : ByteArray} {k : Nat} (hk : k ≤ s.size) (h : (wordW s k).er = 0) : ((wordW s k).tk.1 = 6 ∧ till (isB 32) s k = s.size) ∨ ((wordW s k).tk.1 ≠ 6 ∧ k < (wordW s k).nx ∧ (wordW s k).nx ≤ s.size) := by
  have h1 := till_ge (isB 32) s k
  have h2 := till_le (p := isB 32) hk
  unfold wordW endW at *
  split at h
  · rename_i he
    rw [if_pos he]
    exact .inl ⟨rfl, he⟩
  · rename_i he
    rw [if_neg he]
    have := oneW_on (s := s) (j := till (isB 32) s k) (by omega) h
    exact .inr ⟨this.1, by omega, this.2.2⟩

end Go.Proofs.YtnboooaockgoiaaGreatDoor
namespace Go.Proofs.YtnboooaockgoiaaGreatDoor
open Go.RowKit
set_option linter.unusedVariables false

/-- The value v is a slice of bytes of the call's own (its block from B on), and reads as l. -/
def Own (B : Nat) (w : World) (v : Value) (l : List Int) : Prop := w.ownsRow B 5 1 v l.length (l.map (Value.int .u8))
/-- What is appended reads as l. -/
def SrcB (w : World) (tx : TypeId) (x : Value) (l : List Int) : Prop := Src Tryz.prog 1 tx x l.length (l.map (Value.int .u8)) w

theorem Own.nil (B : Nat) (w : World) : Own B w (.slice none 0 0) [] := World.ownsRow_nil w B 5 1
theorem Own.rd {B : Nat} {w : World} {v : Value} {l : List Int} (h : Own B w v l) : ∃ ao c, v = .slice ao l.length c ∧ Rd .u8 w ao l.length c l := Rd.of_owns h
theorem Own.later {B : Nat} {w w' : World} {v : Value} {l : List Int} (h : Own B w v l) (hb : Below w.heap.size w w') : Own B w' v l := by
  refine ⟨h.1, ?_⟩
  rcases h.2 with k | ⟨g, cap, cur, hv, hg, hh, r⟩
  · exact .inl k
  · exact .inr ⟨g, cap, cur, hv, hg, by rw [hb.block g (Array.getElem?_eq_some_iff.1 hh).1]; exact hh, r⟩

theorem SrcB.ofText (w : World) (s : ByteArray) : SrcB w 9 (.string s) (nums s) := by
  have h := Src.ofString (P := Tryz.prog) w (tx := 9) Tryz.underlying9 s
  have e : byteCells s = (nums s).map (Value.int .u8) := by simp [byteCells, nums]
  rw [e, ← nums_len s] at h
  exact h
end Go.Proofs.YtnboooaockgoiaaGreatDoor
namespace Go.Proofs.YtnboooaockgoiaaGreatDoor
open Go.RowKit
set_option linter.unusedVariables false

/-- But for block g all that lay in w lies in w' as it did. -/
structure But (g : Nat) (w w' : World) : Prop where
  os : w'.os = w.os
  tape : w'.tape = w.tape
  output : w'.output = w.output
  size : w.heap.size ≤ w'.heap.size
  block : ∀ k, k < w.heap.size → k ≠ g → w'.heap[k]? = w.heap[k]?
theorem But.refl (g : Nat) (w : World) : But g w w := ⟨rfl, rfl, rfl, Nat.le_refl _, fun _ _ _ => rfl⟩
theorem But.trans {g : Nat} {a b c : World} (h : But g a b) (k : But g b c) : But g a c :=
  ⟨k.os.trans h.os, k.tape.trans h.tape, k.output.trans h.output, Nat.le_trans h.size k.size, fun i hi hg => (k.block i (Nat.lt_of_lt_of_le hi h.size) hg).trans (h.block i hi hg)⟩
theorem But.of {g : Nat} {w w' : World} (h : Below w.heap.size w w') : But g w w' := ⟨h.os, h.tape, h.output, h.size, fun k hk _ => h.block k hk⟩
theorem But.set (g o : Nat) (w : World) (v : Value) : But g w (w.setCell ⟨g, o, none⟩ v) := ⟨rfl, rfl, rfl, by simp [World.setCell], fun k _ hk => Below.heap_setCell _ _ _ _ hk⟩
theorem But.below {g B : Nat} {a w w' : World} (h : Below B a w) (k : But g w w') (hB : B ≤ g) (hw : B ≤ w.heap.size) : Below B a w' :=
  h.trans ⟨k.os, k.tape, k.output, k.size, fun i hi => k.block i (by omega) (by omega)⟩
theorem But.cell {g : Nat} {w w' : World} (h : But g w w') {a : Addr} {v : Value} (hc : w.cell? a = some v) (hg : a.block ≠ g) : w'.cell? a = some v :=
  (World.cell?_of_block (h.block a.block (World.block_lt_of_cell? _ _ hc) hg)).trans hc
theorem But.rdrew {g : Nat} {w w' : World} (h : But g w w') (n : Nat) : But g w (w'.drewN n) := ⟨h.os, h.tape, h.output, h.size, h.block⟩

/-- The document's own. -/
theorem refLetter_any (c : UInt8) (w : World) : Calls Tryz.prog 97 #[.int .u8 (c.toNat : Int)] w fun e w' => e = .returned (.bool (isL c)) ∧ w' = w := by
  by_cases h1 : 97 ≤ c.toNat
  · have g1 : decide ((97 : Int) ≤ (c.toNat : Int)) = true := by simp; omega
    by_cases h2 : c.toNat ≤ 122
    · have g2 : decide ((c.toNat : Int) ≤ 122) = true := by simp; omega
      have e : isL c = true := by simp [isL, h1, h2]
      rw [e]
      go_enter Tryz.func97, Tryz.ntmps97
      go_wp2
      go_ret
      exact ⟨rfl, rfl⟩
    · have g2 : decide ((c.toNat : Int) ≤ 122) = false := by simp; omega
      have g3 : ((c.toNat : Int) == 95) = false := by simp; omega
      have e : isL c = false := by simp [isL]; omega
      rw [e]
      go_enter Tryz.func97, Tryz.ntmps97
      go_wp2
      go_ret
      exact ⟨rfl, rfl⟩
  · have g1 : decide ((97 : Int) ≤ (c.toNat : Int)) = false := by simp; omega
    have e : isL c = ((c.toNat : Int) == 95) := by simp [isL, h1]; rw [Bool.eq_iff_iff]; simp; omega
    rw [e]
    go_enter Tryz.func97, Tryz.ntmps97
    go_wp2
    go_ret
    exact ⟨rfl, rfl⟩
theorem refDigit_any (c : UInt8) (w : World) : Calls Tryz.prog 98 #[.int .u8 (c.toNat : Int)] w fun e w' => e = .returned (.bool (isDig c)) ∧ w' = w := by
  by_cases h1 : 48 ≤ c.toNat
  · have g1 : decide ((48 : Int) ≤ (c.toNat : Int)) = true := by simp; omega
    have e : isDig c = decide ((c.toNat : Int) ≤ 57) := by simp [isDig, h1]; omega
    rw [e]
    go_enter Tryz.func98, Tryz.ntmps98
    go_wp2
    go_ret
    exact ⟨rfl, rfl⟩
  · have g1 : decide ((48 : Int) ≤ (c.toNat : Int)) = false := by simp; omega
    have e : isDig c = false := by simp [isDig]; omega
    rw [e]
    go_enter Tryz.func98, Tryz.ntmps98
    go_wp2
    go_ret
    exact ⟨rfl, rfl⟩

end Go.Proofs.YtnboooaockgoiaaGreatDoor
namespace Go.Proofs.YtnboooaockgoiaaGreatDoor
open Go.RowKit
set_option linter.unusedVariables false

/-- A step on. -/
theorem Below.on {a w w' : World} (h : Below a.heap.size a w) (k : Below w.heap.size w w') : Below a.heap.size a w' := h.trans (k.mono h.size)
/-- Are two texts the same? -/
def eqS (s t : ByteArray) : Bool := decide (s = t)
theorem same_str (s t : ByteArray) : (s.toList == t.toList) = decide (s = t) := by
  rw [Bool.eq_iff_iff]
  simp only [beq_iff_eq, decide_eq_true_eq]
  constructor
  · intro h
    rw [ByteArray.toList_eq, ByteArray.toList_eq] at h
    exact ByteArray.ext (Array.toList_inj.1 h)
  · intro h; rw [h]
theorem run_eqS (s t : ByteArray) (w : World) : (binOp .eql 9 (.string s) (.string t)).run Tryz.prog w = .ok (.bool (eqS s t)) w := by
  have h := same_str s t
  rw [eqS]
  generalize decide (s = t) = B at *
  go_simp

end Go.Proofs.YtnboooaockgoiaaGreatDoor
namespace Go.Proofs.YtnboooaockgoiaaGreatDoor
open Go.RowKit
set_option linter.unusedVariables false

theorem extract_size (s : ByteArray) (a b : Nat) : (s.extract a b).size ≤ s.size := by rw [ByteArray.size_extract]; omega
theorem cell_new (w : World) (arr : Array Value) (e : TypeId) (mk : Nat × Nat) (j : Nat) : (w.alloc (.cells arr e mk)).cell? ⟨w.heap.size, j, none⟩ = arr[j]? := by
  have : (w.alloc (.cells arr e mk)).heap[w.heap.size]? = some (.cells arr e mk) := heap_alloc_new w _
  unfold World.cell?
  rw [this]
  rfl
/-- The slice of the words: each is a cell of block b. -/
theorem words_any (w : World) : Calls Tryz.prog 112 #[] w fun e w' => ∃ b, e = .returned (.slice (some ⟨b, 0, none⟩) 37 37) ∧ (∀ i, i < 37 → w'.cell? ⟨b, i, none⟩ = some (.string (wl.getD i ⟨#[]⟩))) ∧ Below w.heap.size w w' := by
  go_enter Tryz.func112, Tryz.ntmps112
  go_wp2
  go_ret
  refine ⟨w.heap.size, rfl, fun i hi => ?_, (Below.refl _ _).alloc (Nat.le_refl _) _⟩
  refine (cell_new w (wl.map Value.string).toArray 9 (0, 0) i).trans ?_
  have hl : i < wl.length := hi
  rw [List.getElem?_toArray, List.getElem?_map, List.getElem?_eq_getElem hl, List.getD, List.getElem?_eq_getElem hl]
  rfl

theorem any_take {l : List ByteArray} {k : Nat} {s d : ByteArray} (hk : k < l.length) (h : (l.take k).any (fun t => decide (t = s)) = false) (hx : decide (l.getD k d = s) = false) : (l.take (k + 1)).any (fun t => decide (t = s)) = false := by
  rw [List.take_add_one, List.any_append, h, List.getElem?_eq_getElem hk]
  rw [List.getD, List.getElem?_eq_getElem hk] at hx
  simpa using hx
theorem any_hit {l : List ByteArray} {k : Nat} {s d : ByteArray} (hk : k < l.length) (hx : decide (l.getD k d = s) = true) : (l.any fun t => decide (t = s)) = true := by
  rw [List.getD, List.getElem?_eq_getElem hk] at hx
  exact List.any_eq_true.2 ⟨_, List.getElem_mem hk, hx⟩

set_option maxRecDepth 100000 in
theorem word_any (s : ByteArray) (w : World) : Calls Tryz.prog 99 #[.string s] w fun e w' => e = .returned (.bool (isW s)) ∧ Below w.heap.size w w' := by
  have H : Hid _ := words_any w
  go_enter Tryz.func99, Tryz.ntmps99
  go_wp2_with fail
  refine Calls.mono H.out ?_
  rintro e w1 ⟨b, rfl, hc, hb⟩
  have HC : Hid _ := hc
  clear H hc
  go_wp2
  go_loopw [4] (fun i wr => ∃ k : Nat, k ≤ 37 ∧ i = .int .i64 k ∧ Hid ((wl.take k).any (fun t => decide (t = s)) = false) ∧ wr = w1) (fun i _ => 37 - (intOf i).toNat)
  case atStart => exact ⟨0, by omega, rfl, rfl, rfl⟩
  case round =>
    obtain ⟨k, hk, rfl, HD, rfl⟩ := hrel
    by_cases hlt : k < 37
    · have c0 := HC.out k hlt
      have hl : k < wl.length := hlt
      have hrun := run_eqS (wl.getD k ⟨#[]⟩) s
      have hs := same_str (wl.getD k ⟨#[]⟩) s
      cases hx : decide (wl.getD k ⟨#[]⟩ = s) with
      | true =>
        have HN : Hid (isW s = true) := any_hit hl hx
        rw [hx] at hs
        clear HD hx hl hrun
        generalize wl.getD k ⟨#[]⟩ = t at *
        go_wp2
        go_ret
        exact ⟨ret_bool HN.out.symm, hb⟩
      | false =>
        have HN : Hid _ := any_take hl HD.out hx
        rw [hx] at hs
        clear HD hx hl hrun
        generalize wl.getD k ⟨#[]⟩ = t at *
        go_wp2
        go_roundw
        case rel => exact ⟨k + 1, by omega, by go_num, HN, trivial⟩
        case measure => simp only [intOf]; omega
    · have HN : Hid (isW s = false) := by
        have := HD.out
        rwa [List.take_of_length_le (by show 37 ≤ k; omega)] at this
      obtain rfl : k = 37 := by omega
      clear HD
      go_wp2
      go_ret
      exact ⟨ret_bool HN.out.symm, hb⟩

end Go.Proofs.YtnboooaockgoiaaGreatDoor
