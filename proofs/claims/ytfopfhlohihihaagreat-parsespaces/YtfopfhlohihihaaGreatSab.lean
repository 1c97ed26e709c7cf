import Derived.Test.YtfopfhlohihihaaGreatSaa
import Derived.Lib.Bytealg
import Derived.Shelf.LaysM
import Derived.Shelf.Strconv.Clone
import Derived.Deep.RegionHeld3
namespace Go.Proofs.YtfopfhlohihihaaGreat
open Go.RowKit
set_option linter.unusedVariables false
set_option linter.unusedSimpArgs false
def isL (x : UInt8) : Bool := (decide (97 ≤ x.toNat) && decide (x.toNat ≤ 122)) || decide (x.toNat = 95)
def isN (x : UInt8) : Bool := isL x || isDig x
def isT (x : UInt8) : Bool := decide (32 ≤ x.toNat) && decide (x.toNat ≤ 126)
def isB (n : Nat) (x : UInt8) : Bool := decide (x.toNat = n)
def is2 (a b : Nat) (x : UInt8) : Bool := decide (x.toNat = a) || decide (x.toNat = b)
def isO (x : UInt8) : Bool := [40,41,44,46,61,43,45,42].contains x
def got (p : UInt8 → Bool) (s : ByteArray) (k : Nat) : Bool := ((bs s)[k]?).any p
def till (p : UInt8 → Bool) (s : ByteArray) (k : Nat) : Nat := k + (((bs s).drop k).takeWhile p).length
theorem got_at {p : UInt8 → Bool} {s : ByteArray} {k : Nat} (h : k < s.size) : got p s k = p s[k] := by rw [got,bs_at s k h]; rfl
theorem got_end {p : UInt8 → Bool} {s : ByteArray} {k : Nat} (h : s.size ≤ k) : got p s k = false := by
 rw [got,List.getElem?_eq_none (by rw [bs_length]; exact h)]; rfl
theorem got_lt {p : UInt8 → Bool} {s : ByteArray} {k : Nat} (h : got p s k = true) : k < s.size := by
 cases Nat.lt_or_ge k s.size with
 | inl h' => exact h'
 | inr h' => rw [got_end h'] at h; cases h
theorem drop_at {s : ByteArray} {k : Nat} (h : k < s.size) : (bs s).drop k = s[k] :: (bs s).drop (k + 1) := by
 have h' : k < (bs s).length := by rw [bs_length]; exact h
 rw [List.drop_eq_getElem_cons h']
 rfl
theorem till_step {p : UInt8 → Bool} {s : ByteArray} {k : Nat} (h : got p s k = true) : till p s k = till p s (k + 1) := by
 have hl := got_lt h
 rw [got_at hl] at h
 rw [till,till,drop_at hl,List.takeWhile_cons,if_pos h,List.length_cons]
 omega
theorem till_stop {p : UInt8 → Bool} {s : ByteArray} {k : Nat} (h : got p s k = false) : till p s k = k := by
 cases Nat.lt_or_ge k s.size with
 | inl hl =>
  rw [got_at hl] at h
  rw [till,drop_at hl,List.takeWhile_cons,h]
  rfl
 | inr hl => rw [till,List.drop_of_length_le (by rw [bs_length]; exact hl)]; rfl
theorem till_ge (p : UInt8 → Bool) (s : ByteArray) (k : Nat) : k ≤ till p s k := by rw [till]; omega
theorem till_le {p : UInt8 → Bool} {s : ByteArray} {k : Nat} (h : k ≤ s.size) : till p s k ≤ s.size := by
 have h1 := (List.takeWhile_prefix p (l := (bs s).drop k)).length_le
 rw [List.length_drop,bs_length] at h1
 rw [till]; omega
theorem till_lt {p : UInt8 → Bool} {s : ByteArray} {k : Nat} (h : got p s k = true) : k < till p s k := by
 rw [till_step h]
 exact till_ge p s (k + 1)
abbrev Tk := Int × ByteArray × Int × Int
structure Wr where
 tk : Tk
 nx : Nat
 pl : Int
 er : Int
def flt (k : Nat) (e : Int) : Wr := ⟨(0,⟨#[]⟩,0,0),0,k,e⟩
def wrd (t : Tk) (n : Nat) : Wr := ⟨t,n,0,0⟩
def wl : List ByteArray := [⟨#[97,110,100]⟩,⟨#[97,115]⟩,⟨#[98,101,103,105,110]⟩,⟨#[98,121]⟩,⟨#[99,97,108,108]⟩,⟨#[99,108,111,115,117,114,101]⟩,⟨#[99,111,109,109,105,116]⟩,⟨#[99,111,117,110,116]⟩,⟨#[99,114,101,97,116,101]⟩,⟨#[100,101,108,101,116,101]⟩,⟨#[100,101,115,99]⟩,⟨#[102,114,111,109]⟩,⟨#[103,114,111,117,112]⟩,⟨#[105,110,100,101,120]⟩,⟨#[105,110,115,101,114,116]⟩,⟨#[105,110,116]⟩,⟨#[105,110,116,111]⟩,⟨#[106,111,105,110]⟩,⟨#[109,97,120]⟩,⟨#[109,105,110]⟩,⟨#[110,111,116]⟩,⟨#[111,110]⟩,⟨#[111,114]⟩,⟨#[111,114,100,101,114]⟩,⟨#[114,97,105,115,101]⟩,⟨#[114,101,102]⟩,⟨#[114,111,108,108,98,97,99,107]⟩,⟨#[115,101,108,101,99,116]⟩,⟨#[115,101,116]⟩,⟨#[115,116,114,105,112]⟩,⟨#[115,117,109]⟩,⟨#[116,97,98,108,101]⟩,⟨#[116,101,120,116]⟩,⟨#[117,112,100,97,116,101]⟩,⟨#[118,97,108,117,101,115]⟩,⟨#[118,105,101,119]⟩,⟨#[119,104,101,114,101]⟩]
def isW (s : ByteArray) : Bool := wl.any fun t => decide (t = s)
theorem isW_iff {s : ByteArray} : isW s = true ↔ s ∈ wl := by
 rw [isW,List.any_eq_true]
 constructor
 ·rintro ⟨t,ht,h⟩; rw [decide_eq_true_iff] at h; subst h; exact ht
 ·exact fun h => ⟨s,h,by simp⟩
theorem wl_short : ∀ s ∈ wl,s.size ≤ 8 := by decide
def nameW (s : ByteArray) (j : Nat) : Wr :=
 if 16 < till isN s j - j then flt j 7
 else wrd (if isW (s.extract j (till isN s j)) then 2 else 1,s.extract j (till isN s j),0,j) (till isN s j)
def numV (s : ByteArray) (j k : Nat) : Nat := val (bs (s.extract j k))
def numW (s : ByteArray) (j : Nat) : Wr :=
 if got isL s (till isDig s j) then flt (till isDig s j) 4
 else if Fits (numV s j (till isDig s j)) then wrd (3,⟨#[]⟩,numV s j (till isDig s j),j) (till isDig s j)
 else flt j 8
def quo : List UInt8 → List UInt8 × Nat × Bool
 | [] => ([],0,false)
 | [x] => if isB 39 x then ([],1,true) else if isT x then ([x],1,false) else ([],0,false)
 | x :: y :: r =>
  if isB 39 x then (if isB 39 y then (x :: (quo r).1,(quo r).2.1 + 2,(quo r).2.2) else ([],1,true))
  else if isT x then (x :: (quo (y :: r)).1,(quo (y :: r)).2.1 + 1,(quo (y :: r)).2.2) else ([],0,false)
def quoW (s : ByteArray) (j : Nat) : Wr :=
 if (quo ((bs s).drop (j + 1))).2.2 then
  if 30 < (quo ((bs s).drop (j + 1))).1.length then flt j 7
  else wrd (4,⟨(quo ((bs s).drop (j + 1))).1.toArray⟩,0,j) (j + 1 + (quo ((bs s).drop (j + 1))).2.1)
 else flt (j + 1 + (quo ((bs s).drop (j + 1))).2.1) 4
def sgn (s : ByteArray) (j : Nat) : Nat :=
 if got (isB 60) s j then (if got (is2 61 62) s (j + 1) then 2 else 1)
 else if got (isB 62) s j then (if got (isB 61) s (j + 1) then 2 else 1)
 else if got isO s j then 1 else 0
def sgnW (s : ByteArray) (j : Nat) : Wr :=
 if sgn s j = 0 then flt j 4 else wrd (5,s.extract j (j + sgn s j),0,j) (j + sgn s j)
def oneW (s : ByteArray) (j : Nat) : Wr :=
 if got isL s j then nameW s j else if got isDig s j then numW s j else if got (isB 39) s j then quoW s j else sgnW s j
def endW (s : ByteArray) (j : Nat) : Wr := if j = s.size then wrd (6,⟨#[]⟩,0,j) j else oneW s j
def wordW (s : ByteArray) (k : Nat) : Wr := endW s (till (isB 32) s k)
def LxS (s : ByteArray) (R : Nat → List Tk → Int → Int → Prop) (k : Nat) (l : List Tk) (a e : Int) : Prop :=
 ((wordW s k).er ≠ 0 ∧ l = [] ∧ a = (wordW s k).pl ∧ e = (wordW s k).er) ∨
 ((wordW s k).er = 0 ∧ (wordW s k).tk.1 = 6 ∧ l = [(wordW s k).tk] ∧ a = 0 ∧ e = 0) ∨
 ((wordW s k).er = 0 ∧ (wordW s k).tk.1 ≠ 6 ∧ ∃ m,l = (wordW s k).tk :: m ∧ a = 0 ∧ e = 0 ∧ R (wordW s k).nx m 0 0) ∨
 ((wordW s k).er = 0 ∧ (wordW s k).tk.1 ≠ 6 ∧ l = [] ∧ e ≠ 0 ∧ R (wordW s k).nx [] a e)
def LxN (s : ByteArray) : Nat → Nat → List Tk → Int → Int → Prop
 | 0 => fun _ _ _ _ => False
 | n + 1 => LxS s (LxN s n)
structure Lx (s : ByteArray) (k : Nat) (l : List Tk) (a e : Int) : Prop where
 steps : ∃ n,LxN s n k l a e
theorem Lx.bad {s : ByteArray} (k : Nat) (h : (wordW s k).er ≠ 0) : Lx s k [] (wordW s k).pl (wordW s k).er := ⟨1,.inl ⟨h,rfl,rfl,rfl⟩⟩
theorem Lx.fin {s : ByteArray} (k : Nat) (h : (wordW s k).er = 0) (h6 : (wordW s k).tk.1 = 6) : Lx s k [(wordW s k).tk] 0 0 := ⟨1,.inr (.inl ⟨h,h6,rfl,rfl,rfl⟩)⟩
theorem Lx.more {s : ByteArray} (k : Nat) (l : List Tk) (h : (wordW s k).er = 0) (h6 : (wordW s k).tk.1 ≠ 6) (hx : Lx s (wordW s k).nx l 0 0) : Lx s k ((wordW s k).tk :: l) 0 0 := by
 obtain ⟨n,hn⟩ := hx.steps
 exact ⟨n + 1,.inr (.inr (.inl ⟨h,h6,l,rfl,rfl,rfl,hn⟩))⟩
theorem Lx.far {s : ByteArray} (k : Nat) (a e : Int) (h : (wordW s k).er = 0) (h6 : (wordW s k).tk.1 ≠ 6) (hx : Lx s (wordW s k).nx [] a e) (he : e ≠ 0) : Lx s k [] a e := by
 obtain ⟨n,hn⟩ := hx.steps
 exact ⟨n + 1,.inr (.inr (.inr ⟨h,h6,rfl,he,hn⟩))⟩
theorem Lx.all {s : ByteArray} (M : Nat → List Tk → Int → Int → Prop)
  (bad : ∀ k,(wordW s k).er ≠ 0 → M k [] (wordW s k).pl (wordW s k).er)
  (fin : ∀ k,(wordW s k).er = 0 → (wordW s k).tk.1 = 6 → M k [(wordW s k).tk] 0 0)
  (more : ∀ k l,(wordW s k).er = 0 → (wordW s k).tk.1 ≠ 6 → Lx s (wordW s k).nx l 0 0 → M (wordW s k).nx l 0 0 → M k ((wordW s k).tk :: l) 0 0)
  (far : ∀ k a e,(wordW s k).er = 0 → (wordW s k).tk.1 ≠ 6 → Lx s (wordW s k).nx [] a e → e ≠ 0 → M (wordW s k).nx [] a e → M k [] a e)
  {k : Nat} {l : List Tk} {a e : Int} (h : Lx s k l a e) : M k l a e := by
 obtain ⟨n,hn⟩ := h.steps
 clear h
 induction n generalizing k l a e with
 | zero => exact hn.elim
 | succ n ih =>
  rcases hn with ⟨h1,rfl,rfl,rfl⟩ | ⟨h1,h2,rfl,rfl,rfl⟩ | ⟨h1,h2,m,rfl,rfl,rfl,hm⟩ | ⟨h1,h2,rfl,he,hm⟩
  ·exact bad k h1
  ·exact fin k h1 h2
  ·exact more k m h1 h2 ⟨n,hm⟩ (ih hm)
  ·exact far k a e h1 h2 ⟨n,hm⟩ he (ih hm)
theorem Lx.step {s : ByteArray} {k : Nat} {l : List Tk} {a e : Int} (h : Lx s k l a e) : LxS s (Lx s) k l a e :=
 Lx.all (LxS s (Lx s)) (fun k h1 => .inl ⟨h1,rfl,rfl,rfl⟩) (fun k h1 h2 => .inr (.inl ⟨h1,h2,rfl,rfl,rfl⟩))
  (fun k l h1 h2 hx _ => .inr (.inr (.inl ⟨h1,h2,l,rfl,rfl,rfl,hx⟩))) (fun k a e h1 h2 hx he _ => .inr (.inr (.inr ⟨h1,h2,rfl,he,hx⟩))) h
def LexR (s : ByteArray) (l : List Tk) (a e : Int) : Prop := (400 < s.size ∧ l = [] ∧ a = 0 ∧ e = 7) ∨ (s.size ≤ 400 ∧ Lx s 0 l a e)
theorem Lx.det {s : ByteArray} {k : Nat} {l m : List Tk} {a b e f : Int} (h : Lx s k l a e) (h' : Lx s k m b f) : l = m ∧ a = b ∧ e = f := by
 refine Lx.all (fun k l a e => ∀ m b f,Lx s k m b f → l = m ∧ a = b ∧ e = f) ?_ ?_ ?_ ?_ h m b f h'
 ·intro k h1 m b f g
  rcases g.step with ⟨g1,rfl,rfl,rfl⟩ | ⟨g1,_⟩ | ⟨g1,_⟩ | ⟨g1,_⟩
  ·exact ⟨rfl,rfl,rfl⟩
  ·exact absurd g1 h1
  ·exact absurd g1 h1
  ·exact absurd g1 h1
 ·intro k h1 h2 m b f g
  rcases g.step with ⟨g1,_⟩ | ⟨_,_,rfl,rfl,rfl⟩ | ⟨_,g2,_⟩ | ⟨_,g2,_⟩
  ·exact absurd h1 g1
  ·exact ⟨rfl,rfl,rfl⟩
  ·exact absurd h2 g2
  ·exact absurd h2 g2
 ·intro k l h1 h2 h3 ih m b f g
  rcases g.step with ⟨g1,_⟩ | ⟨_,g2,_⟩ | ⟨_,_,n,rfl,rfl,rfl,g3⟩ | ⟨_,_,rfl,g4,g3⟩
  ·exact absurd h1 g1
  ·exact absurd g2 h2
  ·obtain ⟨rfl,_,_⟩ := ih _ _ _ g3
   exact ⟨rfl,rfl,rfl⟩
  ·exact absurd (ih _ _ _ g3).2.2.symm g4
 ·intro k a e h1 h2 h3 h4 ih m b f g
  rcases g.step with ⟨g1,_⟩ | ⟨_,g2,_⟩ | ⟨_,_,n,rfl,rfl,rfl,g3⟩ | ⟨_,_,rfl,g4,g3⟩
  ·exact absurd h1 g1
  ·exact absurd g2 h2
  ·exact absurd (ih _ _ _ g3).2.2 h4
  ·obtain ⟨_,rfl,rfl⟩ := ih _ _ _ g3
   exact ⟨rfl,rfl,rfl⟩
theorem LexR.det {s : ByteArray} {l m : List Tk} {a b e f : Int} (h : LexR s l a e) (h' : LexR s m b f) : l = m ∧ a = b ∧ e = f := by
 rcases h with ⟨h0,rfl,rfl,rfl⟩ | ⟨h0,h⟩ <;> rcases h' with ⟨g0,rfl,rfl,rfl⟩ | ⟨g0,h'⟩
 ·exact ⟨rfl,rfl,rfl⟩
 ·omega
 ·omega
 ·exact h.det h'
theorem quo_le : ∀ (n : Nat) (l : List UInt8),l.length ≤ n → (quo l).2.1 ≤ l.length ∧ (quo l).1.length ≤ (quo l).2.1 ∧ ((quo l).2.2 = true → 0 < (quo l).2.1) := by
 intro n
 induction n with
 | zero =>
  intro l h
  obtain rfl : l = [] := List.eq_nil_of_length_eq_zero (by omega)
  simp [quo]
 | succ n ih =>
  intro l h
  match l,h with
  | [],_ => simp [quo]
  | [x],_ =>
   rw [quo]
   split
   ·simp
   ·split <;> simp
  | x :: y :: r,h =>
   have h1 := ih r (by simp at h; omega)
   have h2 := ih (y :: r) (by simpa using h)
   rw [quo]
   split
   ·split
    ·simp; omega
    ·simp
   ·split
    ·simp at h2 ⊢; omega
    ·simp
theorem quo_end (l : List UInt8) : (quo l).2.1 ≤ l.length := (quo_le _ l (Nat.le_refl _)).1
theorem sgn_le {s : ByteArray} {j : Nat} : j + sgn s j ≤ s.size ∨ sgn s j = 0 := by
 unfold sgn
 split
 ·rename_i h
  have := got_lt h
  split
  ·rename_i h2; have := got_lt h2; omega
  ·omega
 ·split
  ·rename_i h
   have := got_lt h
   split
   ·rename_i h2; have := got_lt h2; omega
   ·omega
  ·split
   ·rename_i h; have := got_lt h; omega
   ·exact .inr rfl
theorem oneW_on {s : ByteArray} {j : Nat} (hj : j < s.size) (h : (oneW s j).er = 0) : (oneW s j).tk.1 ≠ 6 ∧ j < (oneW s j).nx ∧ (oneW s j).nx ≤ s.size := by
 unfold oneW at *
 split at h
 ·rename_i hg
  rw [if_pos hg]
  unfold nameW at *
  split at h
  ·simp [flt] at h
  ·rename_i h2
   rw [if_neg h2]
   refine ⟨?_,?_,till_le (by omega)⟩
   ·show (if _ then (2 : Int) else 1) ≠ 6
    split <;> omega
   ·exact till_lt (by rw [got_at hj,isN,← got_at (p := isL) hj,hg]; rfl)
 ·rename_i hg
  rw [if_neg hg]
  split at h
  ·rename_i hd
   rw [if_pos hd]
   unfold numW at *
   split at h
   ·simp [flt] at h
   ·rename_i h2
    rw [if_neg h2]
    split at h
    ·rename_i h3
     rw [if_pos h3]
     exact ⟨by simp [wrd],till_lt hd,till_le (by omega)⟩
    ·simp [flt] at h
  ·rename_i hd
   rw [if_neg hd]
   split at h
   ·rename_i hq
    rw [if_pos hq]
    unfold quoW at *
    split at h
    ·rename_i h2
     rw [if_pos h2]
     split at h
     ·simp [flt] at h
     ·rename_i h3
      rw [if_neg h3]
      have := quo_end ((bs s).drop (j + 1))
      rw [List.length_drop,bs_length] at this
      exact ⟨by simp [wrd],by simp [wrd]; omega,by simp [wrd]; omega⟩
    ·simp [flt] at h
   ·rename_i hq
    rw [if_neg hq]
    unfold sgnW at *
    split at h
    ·simp [flt] at h
    ·rename_i h2
     rw [if_neg h2]
     have := sgn_le (s := s) (j := j)
     exact ⟨by simp [wrd],by simp [wrd]; omega,by simp [wrd]; omega⟩
theorem wordW_on {s : ByteArray} {k : Nat} (hk : k ≤ s.size) (h : (wordW s k).er = 0) : ((wordW s k).tk.1 = 6 ∧ till (isB 32) s k = s.size) ∨ ((wordW s k).tk.1 ≠ 6 ∧ k < (wordW s k).nx ∧ (wordW s k).nx ≤ s.size) := by
 have h1 := till_ge (isB 32) s k
 have h2 := till_le (p := isB 32) hk
 unfold wordW endW at *
 split at h
 ·rename_i he
  rw [if_pos he]
  exact .inl ⟨rfl,he⟩
 ·rename_i he
  rw [if_neg he]
  have := oneW_on (s := s) (j := till (isB 32) s k) (by omega) h
  exact .inr ⟨this.1,by omega,this.2.2⟩
structure But (g : Nat) (w w' : World) : Prop where
 os : w'.os = w.os
 tape : w'.tape = w.tape
 output : w'.output = w.output
 size : w.heap.size ≤ w'.heap.size
 block : ∀ k,k < w.heap.size → k ≠ g → w'.heap[k]? = w.heap[k]?
theorem But.refl (g : Nat) (w : World) : But g w w := ⟨rfl,rfl,rfl,Nat.le_refl _,fun _ _ _ => rfl⟩
theorem But.trans {g : Nat} {a b c : World} (h : But g a b) (k : But g b c) : But g a c :=
 ⟨k.os.trans h.os,k.tape.trans h.tape,k.output.trans h.output,Nat.le_trans h.size k.size,fun i hi hg => (k.block i (Nat.lt_of_lt_of_le hi h.size) hg).trans (h.block i hi hg)⟩
theorem But.of {g : Nat} {w w' : World} (h : Below w.heap.size w w') : But g w w' := ⟨h.os,h.tape,h.output,h.size,fun k hk _ => h.block k hk⟩
theorem But.set (g o : Nat) (w : World) (v : Value) : But g w (w.setCell ⟨g,o,none⟩ v) := ⟨rfl,rfl,rfl,by simp [World.setCell],fun k _ hk => Below.heap_setCell _ _ _ _ hk⟩
theorem But.below {g B : Nat} {a w w' : World} (h : Below B a w) (k : But g w w') (hB : B ≤ g) (hw : B ≤ w.heap.size) : Below B a w' :=
 h.trans ⟨k.os,k.tape,k.output,k.size,fun i hi => k.block i (by omega) (by omega)⟩
theorem But.cell {g : Nat} {w w' : World} (h : But g w w') {a : Addr} {v : Value} (hc : w.cell? a = some v) (hg : a.block ≠ g) : w'.cell? a = some v :=
 (World.cell?_of_block (h.block a.block (World.block_lt_of_cell? _ _ hc) hg)).trans hc
theorem But.rdrew {g : Nat} {w w' : World} (h : But g w w') (n : Nat) : But g w (w'.drewN n) := ⟨h.os,h.tape,h.output,h.size,h.block⟩
structure Rr (w : World) (g : Nat) (s : ByteArray) (k : Nat) : Prop where
 row : w.heap[g]? = some (.cells #[.string s,.int .i64 (k : Int)] 93 (0,0))
theorem Rr.lt {w : World} {g : Nat} {s : ByteArray} {k : Nat} (h : Rr w g s k) : g < w.heap.size := (Array.getElem?_eq_some_iff.1 h.row).1
theorem Rr.c0 {w : World} {g : Nat} {s : ByteArray} {k : Nat} (h : Rr w g s k) : w.cell? ⟨g,0,none⟩ = some (.string s) := by
 unfold World.cell?; rw [h.row]; rfl
theorem Rr.c1 {w : World} {g : Nat} {s : ByteArray} {k : Nat} (h : Rr w g s k) : w.cell? ⟨g,1,none⟩ = some (.int .i64 k) := by
 unfold World.cell?; rw [h.row]; rfl
theorem Rr.f1 {w : World} {g : Nat} {s : ByteArray} {k : Nat} (h : Rr w g s k) : w.frozen? ⟨g,1,none⟩ = false := by
 unfold World.frozen?; rw [h.row]; rfl
theorem Rr.later {w w' : World} {g : Nat} {s : ByteArray} {k : Nat} (h : Rr w g s k) (hb : Below w.heap.size w w') : Rr w' g s k := ⟨by rw [hb.block g h.lt]; exact h.row⟩
theorem Rr.drewN {w : World} {g : Nat} {s : ByteArray} {k : Nat} (h : Rr w g s k) (n : Nat) : Rr (w.drewN n) g s k := ⟨h.row⟩
theorem Rr.set {w : World} {g : Nat} {s : ByteArray} {k : Nat} (h : Rr w g s k) (m : Nat) : Rr (w.setCell ⟨g,1,none⟩ (.int .i64 (m : Int))) g s m := ⟨by simp [World.setCell,Array.getElem?_modify,h.row]⟩
def rdAt (g : Nat) (w : World) : Nat := match w.cell? ⟨g,1,none⟩ with | some (.int _ z) => z.toNat | _ => 0
theorem Rr.at {w : World} {g : Nat} {s : ByteArray} {k : Nat} (h : Rr w g s k) : rdAt g w = k := by rw [rdAt,h.c1]; simp
def Such (g : Nat) (p : UInt8 → Bool) (w : World) (v : Value) : Prop := ∃ N caps,v = .func (.func N) #[] caps ∧ (∀ args w',(callFunc N args).run Tryz.prog w' = .ok (.enter N args) w') ∧ ∀ (c : UInt8) (w' : World),But g w w' → Calls Tryz.prog N (#[.int .u8 (c.toNat : Int)] ++ caps) w' fun e w'' => e = .returned (.bool (p c)) ∧ w'' = w'
theorem Such.later {g : Nat} {p : UInt8 → Bool} {w w' : World} {v : Value} (h : Such g p w v) (hb : But g w w') : Such g p w' v := by
 obtain ⟨N,caps,e,hc,hN⟩ := h
 exact ⟨N,caps,e,hc,fun c w2 h2 => hN c w2 (hb.trans h2)⟩
set_option maxRecDepth 100000 in
theorem next_any {g : Nat} {s : ByteArray} {k : Nat} {p : UInt8 → Bool} {v : Value} {w : World} (h : Rr w g s k) (hs : s.size ≤ 500) (hk : k ≤ s.size) (hv : Such g p w v) :
  Calls Tryz.prog 64 #[.pointer (some ⟨g,0,none⟩),v] w fun e w' => e = .returned (.bool (got p s k)) ∧ Below w.heap.size w w' := by
 obtain ⟨N,caps,rfl,hcf,hN⟩ := hv
 have c0 := h.c0
 have c1 := h.c1
 by_cases hlt : k < s.size
 ·rw [got_at hlt]
  have H : Hid _ := fun n => hN s[k] (w.drewN n) ((But.refl g w).rdrew n)
  clear hN h
  go_enter Tryz.func64,Tryz.ntmps64
  go_wp2
  go_quiet (exact Calls.quiet_of_same (H.out _))
  go_wp2
  go_ret
  exact ⟨rfl,below_drewN (Below.refl _ _) _⟩
 ·rw [got_end (by omega)]
  obtain rfl : k = s.size := by omega
  clear hN h hcf
  go_enter Tryz.func64,Tryz.ntmps64
  go_wp2
  go_quiet (fail)
  go_wp2
  go_ret
  exact ⟨rfl,below_drewN (Below.refl _ _) _⟩
set_option maxRecDepth 100000 in
theorem take_any {g : Nat} {s : ByteArray} {k : Nat} {p : UInt8 → Bool} {v : Value} {w : World} (h : Rr w g s k) (hs : s.size ≤ 500) (hk : k ≤ s.size) (hv : Such g p w v) :
  Calls Tryz.prog 87 #[.pointer (some ⟨g,0,none⟩),v] w fun e w' => e = .returned (.bool (got p s k)) ∧ Rr w' g s (if got p s k then k + 1 else k) ∧ But g w w' := by
 have H := next_any h hs hk hv
 obtain ⟨N,caps,rfl,hcf,hN⟩ := hv
 cases hg : got p s k with
 | true =>
  rw [hg] at H
  rw [if_pos rfl]
  have hlt := got_lt hg
  replace H : Hid _ := H
  clear hg hN hcf
  go_enter Tryz.func87,Tryz.ntmps87
  go_wp2_with fail
  refine Calls.mono H.out ?_
  rintro e w1 ⟨rfl,hb⟩
  have h1 := h.later hb
  have c1 := h1.c1
  have f1 := h1.f1
  clear H
  go_wp2
  go_ret
  exact ⟨rfl,h1.set (k + 1),(But.of hb).trans (But.set _ _ _ _)⟩
 | false =>
  rw [hg] at H
  rw [if_neg (by simp)]
  replace H : Hid _ := H
  clear hg hN hcf
  go_enter Tryz.func87,Tryz.ntmps87
  go_wp2_with fail
  refine Calls.mono H.out ?_
  rintro e w1 ⟨rfl,hb⟩
  have h1 := h.later hb
  clear H
  go_wp2
  go_ret
  exact ⟨rfl,h1,But.of hb⟩
set_option maxRecDepth 100000 in
theorem skip_any {g : Nat} {s : ByteArray} {k : Nat} {p : UInt8 → Bool} {v : Value} {w : World} (h : Rr w g s k) (hs : s.size ≤ 500) (hk : k ≤ s.size) (hv : Such g p w v) :
  Calls Tryz.prog 62 #[.pointer (some ⟨g,0,none⟩),v] w fun e w' => e = .returned (.tuple #[]) ∧ Rr w' g s (till p s k) ∧ But g w w' := by
 have HT : Hid (∀ (j : Nat) (w' : World),Rr w' g s j → j ≤ s.size → But g w w' → _) := fun j w' hr hj hb => take_any hr hs hj (hv.later hb)
 obtain ⟨N,caps,rfl,hcf,hN⟩ := hv
 clear hN hcf
 go_enter Tryz.func62,Tryz.ntmps62
 go_wp2
 go_loopw [] (fun wr => ∃ j,j ≤ s.size ∧ Rr wr g s j ∧ Hid (till p s k = till p s j) ∧ But g w wr) (fun wr => s.size - rdAt g wr)
 case atStart => exact ⟨k,hk,h,rfl,But.refl _ _⟩
 case round =>
  obtain ⟨j,hj,hr,HD,hb⟩ := hrel
  have H := HT.out j wr hr hj hb
  have hm := hr.at
  cases hg : got p s j with
  | true =>
   rw [hg,if_pos rfl] at H
   have HN : Hid _ := HD.out.trans (till_step hg)
   have hlt := got_lt hg
   replace H : Hid _ := H
   clear hg HD hr
   go_wp2_with fail
   refine Calls.mono H.out ?_
   rintro e w1 ⟨rfl,hr1,hb1⟩
   have hb2 := hb.trans hb1
   have hm1 := hr1.at
   clear H hb hb1
   go_wp2
   go_roundw
   case rel => exact ⟨j + 1,hlt,hr1,HN,hb2⟩
   case measure => omega
  | false =>
   rw [hg,if_neg (by simp)] at H
   have HN := HD.out.trans (till_stop hg)
   replace H : Hid _ := H
   replace HN : Hid _ := HN
   clear hg HD hr
   go_wp2_with fail
   refine Calls.mono H.out ?_
   rintro e w1 ⟨rfl,hr1,hb1⟩
   have hb2 := hb.trans hb1
   clear H hb hb1
   go_wp2
   exact bodyPost_end (results_none rfl _ _ _) rfl ⟨rfl,by rw [HN.out]; exact hr1,hb2⟩
theorem u8_eq {c : UInt8} {n : Nat} : decide (c.toNat = n) = decide ((c.toNat : Int) = (n : Int)) := by rw [Bool.eq_iff_iff]; simp; omega
theorem letter_any (c : UInt8) (w : World) : Calls Tryz.prog 65 #[.int .u8 (c.toNat : Int)] w fun e w' => e = .returned (.bool (isL c)) ∧ w' = w := by
 by_cases h1 : 97 ≤ c.toNat
 ·have g1 : decide ((97 : Int) ≤ (c.toNat : Int)) = true := by simp; omega
  by_cases h2 : c.toNat ≤ 122
  ·have g2 : decide ((c.toNat : Int) ≤ 122) = true := by simp; omega
   have e : isL c = true := by simp [isL,h1,h2]
   rw [e]
   go_enter Tryz.func65,Tryz.ntmps65
   go_wp2
   go_ret
   exact ⟨rfl,rfl⟩
  ·have g2 : decide ((c.toNat : Int) ≤ 122) = false := by simp; omega
   have g3 : ((c.toNat : Int) == 95) = false := by simp; omega
   have e : isL c = false := by simp [isL]; omega
   rw [e]
   go_enter Tryz.func65,Tryz.ntmps65
   go_wp2
   go_ret
   exact ⟨rfl,rfl⟩
 ·have g1 : decide ((97 : Int) ≤ (c.toNat : Int)) = false := by simp; omega
  have e : isL c = ((c.toNat : Int) == 95) := by simp [isL,h1]; rw [Bool.eq_iff_iff]; simp; omega
  rw [e]
  go_enter Tryz.func65,Tryz.ntmps65
  go_wp2
  go_ret
  exact ⟨rfl,rfl⟩
theorem digit_any (c : UInt8) (w : World) : Calls Tryz.prog 67 #[.int .u8 (c.toNat : Int)] w fun e w' => e = .returned (.bool (isDig c)) ∧ w' = w := by
 by_cases h1 : 48 ≤ c.toNat
 ·have g1 : decide ((48 : Int) ≤ (c.toNat : Int)) = true := by simp; omega
  have e : isDig c = decide ((c.toNat : Int) ≤ 57) := by simp [isDig,h1]; omega
  rw [e]
  go_enter Tryz.func67,Tryz.ntmps67
  go_wp2
  go_ret
  exact ⟨rfl,rfl⟩
 ·have g1 : decide ((48 : Int) ≤ (c.toNat : Int)) = false := by simp; omega
  have e : isDig c = false := by simp [isDig]; omega
  rw [e]
  go_enter Tryz.func67,Tryz.ntmps67
  go_wp2
  go_ret
  exact ⟨rfl,rfl⟩
theorem ofText_any (c : UInt8) (w : World) : Calls Tryz.prog 94 #[.int .u8 (c.toNat : Int)] w fun e w' => e = .returned (.bool (isT c)) ∧ w' = w := by
 by_cases h1 : 32 ≤ c.toNat
 ·have g1 : decide ((32 : Int) ≤ (c.toNat : Int)) = true := by simp; omega
  have e : isT c = decide ((c.toNat : Int) ≤ 126) := by simp [isT,h1]; omega
  rw [e]
  go_enter Tryz.func94,Tryz.ntmps94
  go_wp2
  go_ret
  exact ⟨rfl,rfl⟩
 ·have g1 : decide ((32 : Int) ≤ (c.toNat : Int)) = false := by simp; omega
  have e : isT c = false := by simp [isT]; omega
  rw [e]
  go_enter Tryz.func94,Tryz.ntmps94
  go_wp2
  go_ret
  exact ⟨rfl,rfl⟩
theorem ofName_any (c : UInt8) (w : World) : Calls Tryz.prog 89 #[.int .u8 (c.toNat : Int)] w fun e w' => e = .returned (.bool (isN c)) ∧ w' = w := by
 have HL := letter_any c w
 have HD := digit_any c w
 cases e : isL c with
 | true =>
  rw [show isN c = true from by rw [isN,e]; rfl]
  rw [e] at HL
  replace HL : Hid _ := HL
  clear e HD
  go_enter Tryz.func89,Tryz.ntmps89
  go_wp2_with fail
  refine Calls.mono HL.out ?_
  rintro e w1 ⟨rfl,rfl⟩
  go_wp2
  go_ret
  exact ⟨rfl,rfl⟩
 | false =>
  rw [show isN c = isDig c from by rw [isN,e]; rfl]
  rw [e] at HL
  replace HL : Hid _ := HL
  replace HD : Hid _ := HD
  clear e
  go_enter Tryz.func89,Tryz.ntmps89
  go_wp2_with fail
  refine Calls.mono HL.out ?_
  rintro e w1 ⟨rfl,rfl⟩
  go_wp2_with fail
  refine Calls.mono HD.out ?_
  rintro e w1 ⟨rfl,rfl⟩
  go_wp2
  go_ret
  exact ⟨rfl,rfl⟩
theorem refLetter_any (c : UInt8) (w : World) : Calls Tryz.prog 54 #[.int .u8 (c.toNat : Int)] w fun e w' => e = .returned (.bool (isL c)) ∧ w' = w := by
 by_cases h1 : 97 ≤ c.toNat
 ·have g1 : decide ((97 : Int) ≤ (c.toNat : Int)) = true := by simp; omega
  by_cases h2 : c.toNat ≤ 122
  ·have g2 : decide ((c.toNat : Int) ≤ 122) = true := by simp; omega
   have e : isL c = true := by simp [isL,h1,h2]
   rw [e]
   go_enter Tryz.func54,Tryz.ntmps54
   go_wp2
   go_ret
   exact ⟨rfl,rfl⟩
  ·have g2 : decide ((c.toNat : Int) ≤ 122) = false := by simp; omega
   have g3 : ((c.toNat : Int) == 95) = false := by simp; omega
   have e : isL c = false := by simp [isL]; omega
   rw [e]
   go_enter Tryz.func54,Tryz.ntmps54
   go_wp2
   go_ret
   exact ⟨rfl,rfl⟩
 ·have g1 : decide ((97 : Int) ≤ (c.toNat : Int)) = false := by simp; omega
  have e : isL c = ((c.toNat : Int) == 95) := by simp [isL,h1]; rw [Bool.eq_iff_iff]; simp; omega
  rw [e]
  go_enter Tryz.func54,Tryz.ntmps54
  go_wp2
  go_ret
  exact ⟨rfl,rfl⟩
theorem refDigit_any (c : UInt8) (w : World) : Calls Tryz.prog 55 #[.int .u8 (c.toNat : Int)] w fun e w' => e = .returned (.bool (isDig c)) ∧ w' = w := by
 by_cases h1 : 48 ≤ c.toNat
 ·have g1 : decide ((48 : Int) ≤ (c.toNat : Int)) = true := by simp; omega
  have e : isDig c = decide ((c.toNat : Int) ≤ 57) := by simp [isDig,h1]; omega
  rw [e]
  go_enter Tryz.func55,Tryz.ntmps55
  go_wp2
  go_ret
  exact ⟨rfl,rfl⟩
 ·have g1 : decide ((48 : Int) ≤ (c.toNat : Int)) = false := by simp; omega
  have e : isDig c = false := by simp [isDig]; omega
  rw [e]
  go_enter Tryz.func55,Tryz.ntmps55
  go_wp2
  go_ret
  exact ⟨rfl,rfl⟩
theorem isO_index (c : UInt8) : decide ((0 : Int) ≤ Lib.indexByte [40,41,44,46,61,43,45,42] c) = isO c := by
 have gen : ∀ l : List UInt8,decide ((0 : Int) ≤ Lib.indexByte l c) = l.contains c := by
  intro l
  induction l with
  | nil => rfl
  | cons x l ih =>
   rw [Lib.indexByte,List.contains_cons]
   have hge := Lib.indexByte_ge l c
   cases h : (x == c) with
   | true =>
    have : (c == x) = true := by rw [beq_iff_eq] at h ⊢; exact h.symm
    simp [this]
   | false =>
    have h' : (c == x) = false := by rw [beq_eq_false_iff_ne] at h ⊢; exact fun e => h e.symm
    rw [h',Bool.false_or,← ih]
    simp only [Bool.false_eq_true,if_false]
    cases h2 : (Lib.indexByte l c == -1) with
    | true =>
     have : Lib.indexByte l c = -1 := by simpa using h2
     simp [this]
    | false =>
     have : Lib.indexByte l c ≠ -1 := by simpa using h2
     simp only [Bool.false_eq_true,if_false]
     rw [Bool.eq_iff_iff]; simp; omega
 exact gen _
set_option maxRecDepth 100000 in
theorem index_any (s : ByteArray) (c : UInt8) (w : World) : Calls Tryz.prog 116 #[.string s,.int .u8 (c.toNat : Int)] w fun e w' => e = .returned (.int .i64 (Lib.indexByte s.data.toList c)) ∧ w' = w := by
 go_enter Tryz.func116,Tryz.ntmps116
 go_wp2
 rw [run_callFunc_extern Tryz.func122 (by kernel_rfl) (by kernel_rfl) (by kernel_rfl) (e := Extern.BytealgIndexByte.indexByte) (by kernel_rfl),Lib.run_indexByteString]
 simp only [Result.andThen]
 rw [Oper.upon_value]
 go_wp2
 go_ret
 exact ⟨by simp,rfl⟩
theorem indexByte_any (s : ByteArray) (c : UInt8) (w : World) : Calls Tryz.prog 108 #[.string s,.int .u8 (c.toNat : Int)] w fun e w' => e = .returned (.int .i64 (Lib.indexByte s.data.toList c)) ∧ w' = w := by
 have H : Hid _ := index_any s c w
 go_enter Tryz.func108,Tryz.ntmps108
 go_wp2_with fail
 refine Calls.mono H.out ?_
 rintro e w1 ⟨rfl,rfl⟩
 go_wp2
 go_ret
 exact ⟨rfl,rfl⟩
theorem lone_any (c : UInt8) (w : World) : Calls Tryz.prog 96 #[.int .u8 (c.toNat : Int)] w fun e w' => e = .returned (.bool (isO c)) ∧ w' = w := by
 have H := indexByte_any ⟨#[40,41,44,46,61,43,45,42]⟩ c w
 have e := isO_index c
 rw [← e]
 rw [show (⟨#[40,41,44,46,61,43,45,42]⟩ : ByteArray).data.toList = [40,41,44,46,61,43,45,42] from rfl] at H
 generalize Lib.indexByte [40,41,44,46,61,43,45,42] c = z at *
 clear e
 replace H : Hid _ := H
 go_enter Tryz.func96,Tryz.ntmps96
 go_wp2_with fail
 refine Calls.mono H.out ?_
 rintro e w1 ⟨rfl,rfl⟩
 go_wp2
 go_ret
 exact ⟨rfl,rfl⟩
theorem is1_any (c : UInt8) (n b : Nat) (w : World) (h : w.cell? ⟨b,0,none⟩ = some (.int .u8 (n : Int))) : Calls Tryz.prog 88 #[.int .u8 (c.toNat : Int),.pointer (some ⟨b,0,none⟩)] w fun e w' => e = .returned (.bool (isB n c)) ∧ w' = w := by
 have e : isB n c = ((c.toNat : Int) == (n : Int)) := by rw [isB,Bool.eq_iff_iff]; simp; omega
 rw [e]
 clear e
 go_enter Tryz.func88,Tryz.ntmps88
 go_wp2
 go_ret
 exact ⟨rfl,rfl⟩
theorem two1_any (c : UInt8) (n m b d : Nat) (w : World) (h : w.cell? ⟨b,0,none⟩ = some (.int .u8 (n : Int))) (k : w.cell? ⟨d,0,none⟩ = some (.int .u8 (m : Int))) : Calls Tryz.prog 107 #[.int .u8 (c.toNat : Int),.pointer (some ⟨b,0,none⟩),.pointer (some ⟨d,0,none⟩)] w fun e w' => e = .returned (.bool (is2 n m c)) ∧ w' = w := by
 by_cases h1 : c.toNat = n
 ·have g1 : ((c.toNat : Int) == (n : Int)) = true := by simp; omega
  have e : is2 n m c = true := by simp [is2,h1]
  rw [e]
  clear e h1
  go_enter Tryz.func107,Tryz.ntmps107
  go_wp2
  go_ret
  exact ⟨rfl,rfl⟩
 ·have g1 : ((c.toNat : Int) == (n : Int)) = false := by simp; omega
  have e : is2 n m c = ((c.toNat : Int) == (m : Int)) := by rw [is2,Bool.eq_iff_iff]; simp [h1]; omega
  rw [e]
  clear e h1
  go_enter Tryz.func107,Tryz.ntmps107
  go_wp2
  go_ret
  exact ⟨rfl,rfl⟩
theorem such_of {g N : Nat} {p : UInt8 → Bool} {w : World} (hc : ∀ args w',(callFunc N args).run Tryz.prog w' = .ok (.enter N args) w') (h : ∀ (c : UInt8) (w : World),Calls Tryz.prog N #[.int .u8 (c.toNat : Int)] w fun e w' => e = .returned (.bool (p c)) ∧ w' = w) : Such g p w (.func (.func N) #[] #[]) :=
 ⟨N,#[],rfl,hc,fun c w' _ => h c w'⟩
theorem such_letter (g : Nat) (w : World) : Such g isL w (.func (.func 65) #[] #[]) := such_of (fun _ _ => by kernel_rfl) letter_any
theorem such_digit (g : Nat) (w : World) : Such g isDig w (.func (.func 67) #[] #[]) := such_of (fun _ _ => by kernel_rfl) digit_any
theorem such_name (g : Nat) (w : World) : Such g isN w (.func (.func 89) #[] #[]) := such_of (fun _ _ => by kernel_rfl) ofName_any
theorem such_text (g : Nat) (w : World) : Such g isT w (.func (.func 94) #[] #[]) := such_of (fun _ _ => by kernel_rfl) ofText_any
theorem such_lone (g : Nat) (w : World) : Such g isO w (.func (.func 96) #[] #[]) := such_of (fun _ _ => by kernel_rfl) lone_any
theorem is_any (n : Nat) (w : World) : Calls Tryz.prog 63 #[.int .u8 (n : Int)] w fun e w' => ∃ v,e = .returned v ∧ (∀ g,g < w.heap.size → Such g (isB n) w' v) ∧ Below w.heap.size w w' := by
 have hmf : ∀ (fn : Fn) (first cap : Array Value) (w : World),(Instr.makeFunc fn first cap).run Tryz.prog w = .ok (.func fn first cap) w := fun _ _ _ _ => rfl
 go_enter Tryz.func63,Tryz.ntmps63
 go_wp2
 go_ret
 refine ⟨_,rfl,fun g hg => ⟨88,#[.pointer (some ⟨w.heap.size,0,none⟩)],rfl,fun _ _ => by kernel_rfl,fun c w' hb => is1_any c n w.heap.size w' (hb.cell (by simp [go_sem]) (by simp; omega))⟩,(Below.refl _ _).alloc (Nat.le_refl _) _⟩
theorem ofTwo_any (n m : Nat) (w : World) : Calls Tryz.prog 95 #[.int .u8 (n : Int),.int .u8 (m : Int)] w fun e w' => ∃ v,e = .returned v ∧ (∀ g,g < w.heap.size → Such g (is2 n m) w' v) ∧ Below w.heap.size w w' := by
 have hmf : ∀ (fn : Fn) (first cap : Array Value) (w : World),(Instr.makeFunc fn first cap).run Tryz.prog w = .ok (.func fn first cap) w := fun _ _ _ _ => rfl
 go_enter Tryz.func95,Tryz.ntmps95
 go_wp2
 go_ret
 refine ⟨_,rfl,fun g hg => ⟨107,#[.pointer (some ⟨w.heap.size,0,none⟩),.pointer (some ⟨w.heap.size + 1,0,none⟩)],rfl,fun _ _ => by kernel_rfl,fun c w' hb => two1_any c n m w.heap.size (w.heap.size + 1) w' (hb.cell (by simp [go_sem]) (by simp; omega)) (hb.cell (by simp [go_sem]) (by simp; omega))⟩,((Below.refl _ _).alloc (Nat.le_refl _) _).alloc (by simp) _⟩
end Go.Proofs.YtfopfhlohihihaaGreat
namespace Go.Proofs
open Go.Shelf
def Tryz.laysM316_ren : Go.Shelf.Ren := ⟨fun | 316 => 113 | n => n,fun | 9 => 9 | 3 => 3 | 4 => 4 | 37 => 22 | 0 => 0 | 127 => 137 | 5 => 5 | n => n,fun | n => n⟩
theorem Tryz.laysM316 : Go.Proofs.LaysM.n316 Tryz.prog Tryz.laysM316_ren := {
 mixed := by kernel_rfl
 f316 := Tryz.func113.trans (congrArg some (by kernel_rfl))
 t0 := Tryz.underlying0
 a0 := Tryz.isAgg0
 z0 := Tryz.sizeOf0
 v0 := Tryz.zeroValue0
 t3 := Tryz.underlying3
 a3 := Tryz.isAgg3
 z3 := Tryz.sizeOf3
 v3 := Tryz.zeroValue3
 t4 := Tryz.underlying4
 a4 := Tryz.isAgg4
 z4 := Tryz.sizeOf4
 v4 := Tryz.zeroValue4
 t9 := Tryz.underlying9
 a9 := Tryz.isAgg9
 z9 := Tryz.sizeOf9
 v9 := Tryz.zeroValue9
 t37 := Tryz.underlying22
 a37 := Tryz.isAgg22
 z37 := Tryz.sizeOf22
 v37 := Tryz.zeroValue22
 t127 := Tryz.underlying137
 a127 := Tryz.isAgg137
 z127 := Tryz.sizeOf137
 v127 := Tryz.zeroValue137
 t5 := Tryz.underlying5
 a5 := Tryz.isAgg5
 z5 := Tryz.sizeOf5
 v5 := Tryz.zeroValue5
 i0 := by kernel_rfl
 i3 := by kernel_rfl
 i4 := by kernel_rfl
 i5 := by kernel_rfl
 i9 := by kernel_rfl
 i37 := by kernel_rfl
 i127 := by kernel_rfl }
open Go.RowKit in
theorem Tryz.stringslite_Clone (s : ByteArray) (w : World) (hlim : s.size ≤ 281474976710656) :
  Calls Tryz.prog 113 #[.string s] w fun e w' => e = .returned (.string s) ∧ Below w.heap.size w w' := Any.stringslite_Clone Tryz.laysM316 s w hlim
end Go.Proofs
namespace Go.Proofs.YtfopfhlohihihaaGreat
open Go.RowKit
set_option linter.unusedVariables false
set_option linter.unusedSimpArgs false
theorem Below.on {a w w' : World} (h : Below a.heap.size a w) (k : Below w.heap.size w w') : Below a.heap.size a w' := h.trans (k.mono h.size)
def eqS (s t : ByteArray) : Bool := decide (s = t)
theorem same_str (s t : ByteArray) : (s.toList == t.toList) = decide (s = t) := by
 rw [Bool.eq_iff_iff]
 simp only [beq_iff_eq,decide_eq_true_eq]
 constructor
 ·intro h
  rw [ByteArray.toList_eq,ByteArray.toList_eq] at h
  exact ByteArray.ext (Array.toList_inj.1 h)
 ·intro h; rw [h]
theorem run_eqS (s t : ByteArray) (w : World) : (binOp .eql 9 (.string s) (.string t)).run Tryz.prog w = .ok (.bool (eqS s t)) w := by
 have h := same_str s t
 rw [eqS]
 generalize decide (s = t) = B at *
 go_simp
def wls : List (List UInt8) := [[97,110,100],[97,115],[98,101,103,105,110],[98,121],[99,97,108,108],[99,108,111,115,117,114,101],[99,111,109,109,105,116],[99,111,117,110,116],[99,114,101,97,116,101],[100,101,108,101,116,101],[100,101,115,99],[102,114,111,109],[103,114,111,117,112],[105,110,100,101,120],[105,110,115,101,114,116],[105,110,116],[105,110,116,111],[106,111,105,110],[109,97,120],[109,105,110],[110,111,116],[111,110],[111,114],[111,114,100,101,114],[114,97,105,115,101],[114,101,102],[114,111,108,108,98,97,99,107],[115,101,108,101,99,116],[115,101,116],[115,116,114,105,112],[115,117,109],[116,97,98,108,101],[116,101,120,116],[117,112,100,97,116,101],[118,97,108,117,101,115],[118,105,101,119],[119,104,101,114,101]]
theorem wl_wls : wl = wls.map fun l => ⟨l.toArray⟩ := by decide
set_option maxRecDepth 100000 in
theorem noName_not (s : ByteArray) (h : s ∉ wl) (w : World) : Calls Tryz.prog 91 #[.string s] w fun e w' => e = .returned (.bool false) ∧ w' = w := by
 have hs : ∀ l ∈ wls,(s.toList == l) = false := fun l hl => by
  rw [beq_eq_false_iff_ne]
  intro e
  refine h ?_
  rw [wl_wls,List.mem_map]
  refine ⟨l,hl,?_⟩
  rw [← e,ByteArray.toList_eq]
 simp only [wls,List.mem_cons,forall_eq_or_imp,List.not_mem_nil,false_implies,implies_true,and_true] at hs
 clear h
 obtain ⟨h1,h2,h3,h4,h5,h6,h7,h8,h9,h10,h11,h12,h13,h14,h15,h16,h17,h18,h19,h20,h21,h22,h23,h24,h25,h26,h27,h28,h29,h30,h31,h32,h33,h34,h35,h36,h37⟩ := hs
 go_enter Tryz.func91,Tryz.ntmps91
 go_wp2
 go_ret
 exact ⟨rfl,rfl⟩
set_option maxHeartbeats 4000000 in
set_option maxRecDepth 100000 in
theorem noName_yes (s : ByteArray) (h : s ∈ wl) (w : World) : Calls Tryz.prog 91 #[.string s] w fun e w' => e = .returned (.bool true) ∧ w' = w := by
 simp only [wl,List.mem_cons,List.not_mem_nil,or_false] at h
 rcases h with rfl | rfl | rfl | rfl | rfl | rfl | rfl | rfl | rfl | rfl | rfl | rfl | rfl | rfl | rfl | rfl | rfl | rfl | rfl | rfl | rfl | rfl | rfl | rfl | rfl | rfl | rfl | rfl | rfl | rfl | rfl | rfl | rfl | rfl | rfl | rfl | rfl
 all_goals
  go_enter Tryz.func91,Tryz.ntmps91
  go_wp2
  go_ret
  exact ⟨rfl,rfl⟩
theorem noName_any (s : ByteArray) (w : World) : Calls Tryz.prog 91 #[.string s] w fun e w' => e = .returned (.bool (isW s)) ∧ w' = w := by
 cases h : isW s with
 | true => exact noName_yes s (isW_iff.1 h) w
 | false => exact noName_not s (fun k => by rw [isW_iff.2 k] at h; cases h) w
end Go.Proofs.YtfopfhlohihihaaGreat
