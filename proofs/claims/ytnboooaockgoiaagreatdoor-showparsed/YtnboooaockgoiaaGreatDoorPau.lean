import Derived.Test.YtnboooaockgoiaaGreatDoorPat
import Derived.Test.YtnboooaockgoiaaGreatDoorPar
namespace Go.Proofs.YtnboooaockgoiaaGreatDoor
open Go.RowKit
set_option linter.unusedVariables false

theorem dec_isDig (u : Nat) : (Lib.decDigits u).all isDig = true := by
  have hd : ∀ k : Nat, k < 10 → isDig (UInt8.ofNat (48 + k)) = true := by decide
  induction u using Nat.strongRecOn with
  | _ u ih =>
    by_cases h : u < 10
    · rw [dec_one h]; simp [-UInt8.ofNat_add, hd u h]
    · rw [dec_more h, List.all_append, ih (u / 10) (by omega)]
      simp [-UInt8.ofNat_add, hd (u % 10) (by omega)]
theorem dec_val (u : Nat) : val (Lib.decDigits u) = u := by
  have hd : ∀ k : Nat, k < 10 → (UInt8.ofNat (48 + k)).toNat - 48 = k := by decide
  induction u using Nat.strongRecOn with
  | _ u ih =>
    by_cases h : u < 10
    · rw [dec_one h]
      have := hd u h
      simp [-UInt8.ofNat_add, -UInt8.toNat_ofNat', val, this]
    · rw [dec_more h, val_snoc, ih (u / 10) (by omega), hd (u % 10) (by omega)]
      omega
theorem bs_mk (l : List UInt8) : bs ⟨l.toArray⟩ = l := by simp [bs]
theorem dig_tab {c : UInt8} (h : isDig c = true) : isL c = false ∧ isB 32 c = false := by
  have tab : ∀ c : Fin 256, isDig (UInt8.ofNat c) = true → isL (UInt8.ofNat c) = false ∧ isB 32 (UInt8.ofNat c) = false := by decide +kernel
  have hcc : UInt8.ofNat c.toNat = c := by simp
  have := tab ⟨c.toNat, c.toNat_lt⟩ (by simpa using h)
  simpa [hcc] using this
theorem notN {c : UInt8} (h : isN c = false) : isL c = false ∧ isDig c = false := by
  rw [isN, Bool.or_eq_false_iff] at h
  exact h
/-- A number. -/
theorem lx_num {s : ByteArray} {A D r : List UInt8} (h : bs s = A ++ (D ++ r)) (hD : D.all isDig = true) (h0 : D ≠ []) (hr : (r[0]?).any isN = false) (hf : Fits (val D)) {l : List Tk} (hx : Lx s (A.length + D.length) l 0 0) :
    Lx s A.length ((3, ⟨#[]⟩, (val D : Int), (A.length : Int)) :: l) 0 0 := by
  obtain ⟨c, D', rfl⟩ := List.exists_cons_of_ne_nil h0
  have hc : isDig c = true := by rw [List.all_cons, Bool.and_eq_true] at hD; exact hD.1
  obtain ⟨c1, c2⟩ := dig_tab hc
  have h' : bs s = A ++ c :: (D' ++ r) := by simpa using h
  have hrD : (r[0]?).any isDig = false := by
    cases r with
    | nil => rfl
    | cons x r => simp only [List.getElem?_cons_zero, Option.any_some] at hr ⊢; exact (notN hr).2
  have hrL : (r[0]?).any isL = false := by
    cases r with
    | nil => rfl
    | cons x r => simp only [List.getElem?_cons_zero, Option.any_some] at hr ⊢; exact (notN hr).1
  have ht : till isDig s A.length = A.length + (c :: D').length := by
    rw [till_list h]
    congr 1
    rw [List.takeWhile_append_of_pos (fun x hx => List.all_eq_true.1 hD x hx), List.length_append]
    cases r with
    | nil => simp
    | cons x r =>
      have : isDig x = false := by simpa using hrD
      rw [List.takeWhile_cons, this]
      simp
  have hg : got isL s (A.length + (c :: D').length) = false := by
    have h2 : bs s = (A ++ (c :: D')) ++ r := by rw [h]; simp
    have := got_list (p := isL) h2
    rw [List.length_append] at this
    rw [this]; exact hrL
  have hv : numV s A.length (A.length + (c :: D').length) = val (c :: D') := by
    rw [numV, extract_list h, bs_mk]
  refine lx_cons (n := A.length + (c :: D').length) ?_ (by simp) hx
  rw [word_ns h' c2, oneW, if_neg (by rw [got_list h']; simp [c1]), if_pos (by rw [got_list h']; simp [hc]), numW, ht, if_neg (by rw [hg]; simp), hv, if_pos hf]
theorem quo_marks (x y : UInt8) (r : List UInt8) (h : isB 39 x = true) (h2 : isB 39 y = true) : quo (x :: y :: r) = (x :: (quo r).1, (quo r).2.1 + 2, (quo r).2.2) := by
  rw [quo, if_pos h, if_pos h2]
theorem isB39 (x : UInt8) : isB 39 x = decide (x.toNat = 39) := rfl
theorem quo_dblQ : ∀ (l r : List UInt8), l.all isT = true → (r[0]?).any (isB 39) = false → quo (dblQ l ++ 39 :: r) = (l, (dblQ l).length + 1, true)
  | [], r, _, hr => by
    cases r with
    | nil => simp [dblQ, quo, isB]
    | cons y r =>
      have hy : isB 39 y = false := by simpa using hr
      show quo (39 :: y :: r) = _
      rw [quo, if_pos (by decide), if_neg (by rw [hy]; simp)]
      rfl
  | x :: l, r, h, hr => by
    rw [List.all_cons, Bool.and_eq_true] at h
    have ih := quo_dblQ l r h.2 hr
    rw [dblQ]
    split
    · rename_i hx
      rw [List.cons_append, List.cons_append, quo_marks _ _ _ (by rw [isB39]; simpa using hx) (by decide), ih]
      simp
    · rename_i hx
      rw [List.cons_append, quo_cons _ _ (by rw [isB39]; simpa using hx), if_pos h.1, ih]
      simp
/-- A text value. -/
theorem lx_text {s : ByteArray} {A q r : List UInt8} (h : bs s = A ++ (39 :: (dblQ q ++ 39 :: r))) (hq : q.all isT = true) (h30 : q.length ≤ 30) (hr : (r[0]?).any (isB 39) = false) {l : List Tk} (hx : Lx s (A.length + ((dblQ q).length + 2)) l 0 0) :
    Lx s A.length ((4, ⟨q.toArray⟩, 0, (A.length : Int)) :: l) 0 0 := by
  have hd : (bs s).drop (A.length + 1) = dblQ q ++ 39 :: r := by
    have h2 : bs s = (A ++ [39]) ++ (dblQ q ++ 39 :: r) := by rw [h]; simp
    rw [h2]
    have : A.length + 1 = (A ++ [39]).length := by simp
    rw [this, List.drop_left]
  have hqq := quo_dblQ q r hq hr
  refine lx_cons (n := A.length + ((dblQ q).length + 2)) ?_ (by simp) hx
  rw [word_ns h (by decide), oneW, if_neg (by rw [got_list h]; show ¬ (isL 39 = true); decide), if_neg (by rw [got_list h]; show ¬ (isDig 39 = true); decide), if_pos (by rw [got_list h]; show isB 39 39 = true; decide), quoW, hd, hqq, if_pos rfl, if_neg (by show ¬ 30 < q.length; omega)]
  show wrd (4, ⟨q.toArray⟩, 0, _) (A.length + 1 + ((dblQ q).length + 1)) = _
  rw [show A.length + 1 + ((dblQ q).length + 1) = A.length + ((dblQ q).length + 2) from by omega]
/-- A sign of one or two bytes out of '<' and '>'. -/
theorem lx_ang {s : ByteArray} {A n r : List UInt8} {c : UInt8} (h : bs s = A ++ (c :: n ++ r)) (hk : (c = 60 ∧ n = [] ∧ (r[0]?).any (is2 61 62) = false) ∨ (c = 62 ∧ n = [] ∧ (r[0]?).any (isB 61) = false) ∨ (c = 60 ∧ (n = [61] ∨ n = [62])) ∨ (c = 62 ∧ n = [61])) {l : List Tk} (hx : Lx s (A.length + (n.length + 1)) l 0 0) :
    Lx s A.length ((5, ⟨(c :: n).toArray⟩, 0, (A.length : Int)) :: l) 0 0 := by
  have h' : bs s = A ++ c :: (n ++ r) := by simpa using h
  have hcc : c = 60 ∨ c = 62 := by rcases hk with ⟨rfl, _⟩ | ⟨rfl, _⟩ | ⟨rfl, _⟩ | ⟨rfl, _⟩ <;> simp
  have hsp : isB 32 c = false ∧ isL c = false ∧ isDig c = false ∧ isB 39 c = false := by rcases hcc with rfl | rfl <;> decide
  obtain ⟨s1, s2, s3, s4⟩ := hsp
  have g1 : ∀ p : UInt8 → Bool, got p s A.length = p c := fun p => by rw [got_list h']; simp
  have g2 : ∀ p : UInt8 → Bool, got p s (A.length + 1) = ((n ++ r)[0]?).any p := fun p => by rw [got_list1 h']; simp
  have hsg : sgn s A.length = n.length + 1 := by
    rw [sgn, g1, g1, g1, g2, g2]
    rcases hk with ⟨rfl, rfl, hr⟩ | ⟨rfl, rfl, hr⟩ | ⟨rfl, rfl | rfl⟩ | ⟨rfl, rfl⟩
    · rw [if_pos (by decide), if_neg (by rw [List.nil_append, hr]; simp)]; rfl
    · rw [if_neg (by decide), if_pos (by decide), if_neg (by rw [List.nil_append, hr]; simp)]; rfl
    · rw [if_pos (by decide), if_pos (by simp; decide)]; rfl
    · rw [if_pos (by decide), if_pos (by simp; decide)]; rfl
    · rw [if_neg (by decide), if_pos (by decide), if_pos (by simp; decide)]; rfl
  have he := extract_list (n := c :: n) h
  rw [List.length_cons] at he
  refine lx_cons (n := A.length + (n.length + 1)) ?_ (by simp) hx
  rw [word_ns h' s1, oneW, if_neg (by rw [g1]; simp [s2]), if_neg (by rw [g1]; simp [s3]), if_neg (by rw [g1]; simp [s4]), sgnW, hsg, if_neg (by omega), he]

end Go.Proofs.YtnboooaockgoiaaGreatDoor
namespace Go.Proofs.YtnboooaockgoiaaGreatDoor
open Go.RowKit
set_option linter.unusedVariables false

/-- A word, and how many spaces stand ahead of it. -/
abbrev Pc := Nat × Wd
/-- A word's bytes. -/
def wdB (w : Wd) : List UInt8 := if w.1 = 3 then Lib.decDigits w.2.2.toNat else if w.1 = 4 then 39 :: (dblQ (bs w.2.1) ++ [39]) else bs w.2.1
def ren : List Pc → List UInt8
  | [] => []
  | p :: l => List.replicate p.1 32 ++ (wdB p.2 ++ ren l)
/-- The words with their places. -/
def tks : Nat → List Pc → List Tk
  | _, [] => []
  | k, p :: l => (p.2.1, p.2.2.1, p.2.2.2, ((k + p.1 : Nat) : Int)) :: tks (k + p.1 + (wdB p.2).length) l
theorem ren_app (l m : List Pc) : ren (l ++ m) = ren l ++ ren m := by
  induction l with
  | nil => rfl
  | cons p l ih => rw [List.cons_append, ren, ren, ih]; simp
theorem tks_words (l : List Pc) (k : Nat) : (tks k l).map wdOf = l.map Prod.snd := by
  induction l generalizing k with
  | nil => rfl
  | cons p l ih => rw [tks, List.map_cons, List.map_cons, ih]; rfl
/-- A word as Lex makes it. -/
def WdOK (w : Wd) : Prop :=
  (∃ (c : UInt8) (n : List UInt8), isL c = true ∧ n.all isN = true ∧ n.length < 16 ∧ w = (if isW ⟨(c :: n).toArray⟩ then 2 else 1, ⟨(c :: n).toArray⟩, 0)) ∨
  (∃ z : Nat, Fits (z : Int) ∧ w = (3, ⟨#[]⟩, (z : Int))) ∨
  (∃ q : List UInt8, q.all isT = true ∧ q.length ≤ 30 ∧ w = (4, ⟨q.toArray⟩, 0)) ∨
  (∃ c : UInt8, isO c = true ∧ w = (5, ⟨#[c]⟩, 0)) ∨
  (∃ (c : UInt8) (n : List UInt8), (((c = 60 ∨ c = 62) ∧ n = []) ∨ (c = 60 ∧ (n = [61] ∨ n = [62])) ∨ (c = 62 ∧ n = [61])) ∧ w = (5, ⟨(c :: n).toArray⟩, 0))
theorem WdOK.name (c : UInt8) (n : List UInt8) (h1 : isL c = true) (h2 : n.all isN = true) (h3 : n.length < 16) : WdOK (if isW ⟨(c :: n).toArray⟩ then 2 else 1, ⟨(c :: n).toArray⟩, 0) := .inl ⟨c, n, h1, h2, h3, rfl⟩
theorem WdOK.num (z : Nat) (h : Fits (z : Int)) : WdOK (3, ⟨#[]⟩, (z : Int)) := .inr (.inl ⟨z, h, rfl⟩)
theorem WdOK.text (q : List UInt8) (h1 : q.all isT = true) (h2 : q.length ≤ 30) : WdOK (4, ⟨q.toArray⟩, 0) := .inr (.inr (.inl ⟨q, h1, h2, rfl⟩))
theorem WdOK.sign (c : UInt8) (h : isO c = true) : WdOK (5, ⟨#[c]⟩, 0) := .inr (.inr (.inr (.inl ⟨c, h, rfl⟩)))
theorem WdOK.ang (c : UInt8) (n : List UInt8) (h : ((c = 60 ∨ c = 62) ∧ n = []) ∨ (c = 60 ∧ (n = [61] ∨ n = [62])) ∨ (c = 62 ∧ n = [61])) : WdOK (5, ⟨(c :: n).toArray⟩, 0) := .inr (.inr (.inr (.inr ⟨c, n, h, rfl⟩)))
/-- A byte that ends every word. -/
def soft (c : UInt8) : Bool := [32, 40, 41, 44, 46].contains c
def softW (w : Wd) : Bool := decide (w.1 = 5) && [[40], [41], [44], [46]].contains (bs w.2.1)
def sgS (w : Wd) : Bool := decide (w.1 = 5) && ((bs w.2.1)[0]?).any isO
/-- Nothing runs into what follows; b: what stands ahead would run into what is not soft. -/
def Fl : Bool → List Pc → Prop
  | _, [] => True
  | b, p :: l => (b = false ∨ 0 < p.1 ∨ softW p.2 = true) ∧ WdOK p.2 ∧ Fl (!sgS p.2) l
theorem soft_tab {c : UInt8} (h : soft c = true) : isN c = false ∧ isB 39 c = false ∧ is2 61 62 c = false ∧ isB 61 c = false := by
  have tab : ∀ c : Fin 256, soft (UInt8.ofNat c) = true → isN (UInt8.ofNat c) = false ∧ isB 39 (UInt8.ofNat c) = false ∧ is2 61 62 (UInt8.ofNat c) = false ∧ isB 61 (UInt8.ofNat c) = false := by decide +kernel
  have hcc : UInt8.ofNat c.toNat = c := by simp
  have := tab ⟨c.toNat, c.toNat_lt⟩ (by simpa using h)
  simpa [hcc] using this
/-- What follows begins softly. -/
theorem ren_soft {l : List Pc} (h : Fl true l) (j : Nat) : ∀ c ∈ (ren l ++ List.replicate j 32)[0]?, soft c = true := by
  intro c hc
  cases l with
  | nil =>
    cases j with
    | zero => simp [ren] at hc
    | succ j => rw [ren, List.nil_append, List.replicate_succ, List.getElem?_cons_zero] at hc; cases hc; rfl
  | cons p l =>
    rcases h.1 with h | h | h
    · cases h
    · obtain ⟨k, hk⟩ : ∃ k, p.1 = k + 1 := ⟨p.1 - 1, by omega⟩
      rw [ren, hk, List.replicate_succ, List.cons_append, List.cons_append, List.getElem?_cons_zero] at hc
      cases hc; rfl
    · rw [softW, Bool.and_eq_true, decide_eq_true_eq] at h
      obtain ⟨h5, h2⟩ := h
      have hb : wdB p.2 = bs p.2.2.1 := by rw [wdB, if_neg (by rw [h5]; decide), if_neg (by rw [h5]; decide)]
      by_cases h0 : p.1 = 0
      · rw [ren, h0, hb] at hc
        simp only [List.contains_eq_mem, List.mem_cons, List.not_mem_nil, or_false, decide_eq_true_eq] at h2
        rcases h2 with h2 | h2 | h2 | h2 <;> rw [h2] at hc <;> simp at hc <;> subst hc <;> rfl
      · obtain ⟨k, hk⟩ : ∃ k, p.1 = k + 1 := ⟨p.1 - 1, by omega⟩
        rw [ren, hk, List.replicate_succ, List.cons_append, List.cons_append, List.getElem?_cons_zero] at hc
        cases hc; rfl
theorem any_soft {r : List UInt8} (h : ∀ c ∈ r[0]?, soft c = true) : (r[0]?).any isN = false ∧ (r[0]?).any (isB 39) = false ∧ (r[0]?).any (is2 61 62) = false ∧ (r[0]?).any (isB 61) = false := by
  cases hc : r[0]? with
  | none => exact ⟨rfl, rfl, rfl, rfl⟩
  | some c => exact soft_tab (h c (by rw [hc]; rfl))
theorem lx_spaces {s : ByteArray} : ∀ (j : Nat) {A r : List UInt8} (h : bs s = A ++ (List.replicate j 32 ++ r)) {l : List Tk} {a e : Int} (hx : Lx s (A.length + j) l a e), Lx s A.length l a e
  | 0, A, r, h, l, a, e, hx => hx
  | j + 1, A, r, h, l, a, e, hx => by
    have h1 : bs s = A ++ 32 :: (List.replicate j 32 ++ r) := by rw [h, List.replicate_succ, List.cons_append]
    have h2 : bs s = (A ++ [32]) ++ (List.replicate j 32 ++ r) := by rw [h1]; simp
    have h3 : (A ++ [(32 : UInt8)]).length = A.length + 1 := by simp
    refine lx_space h1 ?_
    rw [← h3]
    refine lx_spaces j h2 ?_
    rw [h3]
    rwa [show A.length + 1 + j = A.length + (j + 1) from by omega]
theorem dec_nil (u : Nat) : Lib.decDigits u ≠ [] := by
  by_cases h : u < 10
  · rw [dec_one h]; simp
  · rw [dec_more h]; simp
/-- One word. -/
theorem lx_word {s : ByteArray} {A r : List UInt8} {w : Wd} (hw : WdOK w) (h : bs s = A ++ (wdB w ++ r)) (hr : sgS w = false → ∀ c ∈ r[0]?, soft c = true) {l : List Tk} (hx : Lx s (A.length + (wdB w).length) l 0 0) : Lx s A.length ((w.1, w.2.1, w.2.2, (A.length : Int)) :: l) 0 0 := by
  rcases hw with ⟨c, n, h1, h2, h3, rfl⟩ | ⟨z, hf, rfl⟩ | ⟨q, h1, h2, rfl⟩ | ⟨c, h1, rfl⟩ | ⟨c, n, hk, rfl⟩
  · have hk : ∀ i : Bool, ((if i then 2 else 1 : Int)) ≠ 3 ∧ ((if i then 2 else 1 : Int)) ≠ 4 ∧ ((if i then 2 else 1 : Int)) ≠ 5 := by decide
    have hk := hk (isW ⟨(c :: n).toArray⟩)
    have hb : wdB (if isW ⟨(c :: n).toArray⟩ then 2 else 1, ⟨(c :: n).toArray⟩, 0) = c :: n := by
      rw [wdB, if_neg hk.1, if_neg hk.2.1, bs_mk]
    have h0 : sgS (if isW ⟨(c :: n).toArray⟩ then 2 else 1, ⟨(c :: n).toArray⟩, 0) = false := by
      rw [sgS, decide_eq_false hk.2.2]; rfl
    rw [hb] at h hx
    exact lx_name h h1 h2 (any_soft (hr h0)).1 h3 hx
  · have hb : wdB (3, ⟨#[]⟩, (z : Int)) = Lib.decDigits z := by rw [wdB, if_pos rfl]; rfl
    rw [hb] at h hx
    have := lx_num h (dec_isDig z) (dec_nil z) (any_soft (hr rfl)).1 (by rw [dec_val]; exact hf) hx
    rwa [dec_val] at this
  · have hb : wdB (4, ⟨q.toArray⟩, 0) = 39 :: (dblQ q ++ [39]) := by rw [wdB, if_neg (show ¬ ((4 : Int) = 3) by decide), if_pos rfl, bs_mk]
    rw [hb] at h hx
    refine lx_text (q := q) (r := r) (by rw [h]; simp) h1 h2 (any_soft (hr rfl)).2.1 ?_
    simpa using hx
  · have hb : wdB (5, ⟨#[c]⟩, 0) = [c] := by rw [wdB, if_neg (show ¬ ((5 : Int) = 3) by decide), if_neg (show ¬ ((5 : Int) = 4) by decide)]; rfl
    rw [hb] at h hx
    exact lx_sign (r := r) (by rw [h]; simp) h1 hx
  · have hb : wdB (5, ⟨(c :: n).toArray⟩, 0) = c :: n := by rw [wdB, if_neg (show ¬ ((5 : Int) = 3) by decide), if_neg (show ¬ ((5 : Int) = 4) by decide), bs_mk]
    have h0 : sgS (5, ⟨(c :: n).toArray⟩, 0) = false := by
      have hc : isO c = false := by rcases hk with ⟨rfl | rfl, _⟩ | ⟨rfl, _⟩ | ⟨rfl, _⟩ <;> decide
      rw [sgS, bs_mk, List.getElem?_cons_zero, Option.any_some, hc]; rfl
    obtain ⟨-, -, r2, r1⟩ := any_soft (hr h0)
    rw [hb] at h hx
    refine lx_ang h ?_ hx
    rcases hk with ⟨rfl | rfl, rfl⟩ | h | h
    · exact .inl ⟨rfl, rfl, r2⟩
    · exact .inr (.inl ⟨rfl, rfl, r1⟩)
    · exact .inr (.inr (.inl h))
    · exact .inr (.inr (.inr h))
/-- The words of pieces, and spaces at the end. -/
theorem lx_pcs {s : ByteArray} (j : Nat) : ∀ (l : List Pc) (b : Bool) (A : List UInt8), Fl b l → bs s = A ++ (ren l ++ List.replicate j 32) → Lx s A.length (tks A.length l ++ [(6, ⟨#[]⟩, 0, (s.size : Int))]) 0 0
  | [], b, A, _, h => by
    have hs := size_list h
    simp only [ren, List.nil_append, List.length_replicate] at hs
    rw [tks, List.nil_append]
    refine lx_spaces (r := []) j (by rw [h, ren]; simp) ?_
    rw [← hs]
    exact lx_fin
  | p :: l, b, A, hf, h => by
    have h1 : bs s = A ++ (List.replicate p.1 32 ++ (wdB p.2 ++ (ren l ++ List.replicate j 32))) := by rw [h, ren]; simp
    have e1 : (A ++ List.replicate p.1 (32 : UInt8)).length = A.length + p.1 := by simp
    refine lx_spaces p.1 h1 ?_
    have h2 : bs s = (A ++ List.replicate p.1 32) ++ (wdB p.2 ++ (ren l ++ List.replicate j 32)) := by rw [h1]; simp
    have h3 : bs s = ((A ++ List.replicate p.1 32) ++ wdB p.2) ++ (ren l ++ List.replicate j 32) := by rw [h1]; simp
    have e2 : ((A ++ List.replicate p.1 (32 : UInt8)) ++ wdB p.2).length = A.length + p.1 + (wdB p.2).length := by rw [List.length_append, e1]
    have hx := lx_pcs j l _ _ hf.2.2 h3
    rw [e2] at hx
    have hy := lx_word hf.2.1 h2 (fun h0 => ren_soft (by have := hf.2.2; rw [h0] at this; exact this) j) (by rw [e1]; exact hx)
    rw [e1] at hy
    rw [tks, List.cons_append]
    exact hy
/-- A text of pieces. -/
theorem lexR_pcs {s : ByteArray} {l : List Pc} {b : Bool} {j : Nat} (hf : Fl b l) (h : bs s = ren l ++ List.replicate j 32) (h4 : s.size ≤ 400) : LexR s (tks 0 l ++ [(6, ⟨#[]⟩, 0, (s.size : Int))]) 0 0 :=
  .inr ⟨h4, lx_pcs j l b [] hf h⟩

end Go.Proofs.YtnboooaockgoiaaGreatDoor
namespace Go.Proofs.YtnboooaockgoiaaGreatDoor
open Go.RowKit
set_option linter.unusedVariables false

/-- Is it among these? -/
def memB (s : ByteArray) : List ByteArray → Bool
  | [] => false
  | t :: S => decide (s = t) || memB s S
theorem memB_iff {s : ByteArray} : ∀ {S : List ByteArray}, memB s S = true ↔ s ∈ S
  | [] => by simp [memB]
  | t :: S => by rw [memB, Bool.or_eq_true, decide_eq_true_eq, memB_iff, List.mem_cons]
theorem mem_of {s : ByteArray} {S : List ByteArray} (h : memB s S = true) : s ∈ S := memB_iff.1 h
theorem nmem_of {s : ByteArray} {S : List ByteArray} (h : memB s S = false) : s ∉ S := fun k => by rw [memB_iff.2 k] at h; cases h
theorem sub_of {A B : List ByteArray} (h : (A.all fun s => memB s B) = true) : ∀ s ∈ A, s ∈ B := fun s m => memB_iff.1 (List.all_eq_true.1 h s m)
abbrev Fo := Option (List ByteArray)
/-- What follows: the end, or one of these words; none: anything. -/
def Tl : Fo → List Tk → Prop
  | none, _ => True
  | some S, X => kdOf X = 6 ∨ ∃ s ∈ S, isTk s X = true
def Hd (S1 : Fo) (vs : List Wd) (S2 : Fo) : Prop :=
  match S1 with
  | none => True
  | some A =>
    match vs with
    | [] => ∃ B, S2 = some B ∧ ∀ s ∈ B, s ∈ A
    | v :: _ => (v.1 = 2 ∨ v.1 = 5) ∧ v.2.1 ∈ A
theorem isTk_iff {s : ByteArray} {a : Tk} {X : List Tk} : isTk s (a :: X) = true ↔ (a.1 = 2 ∨ a.1 = 5) ∧ a.2.1 = s := by
  simp [isTk]
theorem Tl.no {S : List ByteArray} {X : List Tk} (h : Tl (some S) X) {s : ByteArray} (hs : s ∉ S) : isTk s X = false := by
  cases X with
  | nil => rfl
  | cons a X =>
    cases hb : isTk s (a :: X) with
    | false => rfl
    | true =>
      rw [isTk_iff] at hb
      rcases h with h | ⟨t, ht, h⟩
      · have h' : a.1 = 6 := h
        rw [h'] at hb
        rcases hb.1 with e | e <;> cases e
      · rw [isTk_iff] at h
        exact (hs (by rw [← hb.2, h.2]; exact ht)).elim
theorem Tl.ops {S : List ByteArray} {X : List Tk} (h : Tl (some S) X) : ∀ {l : List (ByteArray × Int)}, (∀ c ∈ l.map Prod.fst, c ∉ S) → oneOf l X = 0
  | [], _ => rfl
  | c :: l, hl => by
    rw [oneOf, if_neg (by rw [h.no (hl c.1 (by simp))]; simp)]
    exact Tl.ops h fun c hc => hl c (by rw [List.map_cons]; exact List.mem_cons_of_mem _ hc)
theorem Tl.hd {S1 S2 : Fo} {vs : List Wd} (h : Hd S1 vs S2) {ts R : List Tk} (hm : ts.map wdOf = vs) (hR : Tl S2 R) : Tl S1 (ts ++ R) := by
  cases S1 with
  | none => trivial
  | some A =>
    cases vs with
    | nil =>
      obtain rfl := List.map_eq_nil_iff.1 hm
      obtain ⟨B, rfl, hB⟩ := h
      rcases hR with hR | ⟨s, hs, hR⟩
      · exact .inl hR
      · exact .inr ⟨s, hB s hs, hR⟩
    | cons v vs =>
      obtain ⟨a, l', rfl, h1, h2⟩ := List.map_eq_cons_iff.1 hm
      obtain ⟨h3, h4⟩ := h
      subst h1
      exact .inr ⟨a.2.1, h4, isTk_iff.2 ⟨h3, rfl⟩⟩
/-- These words are read as that. -/
def Rds (D : Prop) {α : Type} (P : List Tk → Re α) (ws : List Wd) (t : α) (S : Fo) : Prop := ∀ ts R, ts.map wdOf = ws → Tl S R → Got D (P (ts ++ R)) (t, R)
theorem Rds.mono {D : Prop} {α : Type} {P : List Tk → Re α} {ws : List Wd} {t : α} {S S' : Fo} (h : Rds D P ws t S) (hs : Hd S [] S') : Rds D P ws t S' :=
  fun ts R hm hR => h ts R hm (Tl.hd (ts := []) hs rfl hR)
theorem Rds.map {D : Prop} {α β : Type} {P : List Tk → Re α} {ws : List Wd} {t : α} {S : Fo} (h : Rds D P ws t S) (f : α → β) : Rds D (fun r => mapR f (P r)) ws (f t) S :=
  fun ts R hm hR => (h ts R hm hR).map f
theorem Rds.seq {D : Prop} {α β γ : Type} {f : α → β → γ} {P : List Tk → Re α} {P' : List Tk → Re β} {ws vs : List Wd} {a : α} {b : β} {S1 S2 : Fo} (h : Rds D P ws a S1) (h' : Rds D P' vs b S2) (hd : Hd S1 vs S2) : Rds D (seqP f P P') (ws ++ vs) (f a b) S2 := by
  intro ts R hm hR
  obtain ⟨t1, t2, rfl, h1, h2⟩ := List.map_eq_append_iff.1 hm
  rw [seqP, List.append_assoc]
  exact (h t1 _ h1 (Tl.hd hd h2 hR)).then ((h' t2 R h2 hR).map (f a))
def kw (s : ByteArray) : Wd := (2, s, 0)
def sg (s : ByteArray) : Wd := (5, s, 0)
def nm (s : ByteArray) : Wd := (1, s, 0)
theorem rds_want {D : Prop} {w : Wd} (hw : w.1 = 2 ∨ w.1 = 5) : Rds D (wantU w.2.1) [w] () none := by
  intro ts R hm _
  obtain ⟨a, l', rfl, h1, h2⟩ := List.map_eq_cons_iff.1 hm
  obtain rfl := List.map_eq_nil_iff.1 h2
  subst h1
  have hi : isTk (wdOf a).2.1 (a :: ([] ++ R)) = true := isTk_iff.2 ⟨hw, rfl⟩
  rw [List.cons_append, wantU, if_pos hi]
  exact .inl rfl
theorem rds_name {D : Prop} (n : ByteArray) : Rds D nameP [nm n] n none := by
  intro ts R hm _
  obtain ⟨a, l', rfl, h1, h2⟩ := List.map_eq_cons_iff.1 hm
  obtain rfl := List.map_eq_nil_iff.1 h2
  rw [tk_eta h1]
  exact .inl rfl
theorem rds_opt_no {D : Prop} {α : Type} {s : ByteArray} {z : α} {P : List Tk → Re α} {S : List ByteArray} (hs : s ∉ S) : Rds D (optP s z P) [] z (some S) := by
  intro ts R hm hR
  obtain rfl := List.map_eq_nil_iff.1 hm
  rw [List.nil_append, optP, if_neg (by rw [hR.no hs]; simp)]
  exact .inl rfl
theorem rds_opt {D : Prop} {α : Type} {w : Wd} (hw : w.1 = 2 ∨ w.1 = 5) {z t : α} {P : List Tk → Re α} {ws : List Wd} {S : Fo} (h : Rds D P ws t S) : Rds D (optP w.2.1 z P) (w :: ws) t S := by
  intro ts R hm hR
  obtain ⟨a, l', rfl, h1, h2⟩ := List.map_eq_cons_iff.1 hm
  subst h1
  have hi : isTk (wdOf a).2.1 (a :: (l' ++ R)) = true := isTk_iff.2 ⟨hw, rfl⟩
  rw [List.cons_append, optP, if_pos hi]
  exact h l' R h2 hR
theorem rds_tag {D : Prop} {z : Int} (h0 : 0 ≤ z) (h1 : z ≤ 65535) : Rds D tagP [(3, ⟨#[]⟩, z)] z none := by
  intro ts R hm _
  obtain ⟨a, l', rfl, h1', h2⟩ := List.map_eq_cons_iff.1 hm
  obtain rfl := List.map_eq_nil_iff.1 h2
  rw [tk_eta h1']
  refine .inl ?_
  show (if (3 : Int) = 3 then (if 65535 < z then (Sum.inl (a.2.2.2, 3) : Re Int) else .inr (IntKind.u16.wrap z, R)) else .inl (a.2.2.2, 5)) = _
  rw [if_pos rfl, if_neg (by omega)]
  have : IntKind.u16.wrap z = z := by
    show (if (false && decide (z % (2 ^ 16 : Int) ≥ (2 ^ (16 - 1) : Int))) = true then z % (2 ^ 16 : Int) - (2 ^ 16 : Int) else z % (2 ^ 16 : Int)) = z
    rw [if_neg (by simp)]
    omega
  rw [this]
theorem rds_col {D : Prop} (t n : ByteArray) {S : List ByteArray} (hS : ⟨#[46]⟩ ∉ S) : Rds D columnP (wdE (tCol t n)) (tCol t n) (some S) := by
  intro ts R hm hR
  refine .inl ?_
  have hd := hR.no hS
  by_cases h0 : t = ⟨#[]⟩
  · subst h0
    have hm' : ts.map wdOf = [(1, n, 0)] := hm
    obtain ⟨a, l', rfl, h1, h2⟩ := List.map_eq_cons_iff.1 hm'
    obtain rfl := List.map_eq_nil_iff.1 h2
    rw [tk_eta h1]
    show (if isTk ⟨#[46]⟩ R then _ else (Sum.inr (tCol ⟨#[]⟩ n, R) : Re Tr)) = _
    rw [if_neg (by rw [hd]; simp)]
  · have hm' : ts.map wdOf = [(1, t, 0), (5, ⟨#[46]⟩, 0), (1, n, 0)] := hm.trans (by show (if t = ⟨#[]⟩ then _ else _) = _; rw [if_neg h0])
    obtain ⟨a, l', rfl, h1, h2⟩ := List.map_eq_cons_iff.1 hm'
    obtain ⟨b, l'', rfl, h3, h4⟩ := List.map_eq_cons_iff.1 h2
    obtain ⟨c, l3, rfl, h5, h6⟩ := List.map_eq_cons_iff.1 h4
    obtain rfl := List.map_eq_nil_iff.1 h6
    rw [tk_eta h1, tk_eta h3, tk_eta h5]
    rfl
/-- Words that may follow an expression. -/
def exF : List ByteArray := [⟨#[41]⟩, ⟨#[44]⟩, ⟨#[111, 114, 100, 101, 114]⟩]
theorem rds_expr {D : Prop} {t : Tr} (h : CnD D t) : Rds D (exprP 64) (wdE t) t (some exF) := by
  obtain ⟨d, h, hd⟩ := h
  intro ts R hm hR
  exact expr_of (back h 64 hd ts R hm (hR.no (nmem_of rfl))) (head_not h hm R) (hR.ops (by simp [opsTerm, exF])) (hR.ops (by simp [opsSum, exF])) (hR.ops (by simp [opsComp, exF])) (hR.ops (by simp [opsAnd, exF])) (hR.ops (by simp [opsOr, exF]))
/-- Some things with commas between them. -/
def jwT {α : Type} (g : α → List Wd) : List α → List Wd
  | [] => []
  | y :: l => sg ⟨#[44]⟩ :: (g y ++ jwT g l)
def jw {α : Type} (g : α → List Wd) : List α → List Wd
  | [] => []
  | y :: l => g y ++ jwT g l
theorem list_more {D : Prop} {α : Type} {P : List Tk → Re α} {g : α → List Wd} {S : Fo} (hS : Hd S [sg ⟨#[44]⟩] none) : ∀ (l acc : List α) (k : Nat) (ts R : List Tk), (∀ x ∈ l, Rds D P (g x) x S) → ts.map wdOf = jwT g l → Tl S R → isTk ⟨#[44]⟩ R = false → l.length ≤ k → Got D (listL P k acc (ts ++ R)) (acc ++ l, R)
  | [], acc, k, ts, R, _, hm, hR, hc, hk => by
    obtain rfl := List.map_eq_nil_iff.1 hm
    rw [List.nil_append, List.append_nil]
    cases k with
    | zero => exact .inl rfl
    | succ k => rw [listL, if_neg (by rw [hc]; simp)]; exact .inl rfl
  | y :: l, acc, k, ts, R, h, hm, hR, hc, hk => by
    obtain ⟨k, rfl⟩ : ∃ j, k = j + 1 := ⟨k - 1, by simp at hk; omega⟩
    obtain ⟨a, l', rfl, h1, h2⟩ := List.map_eq_cons_iff.1 (show ts.map wdOf = sg ⟨#[44]⟩ :: (g y ++ jwT g l) from hm)
    obtain ⟨t1, t2, rfl, h3, h4⟩ := List.map_eq_append_iff.1 h2
    have hi : isTk ⟨#[44]⟩ (a :: ((t1 ++ t2) ++ R)) = true := by rw [tk_eta h1]; rfl
    rw [List.cons_append, listL, if_pos hi]
    show Got D (thenR (P ((t1 ++ t2) ++ R)) _) _
    have hT : Tl S (t2 ++ R) := by
      cases l with
      | nil =>
        obtain rfl := List.map_eq_nil_iff.1 (show t2.map wdOf = [] from h4)
        exact hR
      | cons z l =>
        refine Tl.hd (S2 := none) (vs := sg ⟨#[44]⟩ :: (g z ++ jwT g l)) ?_ h4 trivial
        cases S with
        | none => trivial
        | some A => exact hS
    rw [List.append_assoc]
    refine (h y (by simp) t1 _ h3 hT).then ?_
    have := list_more hS l (acc ++ [y]) k t2 R (fun x hx => h x (by simp [hx])) h4 hR hc (by simp at hk; omega)
    rwa [List.append_assoc] at this
theorem jwT_len {α : Type} (g : α → List Wd) : ∀ l : List α, l.length ≤ (jwT g l).length
  | [] => Nat.zero_le _
  | y :: l => by rw [jwT]; have := jwT_len g l; simp; omega
/-- A list is read again. -/
theorem rds_list {D : Prop} {α : Type} {P : List Tk → Re α} {g : α → List Wd} {S : Fo} {S' : List ByteArray} (hS : Hd S [sg ⟨#[44]⟩] none) (hS' : Hd S [] (some S')) (hc : ⟨#[44]⟩ ∉ S') {l : List α} (hl : l ≠ []) (h : ∀ x ∈ l, Rds D P (g x) x S) : Rds D (listP P) (jw g l) l (some S') := by
  obtain ⟨y, l, rfl⟩ := List.exists_cons_of_ne_nil hl
  intro ts R hm hR
  obtain ⟨t1, t2, rfl, h3, h4⟩ := List.map_eq_append_iff.1 (show ts.map wdOf = g y ++ jwT g l from hm)
  have hR' : Tl S R := Tl.hd (ts := []) hS' rfl hR
  have hT : Tl S (t2 ++ R) := by
    cases l with
    | nil =>
      obtain rfl := List.map_eq_nil_iff.1 (show t2.map wdOf = [] from h4)
      exact hR'
    | cons z l =>
      refine Tl.hd (S2 := none) (vs := sg ⟨#[44]⟩ :: (g z ++ jwT g l)) ?_ h4 trivial
      cases S with
      | none => trivial
      | some A => exact hS
  rw [listP, List.append_assoc]
  refine (h y (by simp) t1 _ h3 hT).then ?_
  have hk : l.length ≤ (t2 ++ R).length := by
    have := jwT_len g l
    rw [← h4, List.length_map] at this
    simp; omega
  exact list_more hS l [y] _ t2 R (fun x hx => h x (by simp [hx])) h4 hR' (hR.no hc) hk
theorem rds_br {D : Prop} {α : Type} {P : List Tk → Re α} {g : α → List Wd} {S : Fo} (hS : Hd S [sg ⟨#[44]⟩] none) (hS' : Hd S [] (some [⟨#[41]⟩])) {l : List α} (hl : l ≠ []) (h : ∀ x ∈ l, Rds D P (g x) x S) : Rds D (brP P) (sg ⟨#[40]⟩ :: (jw g l ++ [sg ⟨#[41]⟩])) l none :=
  Rds.seq (rds_want (w := sg ⟨#[40]⟩) (.inr rfl)) (Rds.seq (rds_list hS hS' (nmem_of rfl) hl h) (rds_want (w := sg ⟨#[41]⟩) (.inr rfl)) ⟨.inr rfl, mem_of rfl⟩) trivial

/-- A step of a statement: these words make it that. -/
def Fr (D : Prop) (F : Re Sm → Re Sm) (ws : List Wd) (m m' : Sm) (S : Fo) : Prop := (∀ x, F (.inl x) = .inl x) ∧ ∀ ts R, ts.map wdOf = ws → Tl S R → Got D (F (.inr (m, ts ++ R))) (m', R)
theorem fr_want {D : Prop} {w : Wd} (hw : w.1 = 2 ∨ w.1 = 5) (m : Sm) : Fr D (wantR w.2.1) [w] m m none := by
  refine ⟨fun x => rfl, ?_⟩
  intro ts R hm _
  obtain ⟨a, l', rfl, h1, h2⟩ := List.map_eq_cons_iff.1 hm
  obtain rfl := List.map_eq_nil_iff.1 h2
  subst h1
  have hi : isTk (wdOf a).2.1 (a :: R) = true := isTk_iff.2 ⟨hw, rfl⟩
  refine .inl ?_
  show (if isTk (wdOf a).2.1 (a :: R) then (Sum.inr (m, R) : Re Sm) else _) = _
  rw [if_pos hi]
theorem fr_fill {D : Prop} {α : Type} {P : List Tk → Re α} {ws : List Wd} {t : α} {S : Fo} (h : Rds D P ws t S) (f : Sm → α → Sm) (m : Sm) : Fr D (fillR P f) ws m (f m t) S :=
  ⟨fun x => rfl, fun ts R hm hR => (h ts R hm hR).map (f m)⟩
theorem Fr.then {D : Prop} {F G : Re Sm → Re Sm} {ws vs : List Wd} {m m' m'' : Sm} {S1 S2 : Fo} (h : Fr D F ws m m' S1) (h' : Fr D G vs m' m'' S2) (hd : Hd S1 vs S2) : Fr D (fun R => G (F R)) (ws ++ vs) m m'' S2 := by
  refine ⟨fun x => by show G (F (.inl x)) = _; rw [h.1, h'.1], ?_⟩
  intro ts R hm hR
  obtain ⟨t1, t2, rfl, h1, h2⟩ := List.map_eq_append_iff.1 hm
  rw [List.append_assoc]
  show Got D (G (F _)) _
  rcases h.2 t1 _ h1 (Tl.hd hd h2 hR) with e | ⟨k, a, e⟩
  · rw [e]; exact h'.2 t2 R h2 hR
  · rw [e, h'.1]; exact .inr ⟨k, a, rfl⟩
theorem Fr.rds {D : Prop} {F : Re Sm → Re Sm} {ws : List Wd} {k : Int} {m' : Sm} {S : Fo} (h : Fr D F ws (sm k) m' S) : Rds D (fun ts => F (startR k (.inr ts))) ws m' S := fun ts R hm hR => h.2 ts R hm hR

end Go.Proofs.YtnboooaockgoiaaGreatDoor
