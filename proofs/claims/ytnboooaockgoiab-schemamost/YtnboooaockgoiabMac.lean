import Derived.Test.YtnboooaockgoiabMab
import Derived.Deep.RegionHeld3
import Derived.Maps.AppendAt
/- The walk of chain. -/
namespace Go.Proofs.Ytnboooaockgoiab
open Go.RowKit
set_option linter.unusedVariables false

/-- How what is read so far and what is to be read make all of it. -/
def ChR (P : List Tk → Re Tr) (l : List (ByteArray × Int)) (R : Re Tr) (S : Sa) (E : Tr → Prop) : Prop :=
  (∃ e, S = .inl e ∧ R = .inl e) ∨ ∃ ts t k, S = .inr ts ∧ ts.length ≤ k ∧ R = chainL P l k t ts ∧ E t
theorem ChR.start {P : List Tk → Re Tr} {l : List (ByteArray × Int)} {S : Sa} {E : Tr → Prop} (h : ∀ t r, runP P S = .inr (t, r) → E t) : ChR P l (runP (chainP P l) S) (stO (runP P S)) E := by
  match S with
  | .inl x => exact .inl ⟨x, rfl, rfl⟩
  | .inr ts =>
    have e1 : runP P (.inr ts) = P ts := rfl
    have e2 : runP (chainP P l) (.inr ts) = thenR (P ts) fun x r => chainL P l r.length x r := rfl
    rw [e1] at h
    rw [e1, e2]
    cases hp : P ts with
    | inl x => exact .inl ⟨x, rfl, rfl⟩
    | inr x => exact .inr ⟨x.2, x.1, x.2.length, rfl, Nat.le_refl _, rfl, h x.1 x.2 hp⟩
theorem oneOf_zero {l : List (ByteArray × Int)} (h0 : ∀ c ∈ l, 0 < c.2) {ts : List Tk} (h : oneOf l ts = 0) : oneS l (.inr ts) = .inr ts := by
  have := oneOf_any (ts := ts) (fun c hc => Int.ne_of_gt (h0 c hc))
  rw [h] at this
  simp only [decide_true, Bool.not_true] at this
  simp only [oneS, this, Bool.false_eq_true, if_false]
theorem oneOf_some {l : List (ByteArray × Int)} (h0 : ∀ c ∈ l, 0 < c.2) {ts : List Tk} (h : oneOf l ts ≠ 0) : oneS l (.inr ts) = .inr ts.tail ∧ 0 < oneOf l ts ∧ ∃ t r, ts = t :: r := by
  have := oneOf_any (ts := ts) (fun c hc => Int.ne_of_gt (h0 c hc))
  have e : (l.any fun c => isTk c.1 ts) = true := by rw [this]; simpa using h
  refine ⟨by simp only [oneS, e, if_true], ?_, ?_⟩
  · clear this e
    induction l with
    | nil => exact absurd rfl h
    | cons c l ih =>
      rw [oneOf] at h ⊢
      split
      · exact h0 c (by simp)
      · rename_i hc
        rw [if_neg hc] at h
        exact ih (fun x hx => h0 x (by simp [hx])) h
  · obtain ⟨c, _, hc⟩ := List.any_eq_true.1 e
    exact isTk_ne hc
theorem But.dr {g : Nat} {w w' : World} (h : But g w w') : But g w w'.drew := ⟨h.os, h.tape, h.output, h.size, h.block⟩
def bitOf (z : Int) : Nat := if z = 0 then 0 else 1
theorem ChR.mono {P : List Tk → Re Tr} {l : List (ByteArray × Int)} {R : Re Tr} {S : Sa} {E E' : Tr → Prop} (h : ChR P l R S E) (k : ∀ t, E t → E' t) : ChR P l R S E' := by
  rcases h with h | ⟨ts, t, n, h1, h2, h3, h4⟩
  · exact .inl h
  · exact .inr ⟨ts, t, n, h1, h2, h3, k t h4⟩
theorem ChR.stop {P : List Tk → Re Tr} {l : List (ByteArray × Int)} {R : Re Tr} {S : Sa} {E : Tr → Prop} (h0 : ∀ c ∈ l, 0 < c.2) (h : ChR P l R S E) (hz : oneB l S = 0) : stO R = oneS l S ∧ ∀ t r, R = .inr (t, r) → E t := by
  rcases h with ⟨e, rfl, rfl⟩ | ⟨ts, t, k, rfl, hk, hR, hE⟩
  · exact ⟨rfl, fun t r e => by cases e⟩
  · have hz' : oneOf l ts = 0 := hz
    have e : chainL P l k t ts = .inr (t, ts) := by
      cases k with
      | zero => rfl
      | succ k => rw [chainL, if_pos hz']
    rw [hR, e, oneOf_zero h0 hz']
    exact ⟨rfl, fun t' r e => by cases e; exact hE⟩
theorem ChR.go {P : List Tk → Re Tr} {l : List (ByteArray × Int)} {R : Re Tr} {S : Sa} {E : Tr → Prop} (hP : Shr P) (h0 : ∀ c ∈ l, 0 < c.2) (h : ChR P l R S E) (hz : oneB l S ≠ 0) : 0 < oneB l S ∧ ∃ t, E t ∧ szS (stO (runP P (oneS l S))) ≤ szS (oneS l S) ∧
    ∀ E' : Tr → Prop, (∀ u r, runP P (oneS l S) = .inr (u, r) → E' (tTwo (oneB l S).toNat t u)) → ChR P l R (stO (runP P (oneS l S))) E' := by
  rcases h with ⟨e, rfl, rfl⟩ | ⟨ts, t, k, rfl, hk, hR, hE⟩
  · exact absurd rfl hz
  · have hz' : oneOf l ts ≠ 0 := hz
    obtain ⟨e1, e2, x, r, rfl⟩ := oneOf_some h0 hz'
    rw [e1]
    refine ⟨e2, t, hE, ?_, fun E' hE' => ?_⟩
    · show szS (stO (P r)) ≤ r.length
      cases hp : P r with
      | inl y => exact Nat.zero_le _
      | inr y => exact hP r y.1 y.2 hp
    · have hE2 : ∀ u r', P r = .inr (u, r') → E' (tTwo (oneOf l (x :: r)).toNat t u) := hE'
      show ChR P l R (stO (P r)) E'
      cases k with
      | zero => simp at hk
      | succ k =>
        rw [chainL, if_neg hz'] at hR
        have hR2 : R = thenR (P r) fun y r' => chainL P l k (tTwo (oneOf l (x :: r)).toNat t y) r' := hR
        rw [hR2]
        cases hp : P r with
        | inl y => exact .inl ⟨y, rfl, rfl⟩
        | inr y =>
          have := hP r y.1 y.2 hp
          exact .inr ⟨y.2, _, k, rfl, by simp at hk; omega, rfl, hE2 y.1 y.2 hp⟩
theorem oneS_sz (l : List (ByteArray × Int)) (S : Sa) : szS (oneS l S) ≤ szS S := by
  match S with
  | .inl x => exact Nat.le_refl _
  | .inr ts => simp only [oneS]; split <;> simp [szS]
theorem oneS_less {l : List (ByteArray × Int)} (h0 : ∀ c ∈ l, 0 < c.2) {S : Sa} (h : oneB l S ≠ 0) : szS (oneS l S) < szS S := by
  match S with
  | .inl x => exact absurd rfl h
  | .inr ts =>
    have h' : oneOf l ts ≠ 0 := h
    obtain ⟨e1, _, x, r, rfl⟩ := oneOf_some h0 h'
    rw [e1]
    simp [szS]

end Go.Proofs.Ytnboooaockgoiab
/- The walks of within, term, sum, and, expr. -/
namespace Go.Proofs.Ytnboooaockgoiab
open Go.RowKit
set_option linter.unusedVariables false

theorem Ex.setG {Q : Nat → Prop} {w : World} {t : Tr} {v : Value} (h : Ex Q w t v) {b : Nat} (hb : ¬ Q b) (o : Nat) (u : Value) : Ex Q (w.setCell ⟨b, o, none⟩ u) t v :=
  h.keep fun k hq _ => Below.heap_setCell _ _ _ _ (by rintro rfl; exact hb hq)
/-- How deep one may still go. -/
def deepP (d : Nat) (P : List Tk → Re Tr) : Option (List Tk → Re Tr) := if d = 64 then none else some P

end Go.Proofs.Ytnboooaockgoiab
/- The walks of term, sum, and, expr. -/
namespace Go.Proofs.Ytnboooaockgoiab
open Go.RowKit
set_option linter.unusedVariables false

end Go.Proofs.Ytnboooaockgoiab
/- The walk of comp. -/
namespace Go.Proofs.Ytnboooaockgoiab
open Go.RowKit
set_option linter.unusedVariables false

theorem opsComp_pos : ∀ c ∈ opsComp, 0 < c.2 := by decide
theorem comp_zero {U : List Tk → Re Tr} {S : Sa} (h : oneB opsComp (stO (runP (sumP U) S)) = 0) : runP (compP U) S = runP (sumP U) S ∧ oneS opsComp (stO (runP (sumP U) S)) = stO (runP (sumP U) S) := by
  match S with
  | .inl x => exact ⟨rfl, rfl⟩
  | .inr ts =>
    have e : runP (sumP U) (.inr ts) = sumP U ts := rfl
    have e2 : runP (compP U) (.inr ts) = compP U ts := rfl
    rw [e] at h ⊢
    rw [e2, compP]
    cases hn : sumP U ts with
    | inl x => exact ⟨rfl, rfl⟩
    | inr x =>
      rw [hn] at h
      have h' : oneOf opsComp x.2 = 0 := h
      refine ⟨?_, oneOf_zero opsComp_pos h'⟩
      show (if oneOf opsComp x.2 = 0 then _ else _) = _
      rw [if_pos h']
theorem comp_some {U : List Tk → Re Tr} {S : Sa} (h : oneB opsComp (stO (runP (sumP U) S)) ≠ 0) : 0 < oneB opsComp (stO (runP (sumP U) S)) ∧ ∃ t, (∃ r, runP (sumP U) S = .inr (t, r)) ∧
    runP (compP U) S = mapR (tTwo (oneB opsComp (stO (runP (sumP U) S))).toNat t) (runP (sumP U) (oneS opsComp (stO (runP (sumP U) S)))) := by
  match S with
  | .inl x => exact absurd rfl h
  | .inr ts =>
    have e : runP (sumP U) (.inr ts) = sumP U ts := rfl
    have e2 : runP (compP U) (.inr ts) = compP U ts := rfl
    rw [e] at h ⊢
    rw [e2, compP]
    cases hn : sumP U ts with
    | inl x => rw [hn] at h; exact absurd rfl h
    | inr x =>
      rw [hn] at h
      have h' : oneOf opsComp x.2 ≠ 0 := h
      obtain ⟨e1, e2, _⟩ := oneOf_some opsComp_pos h'
      refine ⟨e2, x.1, ⟨x.2, rfl⟩, ?_⟩
      show (if oneOf opsComp x.2 = 0 then _ else _) = mapR _ (runP (sumP U) (oneS opsComp (.inr x.2)))
      rw [if_neg h', e1]
      rfl

end Go.Proofs.Ytnboooaockgoiab
/- The walks of not and unary. -/
namespace Go.Proofs.Ytnboooaockgoiab
open Go.RowKit
set_option linter.unusedVariables false

theorem not_true {N : Option (List Tk → Re Tr)} {U : List Tk → Re Tr} {t : Tk} {ts : List Tk} (h : takeB ⟨#[110, 111, 116]⟩ (.inr (t :: ts)) = true) : runP (notOf N U) (.inr (t :: ts)) = mapR (tOne 4) (inP N (t :: ts)) := by
  have h' : isTk ⟨#[110, 111, 116]⟩ (t :: ts) = true := h
  show notOf N U (t :: ts) = _
  rw [notOf, if_pos h']
  rfl
theorem not_false' {N : Option (List Tk → Re Tr)} {U : List Tk → Re Tr} {S : Sa} (h : takeB ⟨#[110, 111, 116]⟩ S = false) : runP (notOf N U) S = runP (compP U) S := by
  match S with
  | .inl x => rfl
  | .inr ts =>
    have h' : isTk ⟨#[110, 111, 116]⟩ ts = false := h
    show notOf N U ts = _
    rw [notOf, if_neg (by rw [h']; simp)]
    rfl

/-- A word that must stand behind what was read. -/
def wantR {α : Type} (s : ByteArray) (R : Re α) : Re α := thenR R fun x r => if isTk s r then .inr (x, r.tail) else .inl (atOf r, 5)
theorem stO_wantR {α : Type} (s : ByteArray) (R : Re α) : stO (wantR s R) = wantS s (stO R) := by
  cases R with
  | inl x => rfl
  | inr x =>
    show stO (if isTk s x.2 then _ else _) = (if isTk s x.2 then _ else _)
    split <;> rfl
theorem wantR_inr {α : Type} {s : ByteArray} {R : Re α} {t : α} {r : List Tk} (h : wantR s R = .inr (t, r)) : ∃ r', R = .inr (t, r') := by
  cases R with
  | inl x => cases h
  | inr x =>
    have h' : (if isTk s x.2 then (.inr (x.1, x.2.tail) : Re α) else .inl (atOf x.2, 5)) = .inr (t, r) := h
    split at h'
    · cases h'; exact ⟨x.2, rfl⟩
    · cases h'
theorem unary_neg {U E : Option (List Tk → Re Tr)} {t : Tk} {ts : List Tk} (h : takeB ⟨#[45]⟩ (.inr (t :: ts)) = true) : runP (unaryOf U E) (.inr (t :: ts)) = mapR (tOne 3) (inP U (t :: ts)) := by
  have h' : isTk ⟨#[45]⟩ (t :: ts) = true := h
  show unaryOf U E (t :: ts) = _
  rw [unaryOf, if_pos h']
  rfl
theorem unary_par {U E : Option (List Tk → Re Tr)} {t : Tk} {ts : List Tk} (h : takeB ⟨#[45]⟩ (.inr (t :: ts)) = false) (k : takeB ⟨#[40]⟩ (.inr (t :: ts)) = true) : runP (unaryOf U E) (.inr (t :: ts)) = wantR ⟨#[41]⟩ (inP E (t :: ts)) := by
  have h' : isTk ⟨#[45]⟩ (t :: ts) = false := h
  have k' : isTk ⟨#[40]⟩ (t :: ts) = true := k
  show unaryOf U E (t :: ts) = _
  rw [unaryOf, if_neg (by rw [h']; simp), if_pos k']
  rfl
theorem unary_leaf {U E : Option (List Tk → Re Tr)} {S : Sa} (h : takeB ⟨#[45]⟩ S = false) (k : takeB ⟨#[40]⟩ S = false) : runP (unaryOf U E) S = runP leafP S := by
  match S with
  | .inl x => rfl
  | .inr ts =>
    have h' : isTk ⟨#[45]⟩ ts = false := h
    have k' : isTk ⟨#[40]⟩ ts = false := k
    show unaryOf U E ts = _
    rw [unaryOf, if_neg (by rw [h']; simp), if_neg (by rw [k']; simp)]
    rfl
theorem leaf_3 {S : Sa} (h : (nxT S).1 = 3) : runP leafP S = mapR (fun t => tInt t.2.2.1) (runP (kindP 3) S) := by
  match S with
  | .inl x => rfl
  | .inr [] => exact absurd h (by decide)
  | .inr (t :: ts) =>
    have h' : kdOf (t :: ts) = 3 := h
    show leafP (t :: ts) = _
    rw [leafP, if_pos h']
    rfl
theorem leaf_4 {S : Sa} (h : (nxT S).1 = 4) : runP leafP S = mapR (fun t => tText t.2.1) (runP (kindP 4) S) := by
  match S with
  | .inl x => rfl
  | .inr [] => exact absurd h (by decide)
  | .inr (t :: ts) =>
    have h' : kdOf (t :: ts) = 4 := h
    show leafP (t :: ts) = _
    rw [leafP, if_neg (by rw [h']; decide), if_pos h']
    rfl
theorem leaf_col {S : Sa} (h : (nxT S).1 ≠ 3) (k : (nxT S).1 ≠ 4) : runP leafP S = runP columnP S := by
  match S with
  | .inl x => rfl
  | .inr [] => rfl
  | .inr (t :: ts) =>
    have h' : kdOf (t :: ts) ≠ 3 := h
    have k' : kdOf (t :: ts) ≠ 4 := k
    show leafP (t :: ts) = _
    rw [leafP, if_neg h', if_neg k']
    rfl

end Go.Proofs.Ytnboooaockgoiab
/- Nothing that is read makes more words; expressions, however deep. -/
namespace Go.Proofs.Ytnboooaockgoiab
open Go.RowKit
set_option linter.unusedVariables false

theorem thenR_inr {α β : Type} {x : Re α} {f : α → List Tk → Re β} {t : β} {r : List Tk} (h : thenR x f = .inr (t, r)) : ∃ u q, x = .inr (u, q) ∧ f u q = .inr (t, r) := by
  cases x with
  | inl e => cases h
  | inr y => exact ⟨y.1, y.2, rfl, h⟩
theorem shr_kind (k : Int) : Shr (kindP k) := by
  intro ts t r h
  cases ts with
  | nil => cases h
  | cons x l =>
    rw [kindP] at h
    split at h
    · cases h; simp
    · cases h
theorem shr_name : Shr nameP := by
  intro ts t r h
  obtain ⟨u, q, h1, h2⟩ := thenR_inr h
  cases h2
  exact shr_kind 1 _ _ _ h1
theorem shr_column : Shr columnP := by
  intro ts t r h
  obtain ⟨u, q, h1, h2⟩ := thenR_inr h
  have e1 := shr_name ts u q h1
  split at h2
  · obtain ⟨u2, q2, h3, h4⟩ := thenR_inr h2
    cases h4
    have e2 := shr_name _ _ _ h3
    rw [List.length_tail] at e2
    omega
  · cases h2; exact e1
theorem shr_leaf : Shr leafP := by
  intro ts t r h
  rw [leafP] at h
  split at h
  · obtain ⟨u, q, h1, h2⟩ := thenR_inr h
    cases h2
    exact shr_kind 3 _ _ _ h1
  · split at h
    · obtain ⟨u, q, h1, h2⟩ := thenR_inr h
      cases h2
      exact shr_kind 4 _ _ _ h1
    · exact shr_column ts t r h
theorem shr_chainL {P : List Tk → Re Tr} (hP : Shr P) (l : List (ByteArray × Int)) : ∀ (k : Nat) (x : Tr), Shr (chainL P l k x) := by
  intro k
  induction k with
  | zero => intro x ts t r h; cases h; exact Nat.le_refl _
  | succ k ih =>
    intro x ts t r h
    rw [chainL] at h
    split at h
    · cases h; exact Nat.le_refl _
    · obtain ⟨u, q, h1, h2⟩ := thenR_inr h
      have e1 := hP _ u q h1
      have e2 := ih _ q t r h2
      rw [List.length_tail] at e1
      omega
theorem shr_chain {P : List Tk → Re Tr} (hP : Shr P) (l : List (ByteArray × Int)) : Shr (chainP P l) := by
  intro ts t r h
  obtain ⟨u, q, h1, h2⟩ := thenR_inr h
  exact Nat.le_trans (shr_chainL hP l _ u q t r h2) (hP ts u q h1)
theorem shr_comp {U : List Tk → Re Tr} (hU : Shr U) : Shr (compP U) := by
  intro ts t r h
  have hS : Shr (sumP U) := shr_chain (shr_chain hU _) _
  obtain ⟨u, q, h1, h2⟩ := thenR_inr h
  have e1 := hS ts u q h1
  split at h2
  · cases h2; exact e1
  · obtain ⟨u2, q2, h3, h4⟩ := thenR_inr h2
    cases h4
    have e2 := hS _ _ _ h3
    rw [List.length_tail] at e2
    omega
def ShrO (P : Option (List Tk → Re Tr)) : Prop := ∀ p, P = some p → Shr p
theorem shr_in {P : Option (List Tk → Re Tr)} (hP : ShrO P) : Shr (inP P) := by
  intro ts t r h
  cases P with
  | none => cases h
  | some p =>
    have := hP p rfl ts.tail t r h
    rw [List.length_tail] at this
    omega
theorem shr_unary {U E : Option (List Tk → Re Tr)} (hU : ShrO U) (hE : ShrO E) : Shr (unaryOf U E) := by
  intro ts t r h
  rw [unaryOf] at h
  split at h
  · obtain ⟨u, q, h1, h2⟩ := thenR_inr h
    cases h2
    exact shr_in hU _ _ _ h1
  · split at h
    · obtain ⟨u, q, h1, h2⟩ := thenR_inr h
      have := shr_in hE ts u q h1
      split at h2
      · cases h2; rw [List.length_tail]; omega
      · cases h2
    · exact shr_leaf ts t r h
theorem shr_not {N : Option (List Tk → Re Tr)} {U : List Tk → Re Tr} (hN : ShrO N) (hU : Shr U) : Shr (notOf N U) := by
  intro ts t r h
  rw [notOf] at h
  split at h
  · obtain ⟨u, q, h1, h2⟩ := thenR_inr h
    cases h2
    exact shr_in hN _ _ _ h1
  · exact shr_comp hU ts t r h
theorem shr_un (n : Nat) : Shr (unaryP n) ∧ Shr (notP n) := by
  induction n with
  | zero =>
    have h1 : Shr (unaryP 0) := by rw [unaryP_eq]; exact shr_unary (fun p e => by cases e) (fun p e => by cases e)
    exact ⟨h1, by rw [notP_eq]; exact shr_not (fun p e => by cases e) h1⟩
  | succ n ih =>
    have hE : Shr (exprP n) := shr_chain (shr_chain ih.2 _) _
    have h1 : Shr (unaryP (n + 1)) := by rw [unaryP_eq]; exact shr_unary (fun p e => by cases e; exact ih.1) (fun p e => by cases e; exact hE)
    exact ⟨h1, by rw [notP_eq]; exact shr_not (fun p e => by cases e; exact ih.2) h1⟩
theorem shr_expr (n : Nat) : Shr (exprP n) := shr_chain (shr_chain (shr_un n).2 _) _

theorem deep_below {d n : Nat} (h : d + n = 64) (f : Nat → List Tk → Re Tr) : below f n = deepP d (f (n - 1)) := by
  cases n with
  | zero => rw [deepP, if_pos (by omega)]; rfl
  | succ n => rw [deepP, if_neg (by omega)]; rfl

end Go.Proofs.Ytnboooaockgoiab
/- Rows of things in memory; the grammar's statements as plain functions over words. -/
namespace Go.Proofs.Ytnboooaockgoiab
open Go.RowKit
set_option linter.unusedVariables false

/-- A kind of thing in memory: how many cells, and when they are it. -/
structure Ek (α : Type) where
  k : Nat
  E : (Nat → Prop) → World → α → List Value → Prop
  keep : ∀ {Q : Nat → Prop} {w w' : World} {t : α} {cs : List Value}, (∀ b, Q b → b < w.heap.size → w'.heap[b]? = w.heap[b]?) → E Q w t cs → E Q w' t cs
  mono : ∀ {Q Q' : Nat → Prop} {w : World} {t : α} {cs : List Value}, (∀ b, Q b → b < w.heap.size → Q' b) → E Q w t cs → E Q' w t cs
def eTag : Ek Int := ⟨1, fun _ _ z cs => cs = [.int .u16 z], fun _ h => h, fun _ h => h⟩
abbrev Co := ByteArray × Int × ByteArray
def eCol : Ek Co := ⟨3, fun _ _ c cs => cs = [.string c.1, .int .i64 c.2.1, .string c.2.2], fun _ h => h, fun _ h => h⟩
abbrev It := Int × ByteArray × ByteArray
def eItem : Ek It := ⟨3, fun _ _ c cs => cs = [.int .i64 c.1, .string c.2.1, .string c.2.2], fun _ h => h, fun _ h => h⟩
def exC (o : Int) (p : Pay) (sl : Value) : List Value := [.int .i64 o, .int .i64 p.1, .int .i64 p.2.1, .string p.2.2.1, .string p.2.2.2.1, .string p.2.2.2.2, sl]
def eExpr : Ek Tr := ⟨7, fun Q w t cs => ∃ op p a n c, cs = exC op p (.slice a n c) ∧ Ex Q w t (exV op p (.slice a n c)),
  fun hk ⟨op, p, a, n, c, h1, h2⟩ => ⟨op, p, a, n, c, h1, h2.keep hk⟩, fun hk ⟨op, p, a, n, c, h1, h2⟩ => ⟨op, p, a, n, c, h1, h2.mono hk⟩⟩
/-- The value is a slice that reads as the list; its rows lie in blocks that Q lets. -/
def RowIs {α : Type} (e : Ek α) (Q : Nat → Prop) (w : World) (v : Value) (l : List α) : Prop :=
  ∃ ao n c, v = .slice ao n c ∧ l.length = n ∧ n ≤ c ∧ c ≤ 9223372036854775807 ∧ (0 < n → ∃ b o, ao = some ⟨b, o, none⟩ ∧ Q b ∧ ∀ i (h : i < l.length), ∃ cs, e.E Q w l[i] cs ∧ cs.length = e.k ∧ ∀ j (hj : j < cs.length), w.cell? ⟨b, o + i * e.k + j, none⟩ = some cs[j])
theorem RowIs.nil {α : Type} (e : Ek α) (Q : Nat → Prop) (w : World) : RowIs e Q w (.slice none 0 0) [] := ⟨none, 0, 0, rfl, rfl, Nat.le_refl _, by omega, fun h => absurd h (Nat.lt_irrefl _)⟩
theorem RowIs.keep {α : Type} {e : Ek α} (he : 0 < e.k) {Q : Nat → Prop} {w w' : World} {v : Value} {l : List α} (hk : ∀ b, Q b → b < w.heap.size → w'.heap[b]? = w.heap[b]?) (h : RowIs e Q w v l) : RowIs e Q w' v l := by
  obtain ⟨ao, n, c, hv, hl, hn, hc, hx⟩ := h
  refine ⟨ao, n, c, hv, hl, hn, hc, fun hp => ?_⟩
  obtain ⟨b, o, ha, hq, hi⟩ := hx hp
  refine ⟨b, o, ha, hq, fun i h => ?_⟩
  obtain ⟨cs, h1, h2, h3⟩ := hi i h
  have hb : b < w.heap.size := World.block_lt_of_cell? _ _ (h3 0 (by omega))
  exact ⟨cs, e.keep hk h1, h2, fun j hj => (World.cell?_of_block (a := ⟨b, _, none⟩) (hk b hq hb)).trans (h3 j hj)⟩
theorem RowIs.mono {α : Type} {e : Ek α} (he : 0 < e.k) {Q Q' : Nat → Prop} {w : World} {v : Value} {l : List α} (hk : ∀ b, Q b → b < w.heap.size → Q' b) (h : RowIs e Q w v l) : RowIs e Q' w v l := by
  obtain ⟨ao, n, c, hv, hl, hn, hc, hx⟩ := h
  refine ⟨ao, n, c, hv, hl, hn, hc, fun hp => ?_⟩
  obtain ⟨b, o, ha, hq, hi⟩ := hx hp
  have hb : b < w.heap.size := by
    obtain ⟨cs, h1, h2, h3⟩ := hi 0 (by omega)
    exact World.block_lt_of_cell? _ _ (h3 0 (by omega))
  exact ⟨b, o, ha, hk b hq hb, fun i h => by
    obtain ⟨cs, h1, h2, h3⟩ := hi i h
    exact ⟨cs, e.mono hk h1, h2, h3⟩⟩

/-- A row of the call's own, thing by thing. -/
def OwnR (ty k B : Nat) (w : World) (v : Value) (css : List (List Value)) : Prop := (∀ cs ∈ css, cs.length = k) ∧ w.ownsRow B ty k v css.length css.flatten
theorem flat_at {k : Nat} : ∀ {css : List (List Value)}, (∀ cs ∈ css, cs.length = k) → ∀ {i j : Nat} (hi : i < css.length) (hj : j < k), css.flatten[i * k + j]? = (css[i])[j]? := by
  intro css
  induction css with
  | nil => intro _ i j hi; simp at hi
  | cons c l ih =>
    intro h i j hi hj
    have hc := h c (by simp)
    cases i with
    | zero => rw [List.flatten_cons, List.getElem?_append_left (by omega)]; simp
    | succ i =>
      rw [List.flatten_cons, List.getElem?_append_right (by rw [hc, Nat.succ_mul]; omega), show (i + 1) * k + j - c.length = i * k + j from by rw [hc, Nat.succ_mul]; omega]
      exact ih (fun x hx => h x (by simp [hx])) (by simpa using hi) hj
theorem OwnR.row {α : Type} {e : Ek α} {ty B : Nat} {w : World} {v : Value} {css : List (List Value)} {l : List α} {Q : Nat → Prop} (h : OwnR ty e.k B w v css) (hl : l.length = css.length) (hn : css ≠ []) (hq : ∀ b, B ≤ b → b < w.heap.size → Q b)
    (hE : ∀ i (h1 : i < l.length) (h2 : i < css.length), e.E Q w l[i] css[i]) : RowIs e Q w v l := by
  rcases h.2.2 with ⟨rfl, h0⟩ | ⟨g, cap, cur, rfl, hb, hg, hnc, hc, hs, ht⟩
  · exact absurd (List.eq_nil_of_length_eq_zero h0) hn
  · have hgl : g < w.heap.size := (Array.getElem?_eq_some_iff.1 hg).1
    refine ⟨_, css.length, cap, rfl, hl, hnc, by simpa [maxLen] using hc, fun hp => ⟨g, 0, rfl, hq g hb hgl, fun i hi => ⟨css[i]'(by omega), hE i hi (by omega), h.1 _ (List.getElem_mem _), fun j hj => ?_⟩⟩⟩
    have hk := h.1 _ (List.getElem_mem (l := css) (n := i) (by omega))
    have hlt : i * e.k + j < css.length * e.k := by
      have : (i + 1) * e.k ≤ css.length * e.k := Nat.mul_le_mul_right _ (by omega)
      rw [Nat.succ_mul] at this
      omega
    have c0 := World.ownsRow.cellAt h.2 (i * e.k + j) hlt
    rw [Nat.zero_add, c0, flat_at h.1 (by omega) (by omega)]
    exact List.getElem?_eq_getElem hj
theorem OwnR.but {ty k B g : Nat} {w w' : World} {v : Value} {css : List (List Value)} (h : OwnR ty k B w v css) (hb : But g w w') (hg : g < B) : OwnR ty k B w' v css := by
  refine ⟨h.1, h.2.1, ?_⟩
  rcases h.2.2 with k | ⟨b, cap, cur, hv, hg', hh, r⟩
  · exact .inl k
  · exact .inr ⟨b, cap, cur, hv, hg', by rw [hb.block b (Array.getElem?_eq_some_iff.1 hh).1 (by omega)]; exact hh, r⟩
theorem OwnR.alloc {ty k B : Nat} {w : World} {v : Value} {css : List (List Value)} (h : OwnR ty k B w v css) (o : Obj) : OwnR ty k B (w.alloc o) v css := ⟨h.1, World.ownsRow.alloc h.2 o⟩
theorem OwnR.lit (ty k B : Nat) (w : World) (cs : List Value) (hk : cs.length = k) (hB : B ≤ w.heap.size) : OwnR ty k B (w.alloc (.cells cs.toArray ty)) (.slice (some ⟨w.heap.size, 0, none⟩) 1 1) [cs] := by
  subst hk
  refine ⟨fun c hc => by simp at hc; rw [hc], by simp, .inr ⟨w.heap.size, 1, cs.toArray, rfl, hB, heap_alloc_new w _, Nat.le_refl _, by simp [maxLen], by simp, by simp⟩⟩
theorem run_appR {t ty e : TypeId} {z : Value} {k bytes B : Nat} (ht : Try.prog.underlying t = some (.slice e)) (hinf : (Try.prog.info? e).map (fun i => (i.zero, i.size, i.bytes)) = some (some z, k, bytes)) (hzs : z.cells.size = k) (hk : 0 < k) (hby : bytes ≤ 1000)
    (w : World) (v : Value) (css : List (List Value)) (g : Nat) (cs : List Value) (hown : OwnR e k B w v css) (hcs : cs.length = k) (h1 : ∀ u ∈ cs, u.oneCell' = true) (hx : ∀ j (hj : j < cs.length), w.cell? ⟨g, j, none⟩ = some cs[j]) (hl : css.length ≤ 1000) (hB : B ≤ w.heap.size) :
    ∃ v' w', (Builtin.append_ #[t, t] ty #[v, .slice (some ⟨g, 0, none⟩) 1 1]).run Try.prog w = .ok v' w' ∧ OwnR e k B w' v' (css ++ [cs]) ∧ w.grownBy w' v.ownBlock ∧ (v'.ownBlock = v.ownBlock ∨ v'.ownBlock = some w.heap.size) := by
  obtain ⟨i, hi, hz, hsz, hb⟩ := info_parts hinf
  obtain ⟨v', w', hr, h2, h3, _, h5⟩ := run_append_own_at (P := Try.prog) w B t ty e i z k bytes ht hi hz hsz hb hzs hk v css.length _ hown.2 ⟨g, 0, none⟩ 1 1 cs (by omega)
    (by
      intro j u hj
      obtain ⟨hj1, hj2⟩ := List.getElem?_eq_some_iff.1 hj
      have := hx j hj1
      rw [hj2] at this
      have e : (⟨g, 0, none⟩ : Addr).add j = ⟨g, j, none⟩ := by unfold Addr.add; split <;> simp_all
      rw [e]
      exact this)
    h1 (by unfold maxLen; omega) (by have : (css.length + 1) * bytes ≤ 1001 * 1000 := Nat.mul_le_mul (by omega) hby; omega) hB
  refine ⟨v', w', hr, ⟨?_, ?_⟩, h3, h5⟩
  · intro c hc
    rw [List.mem_append, List.mem_singleton] at hc
    rcases hc with hc | rfl
    · exact hown.1 c hc
    · exact hcs
  · simpa using h2
theorem wpList_appR {t e : TypeId} {z : Value} {k bytes B : Nat} (ht : Try.prog.underlying t = some (.slice e)) (hinf : (Try.prog.info? e).map (fun i => (i.zero, i.size, i.bytes)) = some (some z, k, bytes)) (hzs : z.cells.size = k) (hk : 0 < k) (hby : bytes ≤ 1000)
    {w : World} {ops : Array Oper} {rest : List Oper} {o : Oper} {a : Act} {Q : Exit → Act → World → Prop} (hgd : o.guard = none) (s x : Operand)
    (ho : o.op = .call { callee := .builtin .append, args := #[s, x], argTypes := #[t, t] }) (v : Value) (css : List (List Value)) (g : Nat) (cs : List Value) (hs : a.eval s = v) (hx : a.eval x = .slice (some ⟨g, 0, none⟩) 1 1)
    (hown : OwnR e k B w v css) (hcs : cs.length = k) (h1 : ∀ u ∈ cs, u.oneCell' = true) (hcell : ∀ j (hj : j < cs.length), w.cell? ⟨g, j, none⟩ = some cs[j]) (hl : css.length ≤ 1000) (hB : B ≤ w.heap.size)
    (h : ∀ v' w', OwnR e k B w' v' (css ++ [cs]) → w.grownBy w' v.ownBlock → (v'.ownBlock = v.ownBlock ∨ v'.ownBlock = some w.heap.size) → wpList Try.prog ops Q rest (a.put o.dst v') w') : wpList Try.prog ops Q (o :: rest) a w :=
  wpList_plain hgd fun _ hK => by
    obtain ⟨v', w', hr, h2, h3, h4⟩ := run_appR ht hinf hzs hk hby w v css g cs hown hcs h1 hcell hl hB (ty := o.type)
    unfold Oper.wp execOp
    simp only [ho, resolve, invoke, builtin, Sem.run_bind, Sem.run_pure, Result.andThen_ok, List.map_toArray, List.map_cons, List.map_nil, hs, hx, hr]
    exact hK _ _ (h v' w' h2 h3 h4)

/-- A statement without what stands in it. -/
structure Sm where
  kind : Int
  table : ByteArray
  name : ByteArray
  cols : List Co
  tags : List Int
  values : List Tr
  items : List It
  join : ByteArray
  on : List Tr
  wh : List Tr
  order : List Tr
  desc : Bool
def sm (k : Int) : Sm := ⟨k, ⟨#[]⟩, ⟨#[]⟩, [], [], [], [], ⟨#[]⟩, [], [], [], false⟩

def tagP (ts : List Tk) : Re Int :=
  match ts with
  | [] => .inl (0, 5)
  | t :: r => if t.1 = 3 then (if 65535 < t.2.2.1 then .inl (t.2.2.2, 3) else .inr (IntKind.u16.wrap t.2.2.1, r)) else .inl (t.2.2.2, 5)
def opsKind : List (ByteArray × Int) := [(⟨#[105, 110, 116]⟩, 1), (⟨#[116, 101, 120, 116]⟩, 2)]
def opsAgg : List (ByteArray × Int) := [(⟨#[115, 117, 109]⟩, 2), (⟨#[109, 105, 110]⟩, 3), (⟨#[109, 97, 120]⟩, 4)]
/-- A word that must stand there. -/
def wantU (s : ByteArray) (ts : List Tk) : Re Unit := if isTk s ts then .inr ((), ts.tail) else .inl (atOf ts, 5)
/-- One thing behind another. -/
def seqP {α β γ : Type} (f : α → β → γ) (P : List Tk → Re α) (P' : List Tk → Re β) (ts : List Tk) : Re γ := thenR (P ts) fun a r => mapR (f a) (P' r)
/-- If that word stands there: it, and what is behind it. -/
def optP {α : Type} (s : ByteArray) (z : α) (P : List Tk → Re α) (ts : List Tk) : Re α := if isTk s ts then P ts.tail else .inr (z, ts)
def choiceP (l : List (ByteArray × Int)) (ts : List Tk) : Re Int := if oneOf l ts = 0 then .inl (atOf ts, 5) else .inr (oneOf l ts, ts.tail)
def colP : List Tk → Re Co := seqP (fun n x => (n, x.1, x.2)) nameP (seqP Prod.mk (choiceP opsKind) (optP ⟨#[114, 101, 102]⟩ ⟨#[]⟩ nameP))
/-- What an item says of a column. -/
def itemC (g : Int) : Tr → It
  | .nil => (g, ⟨#[]⟩, ⟨#[]⟩)
  | .node _ _ p _ _ => (g, p.2.2.2.1, p.2.2.2.2)
def itemP (ts : List Tk) : Re It :=
  if isTk ⟨#[99, 111, 117, 110, 116]⟩ ts then seqP (fun _ _ => (1, ⟨#[]⟩, ⟨#[]⟩)) (wantU ⟨#[40]⟩) (seqP (fun _ _ => ()) (wantU ⟨#[42]⟩) (wantU ⟨#[41]⟩)) ts.tail
  else if oneOf opsAgg ts = 0 then mapR (itemC 0) (columnP ts)
  else seqP (fun _ x => itemC (oneOf opsAgg ts) x) (wantU ⟨#[40]⟩) (seqP (fun x _ => x) columnP (wantU ⟨#[41]⟩)) ts.tail
def brP {α : Type} (P : List Tk → Re α) : List Tk → Re (List α) := seqP (fun _ l => l) (wantU ⟨#[40]⟩) (seqP (fun l _ => l) (listP P) (wantU ⟨#[41]⟩))
def behindP (ts : List Tk) : Re (List Tr) := optP ⟨#[119, 104, 101, 114, 101]⟩ [] (fun r => mapR (fun x => [x]) (exprP 64 r)) ts
def onP : List Tk → Re (List Tr) := seqP (fun _ l => l) (wantU ⟨#[111, 110]⟩) (seqP (fun a b => [a, b]) columnP (seqP (fun _ b => b) (wantU ⟨#[61]⟩) columnP))
def orderP : List Tk → Re (List Tr) := seqP (fun _ l => l) (wantU ⟨#[98, 121]⟩) (fun r => mapR (fun x => [x]) (columnP r))

end Go.Proofs.Ytnboooaockgoiab
/- The walks of list and bracketed, at each type; behind. -/
namespace Go.Proofs.Ytnboooaockgoiab
open Go.RowKit
set_option linter.unusedVariables false

def LiR {α : Type} (P : List Tk → Re α) (R : Re (List α)) (S : Sa) (css : List (List Value)) (E : α → List Value → Prop) : Prop :=
  (∃ e, S = .inl e ∧ R = .inl e) ∨ ∃ ts l k, S = .inr ts ∧ ts.length ≤ k ∧ R = listL P k l ts ∧ l.length = css.length ∧ ∀ i (h1 : i < l.length) (h2 : i < css.length), E l[i] css[i]
theorem LiR.start {α : Type} {P : List Tk → Re α} {S : Sa} {cs : List Value} {E : α → List Value → Prop} (h : ∀ t r, runP P S = .inr (t, r) → E t cs) : LiR P (runP (listP P) S) (stO (runP P S)) [cs] E := by
  match S with
  | .inl x => exact .inl ⟨x, rfl, rfl⟩
  | .inr ts =>
    have e1 : runP P (.inr ts) = P ts := rfl
    have e2 : runP (listP P) (.inr ts) = thenR (P ts) fun x r => listL P r.length [x] r := rfl
    rw [e1] at h
    rw [e1, e2]
    cases hp : P ts with
    | inl x => exact .inl ⟨x, rfl, rfl⟩
    | inr x =>
      refine .inr ⟨x.2, [x.1], x.2.length, rfl, Nat.le_refl _, rfl, rfl, fun i h1 h2 => ?_⟩
      have : i = 0 := by simp at h1; omega
      subst this
      exact h x.1 x.2 hp
theorem LiR.mono {α : Type} {P : List Tk → Re α} {R : Re (List α)} {S : Sa} {css : List (List Value)} {E E' : α → List Value → Prop} (h : LiR P R S css E) (k : ∀ t cs, E t cs → E' t cs) : LiR P R S css E' := by
  rcases h with h | ⟨ts, l, n, h1, h2, h3, h4, h5⟩
  · exact .inl h
  · exact .inr ⟨ts, l, n, h1, h2, h3, h4, fun i a b => k _ _ (h5 i a b)⟩
theorem LiR.stop {α : Type} {P : List Tk → Re α} {R : Re (List α)} {S : Sa} {css : List (List Value)} {E : α → List Value → Prop} (h : LiR P R S css E) (hz : takeB ⟨#[44]⟩ S = false) : stO R = S ∧ ∀ l r, R = .inr (l, r) → l.length = css.length ∧ ∀ i (h1 : i < l.length) (h2 : i < css.length), E l[i] css[i] := by
  rcases h with ⟨e, rfl, rfl⟩ | ⟨ts, l, k, rfl, hk, hR, hl, hE⟩
  · exact ⟨rfl, fun t r e => by cases e⟩
  · have hz' : isTk ⟨#[44]⟩ ts = false := hz
    have e : listL P k l ts = .inr (l, ts) := by
      cases k with
      | zero => rfl
      | succ k => rw [listL, if_neg (by rw [hz']; simp)]
    rw [hR, e]
    exact ⟨rfl, fun t' r e => by cases e; exact ⟨hl, hE⟩⟩
theorem LiR.go {α : Type} {P : List Tk → Re α} {R : Re (List α)} {t : Tk} {ts : List Tk} {css : List (List Value)} {E : α → List Value → Prop} (hP : Shr P) (h : LiR P R (.inr (t :: ts)) css E) (hz : takeB ⟨#[44]⟩ (.inr (t :: ts)) = true) : szS (stO (P ts)) ≤ ts.length ∧
    ∀ (cs : List Value) (E' : α → List Value → Prop), (∀ u ds, E u ds → E' u ds) → (∀ u r, P ts = .inr (u, r) → E' u cs) → LiR P R (stO (P ts)) (css ++ [cs]) E' := by
  rcases h with ⟨e, he, _⟩ | ⟨ts', l, k, he, hk, hR, hl, hE⟩
  · cases he
  · cases he
    have hz' : isTk ⟨#[44]⟩ (t :: ts) = true := hz
    refine ⟨?_, fun cs E' hm hn => ?_⟩
    · cases hp : P ts with
      | inl y => exact Nat.zero_le _
      | inr y => exact hP ts y.1 y.2 hp
    · cases k with
      | zero => simp at hk
      | succ k =>
        rw [listL, if_pos hz'] at hR
        have hR2 : R = thenR (P ts) fun y r' => listL P k (l ++ [y]) r' := hR
        rw [hR2]
        cases hp : P ts with
        | inl y => exact .inl ⟨y, rfl, rfl⟩
        | inr y =>
          have := hP ts y.1 y.2 hp
          refine .inr ⟨y.2, l ++ [y.1], k, rfl, by simp at hk; omega, rfl, by simp [hl], fun i h1 h2 => ?_⟩
          by_cases hi : i < l.length
          · rw [List.getElem_append_left hi, List.getElem_append_left (by omega)]
            exact hm _ _ (hE i hi (by omega))
          · rw [List.length_append, List.length_singleton] at h1
            obtain rfl : i = l.length := by omega
            rw [List.getElem_append_right (Nat.le_refl _), List.getElem_append_right (by omega)]
            simpa [hl] using hn y.1 y.2 hp
theorem But.grown {g : Nat} {w w3 w4 : World} {row : Option Nat} (h : But g w w3) (hg : w3.grownBy w4 row) (hrow : ∀ k, row = some k → w.heap.size ≤ k) : But g w w4 :=
  ⟨hg.os.trans h.os, hg.tape.trans h.tape, hg.output.trans h.output, Nat.le_trans h.size hg.size, fun k hk hgk => (hg.block k (Nat.lt_of_lt_of_le hk h.size) (fun e => by have := hrow k e.symm; omega)).trans (h.block k hk hgk)⟩
theorem Ek.grow {α : Type} (e : Ek α) {w5 w6 : World} {B : Nat} {row own : Option Nat} {u : α} {ds : List Value} (hE : e.E (fun b => B ≤ b ∧ some b ≠ row) w5 u ds) (hg : w5.grownBy w6 row) (hown : own = row ∨ own = some w5.heap.size) : e.E (fun b => B ≤ b ∧ some b ≠ own) w6 u ds :=
  e.mono (fun b hq _ => ⟨hq.1, hq.2.2⟩) (e.keep (w := w5) (fun b hq hlt => hg.block b hlt hq.2.1) (e.mono (Q' := fun b => B ≤ b ∧ some b ≠ row ∧ some b ≠ own) (fun b hq hlt => ⟨hq.1, hq.2, by
    rcases hown with h | h
    · rw [h]; exact hq.2
    · rw [h]; simp; omega⟩) hE))
theorem OwnR.blk {ty k B : Nat} {w : World} {v : Value} {css : List (List Value)} (h : OwnR ty k B w v css) : ∀ b, v.ownBlock = some b → B ≤ b ∧ b < w.heap.size := fun b e => World.ownsRow.lt h.2 b e

theorem Try.infoTExpr : (Try.prog.info? 100).map (fun i => (i.zero, i.size, i.bytes)) = some (some (.agg #[.int .i64 0, .int .i64 0, .int .i64 0, .string ⟨#[]⟩, .string ⟨#[]⟩, .string ⟨#[]⟩, .slice none 0 0]), 7, 96) := by kernel_rfl
end Go.Proofs.Ytnboooaockgoiab
/- The walks of list at uint16. -/
namespace Go.Proofs.Ytnboooaockgoiab
open Go.RowKit
set_option linter.unusedVariables false

theorem Try.infoTTag : (Try.prog.info? 87).map (fun i => (i.zero, i.size, i.bytes)) = some (some (.int .u16 0), 1, 2) := by kernel_rfl
end Go.Proofs.Ytnboooaockgoiab
/- The walks of list at api.Col. -/
namespace Go.Proofs.Ytnboooaockgoiab
open Go.RowKit
set_option linter.unusedVariables false

theorem Try.infoTCol : (Try.prog.info? 36).map (fun i => (i.zero, i.size, i.bytes)) = some (some (.agg #[.string ⟨#[]⟩, .int .i64 0, .string ⟨#[]⟩]), 3, 40) := by kernel_rfl
end Go.Proofs.Ytnboooaockgoiab
/- The walks of list at api.Item. -/
namespace Go.Proofs.Ytnboooaockgoiab
open Go.RowKit
set_option linter.unusedVariables false

theorem Try.infoTItem : (Try.prog.info? 104).map (fun i => (i.zero, i.size, i.bytes)) = some (some (.agg #[.int .i64 0, .string ⟨#[]⟩, .string ⟨#[]⟩]), 3, 40) := by kernel_rfl
end Go.Proofs.Ytnboooaockgoiab
/- The walks of bracketed, behind, tag, col. -/
namespace Go.Proofs.Ytnboooaockgoiab
open Go.RowKit
set_option linter.unusedVariables false

theorem wantU_st (s : ByteArray) (S : Sa) : stO (runP (wantU s) S) = wantS s S := by
  match S with
  | .inl x => rfl
  | .inr ts =>
    show stO (wantU s ts) = _
    rw [wantU, wantS]
    split <;> rfl
theorem seq_st {α β γ : Type} (f : α → β → γ) (P : List Tk → Re α) (P' : List Tk → Re β) (S : Sa) : stO (runP (seqP f P P') S) = stO (runP P' (stO (runP P S))) := by
  match S with
  | .inl x => rfl
  | .inr ts =>
    show stO (seqP f P P' ts) = stO (runP P' (stO (P ts)))
    rw [seqP]
    cases P ts with
    | inl x => rfl
    | inr x => exact stO_mapR _ _
theorem seq_inr {α β γ : Type} {f : α → β → γ} {P : List Tk → Re α} {P' : List Tk → Re β} {S : Sa} {t : γ} {r : List Tk} (h : runP (seqP f P P') S = .inr (t, r)) : ∃ a b q, runP P S = .inr (a, q) ∧ runP P' (stO (runP P S)) = .inr (b, r) ∧ t = f a b := by
  match S with
  | .inl x => cases h
  | .inr ts =>
    obtain ⟨a, q, h1, h2⟩ := thenR_inr (x := P ts) (f := fun a r => mapR (f a) (P' r)) h
    obtain ⟨b, h3, h4⟩ := mapR_inr h2
    have e : runP P (.inr ts) = .inr (a, q) := h1
    exact ⟨a, b, q, e, by rw [e]; exact h3, h4⟩
theorem br_st {α : Type} (P : List Tk → Re α) (S : Sa) : stO (runP (brP P) S) = wantS ⟨#[41]⟩ (stO (runP (listP P) (wantS ⟨#[40]⟩ S))) := by rw [brP, seq_st, wantU_st, seq_st, wantU_st]
theorem opt_true {α : Type} {s : ByteArray} {z : α} {P : List Tk → Re α} {S : Sa} (h : takeB s S = true) : runP (optP s z P) S = runP P (takeS s S) := by
  match S with
  | .inl x => cases h
  | .inr ts =>
    have h' : isTk s ts = true := h
    show optP s z P ts = runP P (if isTk s ts then .inr ts.tail else .inr ts)
    rw [optP, if_pos h', if_pos h']
    rfl
theorem opt_false {α : Type} {s : ByteArray} {z : α} {P : List Tk → Re α} {S : Sa} (h : takeB s S = false) : stO (runP (optP s z P) S) = S ∧ ∀ t r, runP (optP s z P) S = .inr (t, r) → t = z := by
  match S with
  | .inl x => exact ⟨rfl, fun t r e => by cases e⟩
  | .inr ts =>
    have h' : isTk s ts = false := h
    have e : runP (optP s z P) (.inr ts) = .inr (z, ts) := by
      show optP s z P ts = _
      rw [optP, if_neg (by rw [h']; simp)]
    rw [e]
    exact ⟨rfl, fun t r e => by cases e; rfl⟩
theorem map_run {α β : Type} (f : α → β) (P : List Tk → Re α) (S : Sa) : runP (fun r => mapR f (P r)) S = mapR f (runP P S) := by cases S <;> rfl
theorem choice_zero {w : World} {g d : Nat} {l : List (ByteArray × Int)} (h0 : ∀ c ∈ l, 0 < c.2) {S : Sa} (h : oneB l S = 0) : stO (runP (choiceP l) S) = failS 5 (oneS l S) ∧ ∀ t r, runP (choiceP l) S ≠ .inr (t, r) := by
  match S with
  | .inl x => exact ⟨rfl, fun t r e => by cases e⟩
  | .inr ts =>
    have h' : oneOf l ts = 0 := h
    have e : runP (choiceP l) (.inr ts) = .inl (atOf ts, 5) := by
      show choiceP l ts = _
      rw [choiceP, if_pos h']
    rw [e, oneOf_zero h0 h']
    exact ⟨rfl, fun t r e => by cases e⟩
theorem choice_some {l : List (ByteArray × Int)} (h0 : ∀ c ∈ l, 0 < c.2) {S : Sa} (h : oneB l S ≠ 0) : stO (runP (choiceP l) S) = oneS l S ∧ ∀ t r, runP (choiceP l) S = .inr (t, r) → t = oneB l S := by
  match S with
  | .inl x => exact absurd rfl h
  | .inr ts =>
    have h' : oneOf l ts ≠ 0 := h
    have e : runP (choiceP l) (.inr ts) = .inr (oneOf l ts, ts.tail) := by
      show choiceP l ts = _
      rw [choiceP, if_neg h']
    rw [e, (oneOf_some h0 h').1]
    exact ⟨rfl, fun t r e => by cases e; rfl⟩

theorem RowIs.later {α : Type} {e : Ek α} (he : 0 < e.k) {Q : Nat → Prop} {w w' : World} {v : Value} {l : List α} (h : RowIs e Q w v l) (hb : Below w.heap.size w w') : RowIs e Q w' v l := h.keep he fun b _ hlt => hb.block b hlt
theorem RowIs.but {α : Type} {e : Ek α} (he : 0 < e.k) {Q : Nat → Prop} {w w' : World} {v : Value} {l : List α} {g : Nat} (h : RowIs e Q w v l) (hb : But g w w') (hg : ¬ Q g) : RowIs e Q w' v l := h.keep he fun b hq hlt => hb.block b hlt (by rintro rfl; exact hg hq)

/-- A slice of one expression, new. -/
theorem row_one (w : World) (t : Tr) (o : Int) (p : Pay) (a : Option Addr) (m c : Nat) (Q : Nat → Prop) (hq : Q w.heap.size) (h : Ex Q w t (exV o p (.slice a m c))) :
    RowIs eExpr Q (w.alloc (.cells #[.int .i64 o, .int .i64 p.1, .int .i64 p.2.1, .string p.2.2.1, .string p.2.2.2.1, .string p.2.2.2.2, .slice a m c] 100)) (.slice (some ⟨w.heap.size, 0, none⟩) 1 1) [t] := by
  refine ⟨_, 1, 1, rfl, rfl, Nat.le_refl _, by omega, fun _ => ⟨w.heap.size, 0, rfl, hq, fun i hi => ?_⟩⟩
  obtain rfl : i = 0 := by simp at hi; omega
  refine ⟨exC o p (.slice a m c), ⟨o, p, a, m, c, rfl, h.later (bal (Below.refl _ w) _)⟩, rfl, fun j hj => ?_⟩
  have hj' : j < 7 := hj
  match j, hj' with
  | 0, _ => exact cell_new w _ _ _ 0
  | 1, _ => exact cell_new w _ _ _ 1
  | 2, _ => exact cell_new w _ _ _ 2
  | 3, _ => exact cell_new w _ _ _ 3
  | 4, _ => exact cell_new w _ _ _ 4
  | 5, _ => exact cell_new w _ _ _ 5
  | 6, _ => exact cell_new w _ _ _ 6

end Go.Proofs.Ytnboooaockgoiab
/- The walks of tag, col. -/
namespace Go.Proofs.Ytnboooaockgoiab
open Go.RowKit
set_option linter.unusedVariables false

theorem tag_ok {S : Sa} (h : ¬ ((nxT S).1 = 3 ∧ 65535 < (nxT S).2.2.1)) : runP tagP S = mapR (fun t => IntKind.u16.wrap t.2.2.1) (runP (kindP 3) S) := by
  match S with
  | .inl x => rfl
  | .inr [] => rfl
  | .inr (t :: ts) =>
    have h' : ¬ (t.1 = 3 ∧ 65535 < t.2.2.1) := h
    show tagP (t :: ts) = mapR _ (kindP 3 (t :: ts))
    rw [tagP, kindP]
    by_cases h3 : t.1 = 3
    · rw [if_pos h3, if_pos h3, if_neg (fun k => h' ⟨h3, k⟩)]
      rfl
    · rw [if_neg h3, if_neg h3]
      rfl
theorem tag_big {S : Sa} (h : (nxT S).1 = 3 ∧ 65535 < (nxT S).2.2.1) : stO (runP tagP S) = failS 3 S ∧ (∀ t r, runP tagP S ≠ .inr (t, r)) ∧ ∃ x, failS 3 S = .inl x := by
  match S with
  | .inl x => exact absurd h.1 (by simp [nxT])
  | .inr [] => exact absurd h.1 (by decide)
  | .inr (t :: ts) =>
    have h' : t.1 = 3 ∧ 65535 < t.2.2.1 := h
    have e : runP tagP (.inr (t :: ts)) = .inl (t.2.2.2, 3) := by
      show tagP (t :: ts) = _
      rw [tagP, if_pos h'.1, if_pos h'.2]
    rw [e]
    exact ⟨rfl, fun t r e => (by cases e), ⟨_, rfl⟩⟩

/-- A block of three cells. -/
structure Bt (w : World) (b ty : Nat) (x y z : Value) : Prop where
  row : w.heap[b]? = some (.cells #[x, y, z] ty (0, 0))
theorem Bt.new (w : World) (ty : Nat) (x y z : Value) : Bt (w.alloc (.cells #[x, y, z] ty)) w.heap.size ty x y z := ⟨heap_alloc_new w _⟩
theorem Bt.lt {w : World} {b ty : Nat} {x y z : Value} (h : Bt w b ty x y z) : b < w.heap.size := (Array.getElem?_eq_some_iff.1 h.row).1
theorem Bt.keep {w w' : World} {b ty : Nat} {x y z : Value} (h : Bt w b ty x y z) (hk : w'.heap[b]? = w.heap[b]?) : Bt w' b ty x y z := ⟨hk.trans h.row⟩
theorem Bt.later {w w' : World} {b ty : Nat} {x y z : Value} (h : Bt w b ty x y z) (hb : Below w.heap.size w w') : Bt w' b ty x y z := h.keep (hb.block b h.lt)
theorem Bt.but {w w' : World} {b ty g : Nat} {x y z : Value} (h : Bt w b ty x y z) (hb : But g w w') (hg : b ≠ g) : Bt w' b ty x y z := h.keep (hb.block b h.lt hg)
theorem Bt.cells {w : World} {b ty : Nat} {x y z : Value} (h : Bt w b ty x y z) : w.cell? ⟨b, 0, none⟩ = some x ∧ w.cell? ⟨b, 1, none⟩ = some y ∧ w.cell? ⟨b, 2, none⟩ = some z := by
  unfold World.cell?; rw [h.row]; exact ⟨rfl, rfl, rfl⟩
theorem Bt.free {w : World} {b ty : Nat} {x y z : Value} (h : Bt w b ty x y z) : w.frozen? ⟨b, 0, none⟩ = false ∧ w.frozen? ⟨b, 1, none⟩ = false ∧ w.frozen? ⟨b, 2, none⟩ = false := by
  unfold World.frozen?; rw [h.row]; exact ⟨rfl, rfl, rfl⟩
theorem Bt.set0 {w : World} {b ty : Nat} {x y z : Value} (h : Bt w b ty x y z) (v : Value) : Bt (w.setCell ⟨b, 0, none⟩ v) b ty v y z := ⟨by simp [World.setCell, Array.getElem?_modify, h.row]⟩
theorem Bt.set1 {w : World} {b ty : Nat} {x y z : Value} (h : Bt w b ty x y z) (v : Value) : Bt (w.setCell ⟨b, 1, none⟩ v) b ty x v z := ⟨by simp [World.setCell, Array.getElem?_modify, h.row]⟩
theorem Bt.set2 {w : World} {b ty : Nat} {x y z : Value} (h : Bt w b ty x y z) (v : Value) : Bt (w.setCell ⟨b, 2, none⟩ v) b ty x y v := ⟨by simp [World.setCell, Array.getElem?_modify, h.row]⟩
theorem Bt.other {w : World} {b ty : Nat} {x y z : Value} (h : Bt w b ty x y z) {r : Nat} (hr : b ≠ r) (o : Nat) (v : Value) : Bt (w.setCell ⟨r, o, none⟩ v) b ty x y z := h.keep (Below.heap_setCell _ _ _ _ hr)
def set3 (w : World) (b : Nat) (x y z : Value) : World := ((w.setCell ⟨b, 0, none⟩ x).setCell ⟨b, 1, none⟩ y).setCell ⟨b, 2, none⟩ z
theorem But.set3 {g : Nat} {a w : World} (h : But g a w) {b : Nat} (hb : a.heap.size ≤ b) (x y z : Value) : But g a (set3 w b x y z) := ((h.new hb 0 _).new hb 1 _).new hb 2 _
theorem opsKind_pos : ∀ c ∈ opsKind, 0 < c.2 := by decide
theorem sz_set (w : World) (a : Addr) (v : Value) : (w.setCell a v).heap.size = w.heap.size := by simp [World.setCell]

end Go.Proofs.Ytnboooaockgoiab
/- The walk of col. -/
namespace Go.Proofs.Ytnboooaockgoiab
open Go.RowKit
set_option linter.unusedVariables false

theorem col_st (S : Sa) : stO (runP colP S) = stO (runP (optP ⟨#[114, 101, 102]⟩ ⟨#[]⟩ nameP) (stO (runP (choiceP opsKind) (stO (runP nameP S))))) := by rw [colP, seq_st, seq_st]
theorem col_inr {S : Sa} {t : Co} {r : List Tk} (h : runP colP S = .inr (t, r)) : ∃ n q k q2 f, runP nameP S = .inr (n, q) ∧ runP (choiceP opsKind) (stO (runP nameP S)) = .inr (k, q2) ∧ runP (optP ⟨#[114, 101, 102]⟩ ⟨#[]⟩ nameP) (stO (runP (choiceP opsKind) (stO (runP nameP S)))) = .inr (f, r) ∧ t = (n, k, f) := by
  obtain ⟨n, x, q, h1, h2, rfl⟩ := seq_inr h
  obtain ⟨k, f, q2, h3, h4, rfl⟩ := seq_inr h2
  exact ⟨n, q, k, q2, f, h1, h3, h4, rfl⟩

end Go.Proofs.Ytnboooaockgoiab
/- The walks of itemOf, item, on, order. -/
namespace Go.Proofs.Ytnboooaockgoiab
open Go.RowKit
set_option linter.unusedVariables false

theorem ex_item {Q : Nat → Prop} {w : World} {t : Tr} {o : Int} {p : Pay} {a : Option Addr} {n c : Nat} (h : Ex Q w t (exV o p (.slice a n c))) (k : Int) : itemC k t = (k, p.2.2.2.1, p.2.2.2.2) := by
  cases t with
  | nil => exact h.elim
  | node x op q l r =>
    obtain ⟨ao, n', c', hv, _⟩ := h
    simp only [exV, Value.agg.injEq, Array.mk.injEq, List.cons.injEq, Value.int.injEq, Value.string.injEq, true_and] at hv
    rw [itemC, hv.2.2.2.2.1, hv.2.2.2.2.2.1]
theorem item_count {S : Sa} (h : takeB ⟨#[99, 111, 117, 110, 116]⟩ S = true) : runP itemP S = runP (seqP (fun _ _ => ((1, ⟨#[]⟩, ⟨#[]⟩) : It)) (wantU ⟨#[40]⟩) (seqP (fun _ _ => ()) (wantU ⟨#[42]⟩) (wantU ⟨#[41]⟩))) (takeS ⟨#[99, 111, 117, 110, 116]⟩ S) := by
  match S with
  | .inl x => cases h
  | .inr ts =>
    have h' : isTk ⟨#[99, 111, 117, 110, 116]⟩ ts = true := h
    show itemP ts = runP _ (if isTk ⟨#[99, 111, 117, 110, 116]⟩ ts then .inr ts.tail else .inr ts)
    rw [itemP, if_pos h', if_pos h']
    rfl
theorem item_col {S : Sa} (h : takeB ⟨#[99, 111, 117, 110, 116]⟩ S = false) (h2 : oneB opsAgg S = 0) : runP itemP S = mapR (itemC 0) (runP columnP S) := by
  match S with
  | .inl x => rfl
  | .inr ts =>
    have h' : isTk ⟨#[99, 111, 117, 110, 116]⟩ ts = false := h
    have h2' : oneOf opsAgg ts = 0 := h2
    show itemP ts = _
    rw [itemP, if_neg (by rw [h']; simp), if_pos h2']
    rfl
theorem opsAgg_pos : ∀ c ∈ opsAgg, 0 < c.2 := by decide
theorem item_agg {S : Sa} (h : takeB ⟨#[99, 111, 117, 110, 116]⟩ S = false) (h2 : oneB opsAgg S ≠ 0) : runP itemP S = runP (seqP (fun _ x => itemC (oneB opsAgg S) x) (wantU ⟨#[40]⟩) (seqP (fun x _ => x) columnP (wantU ⟨#[41]⟩))) (oneS opsAgg S) := by
  match S with
  | .inl x => rfl
  | .inr ts =>
    have h' : isTk ⟨#[99, 111, 117, 110, 116]⟩ ts = false := h
    have h2' : oneOf opsAgg ts ≠ 0 := h2
    rw [(oneOf_some opsAgg_pos h2').1]
    show itemP ts = _
    rw [itemP, if_neg (by rw [h']; simp), if_neg h2']
    rfl
theorem on_st (S : Sa) : stO (runP onP S) = stO (runP columnP (wantS ⟨#[61]⟩ (stO (runP columnP (wantS ⟨#[111, 110]⟩ S))))) := by rw [onP, seq_st, wantU_st, seq_st, seq_st, wantU_st]
theorem on_inr {S : Sa} {l : List Tr} {r : List Tk} (h : runP onP S = .inr (l, r)) : ∃ a b q, runP columnP (wantS ⟨#[111, 110]⟩ S) = .inr (a, q) ∧ runP columnP (wantS ⟨#[61]⟩ (stO (runP columnP (wantS ⟨#[111, 110]⟩ S)))) = .inr (b, r) ∧ l = [a, b] := by
  obtain ⟨_, l', q, _, h2, rfl⟩ := seq_inr h
  obtain ⟨a, b, q2, h3, h4, rfl⟩ := seq_inr h2
  obtain ⟨_, b', q3, _, h6, rfl⟩ := seq_inr h4
  rw [wantU_st] at h3 h6
  rw [wantU_st] at h6
  exact ⟨a, b, q2, h3, h6, rfl⟩
/-- A slice of two expressions, new. -/
theorem row_two (w : World) (t u : Tr) (o : Int) (p : Pay) (a : Option Addr) (m c : Nat) (o' : Int) (p' : Pay) (a' : Option Addr) (m' c' : Nat) (Q : Nat → Prop) (hq : Q w.heap.size) (h : Ex Q w t (exV o p (.slice a m c))) (k : Ex Q w u (exV o' p' (.slice a' m' c'))) :
    RowIs eExpr Q (w.alloc (.cells #[.int .i64 o, .int .i64 p.1, .int .i64 p.2.1, .string p.2.2.1, .string p.2.2.2.1, .string p.2.2.2.2, .slice a m c, .int .i64 o', .int .i64 p'.1, .int .i64 p'.2.1, .string p'.2.2.1, .string p'.2.2.2.1, .string p'.2.2.2.2, .slice a' m' c'] 100)) (.slice (some ⟨w.heap.size, 0, none⟩) 2 2) [t, u] := by
  refine ⟨_, 2, 2, rfl, rfl, Nat.le_refl _, by omega, fun _ => ⟨w.heap.size, 0, rfl, hq, fun i hi => ?_⟩⟩
  have hi' : i < 2 := hi
  match i, hi' with
  | 0, _ =>
    refine ⟨exC o p (.slice a m c), ⟨o, p, a, m, c, rfl, h.later (bal (Below.refl _ w) _)⟩, rfl, fun j hj => ?_⟩
    have hj' : j < 7 := hj
    match j, hj' with
    | 0, _ => exact cell_new w _ _ _ 0
    | 1, _ => exact cell_new w _ _ _ 1
    | 2, _ => exact cell_new w _ _ _ 2
    | 3, _ => exact cell_new w _ _ _ 3
    | 4, _ => exact cell_new w _ _ _ 4
    | 5, _ => exact cell_new w _ _ _ 5
    | 6, _ => exact cell_new w _ _ _ 6
  | 1, _ =>
    refine ⟨exC o' p' (.slice a' m' c'), ⟨o', p', a', m', c', rfl, k.later (bal (Below.refl _ w) _)⟩, rfl, fun j hj => ?_⟩
    have hj' : j < 7 := hj
    match j, hj' with
    | 0, _ => exact cell_new w _ _ _ 7
    | 1, _ => exact cell_new w _ _ _ 8
    | 2, _ => exact cell_new w _ _ _ 9
    | 3, _ => exact cell_new w _ _ _ 10
    | 4, _ => exact cell_new w _ _ _ 11
    | 5, _ => exact cell_new w _ _ _ 12
    | 6, _ => exact cell_new w _ _ _ 13

theorem order_st (S : Sa) : stO (runP orderP S) = stO (runP columnP (wantS ⟨#[98, 121]⟩ S)) := by rw [orderP, seq_st, wantU_st, map_run, stO_mapR]
theorem order_inr {S : Sa} {l : List Tr} {r : List Tk} (h : runP orderP S = .inr (l, r)) : ∃ a, runP columnP (wantS ⟨#[98, 121]⟩ S) = .inr (a, r) ∧ l = [a] := by
  obtain ⟨_, l', q, _, h2, rfl⟩ := seq_inr h
  rw [wantU_st, map_run] at h2
  obtain ⟨a, h3, h4⟩ := mapR_inr h2
  exact ⟨a, h3, h4⟩
end Go.Proofs.Ytnboooaockgoiab
