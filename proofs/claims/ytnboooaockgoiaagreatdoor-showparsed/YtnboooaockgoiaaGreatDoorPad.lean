import Derived.Test.YtnboooaockgoiaaGreatDoorPab
import Derived.Deep.RegionHeld3
namespace Go.Proofs.YtnboooaockgoiaaGreatDoor
open Go.RowKit
set_option linter.unusedVariables false

/-- An expression's value. -/
def exV (o : Int) (p : Pay) (sl : Value) : Value := .agg #[.int .i64 o, .int .i64 p.1, .int .i64 p.2.1, .string p.2.2.1, .string p.2.2.2.1, .string p.2.2.2.2, sl]
/-- The seven cells of an expression from place o on in block b. -/
def Ce (w : World) (b o : Nat) (op : Int) (p : Pay) (sl : Value) : Prop :=
  w.cell? ⟨b, o, none⟩ = some (.int .i64 op) ∧ w.cell? ⟨b, o + 1, none⟩ = some (.int .i64 p.1) ∧ w.cell? ⟨b, o + 2, none⟩ = some (.int .i64 p.2.1) ∧ w.cell? ⟨b, o + 3, none⟩ = some (.string p.2.2.1) ∧ w.cell? ⟨b, o + 4, none⟩ = some (.string p.2.2.2.1) ∧ w.cell? ⟨b, o + 5, none⟩ = some (.string p.2.2.2.2) ∧ w.cell? ⟨b, o + 6, none⟩ = some sl
theorem Ce.keep {w w' : World} {b o : Nat} {op : Int} {p : Pay} {sl : Value} (h : Ce w b o op p sl) (hk : w'.heap[b]? = w.heap[b]?) : Ce w' b o op p sl := by
  obtain ⟨h0, h1, h2, h3, h4, h5, h6⟩ := h
  exact ⟨(World.cell?_of_block (a := ⟨b, _, none⟩) hk).trans h0, (World.cell?_of_block (a := ⟨b, _, none⟩) hk).trans h1, (World.cell?_of_block (a := ⟨b, _, none⟩) hk).trans h2, (World.cell?_of_block (a := ⟨b, _, none⟩) hk).trans h3, (World.cell?_of_block (a := ⟨b, _, none⟩) hk).trans h4, (World.cell?_of_block (a := ⟨b, _, none⟩) hk).trans h5, (World.cell?_of_block (a := ⟨b, _, none⟩) hk).trans h6⟩
theorem Ce.lt {w : World} {b o : Nat} {op : Int} {p : Pay} {sl : Value} (h : Ce w b o op p sl) : b < w.heap.size := World.block_lt_of_cell? _ _ h.1
def noT : Tr → Bool
  | .nil => true
  | .node _ _ _ _ _ => false
/-- The value is the expression t; its rows lie in blocks that Q lets. -/
def Ex (Q : Nat → Prop) (w : World) : Tr → Value → Prop
  | .nil, _ => False
  | .node _ op p l r, v => ∃ ao n c, v = exV op p (.slice ao n c) ∧ n ≤ c ∧ c ≤ 9223372036854775807 ∧
      ((noT l = true ∧ noT r = true ∧ n = 0) ∨
       (noT l = false ∧ noT r = true ∧ n = 1 ∧ ∃ b o op1 p1 a1 n1 c1, ao = some ⟨b, o, none⟩ ∧ Q b ∧ Ce w b o op1 p1 (.slice a1 n1 c1) ∧ Ex Q w l (exV op1 p1 (.slice a1 n1 c1))) ∨
       (noT l = false ∧ noT r = false ∧ n = 2 ∧ ∃ b o op1 p1 a1 n1 c1 op2 p2 a2 n2 c2, ao = some ⟨b, o, none⟩ ∧ Q b ∧ Ce w b o op1 p1 (.slice a1 n1 c1) ∧ Ce w b (o + 7) op2 p2 (.slice a2 n2 c2) ∧ Ex Q w l (exV op1 p1 (.slice a1 n1 c1)) ∧ Ex Q w r (exV op2 p2 (.slice a2 n2 c2))))
theorem Ex.not_nil {Q : Nat → Prop} {w : World} {t : Tr} {v : Value} (h : Ex Q w t v) : noT t = false := by
  cases t with
  | nil => exact h.elim
  | node => rfl
theorem Ex.keep {Q : Nat → Prop} {w w' : World} (hk : ∀ k, Q k → k < w.heap.size → w'.heap[k]? = w.heap[k]?) : ∀ {t : Tr} {v : Value}, Ex Q w t v → Ex Q w' t v := by
  intro t
  induction t with
  | nil => intro v h; exact h.elim
  | node x op p l r ihl ihr =>
    rintro v ⟨ao, n, c, hv, hn, hc, h⟩
    refine ⟨ao, n, c, hv, hn, hc, ?_⟩
    rcases h with h | ⟨h1, h2, h3, b, o, op1, p1, a1, n1, c1, ha, hq, hx, hl⟩ | ⟨h1, h2, h3, b, o, op1, p1, a1, n1, c1, op2, p2, a2, n2, c2, ha, hq, hx, hy, hl, hr⟩
    · exact .inl h
    · exact .inr (.inl ⟨h1, h2, h3, b, o, op1, p1, a1, n1, c1, ha, hq, hx.keep (hk b hq hx.lt), ihl hl⟩)
    · exact .inr (.inr ⟨h1, h2, h3, b, o, op1, p1, a1, n1, c1, op2, p2, a2, n2, c2, ha, hq, hx.keep (hk b hq hx.lt), hy.keep (hk b hq hx.lt), ihl hl, ihr hr⟩)
theorem Ex.mono {Q Q' : Nat → Prop} {w : World} (hk : ∀ k, Q k → k < w.heap.size → Q' k) : ∀ {t : Tr} {v : Value}, Ex Q w t v → Ex Q' w t v := by
  intro t
  induction t with
  | nil => intro v h; exact h.elim
  | node x op p l r ihl ihr =>
    rintro v ⟨ao, n, c, hv, hn, hc, h⟩
    refine ⟨ao, n, c, hv, hn, hc, ?_⟩
    rcases h with h | ⟨h1, h2, h3, b, o, op1, p1, a1, n1, c1, ha, hq, hx, hl⟩ | ⟨h1, h2, h3, b, o, op1, p1, a1, n1, c1, op2, p2, a2, n2, c2, ha, hq, hx, hy, hl, hr⟩
    · exact .inl h
    · exact .inr (.inl ⟨h1, h2, h3, b, o, op1, p1, a1, n1, c1, ha, hk b hq hx.lt, hx, ihl hl⟩)
    · exact .inr (.inr ⟨h1, h2, h3, b, o, op1, p1, a1, n1, c1, op2, p2, a2, n2, c2, ha, hk b hq hx.lt, hx, hy, ihl hl, ihr hr⟩)
theorem Ex.leaf {Q : Nat → Prop} {w : World} (x op : Nat) (p : Pay) : Ex Q w (.node x op p .nil .nil) (exV op p (.slice none 0 0)) :=
  ⟨none, 0, 0, rfl, Nat.le_refl _, by omega, .inl ⟨rfl, rfl, rfl⟩⟩
theorem Ex.one {Q : Nat → Prop} {w : World} {op : Nat} {t : Tr} {b : Nat} {op1 : Int} {p1 : Pay} {a1 : Option Addr} {n1 c1 : Nat} (hq : Q b) (hc : Ce w b 0 op1 p1 (.slice a1 n1 c1)) (h : Ex Q w t (exV op1 p1 (.slice a1 n1 c1))) :
    Ex Q w (tOne op t) (exV op nilP (.slice (some ⟨b, 0, none⟩) 1 1)) :=
  ⟨_, 1, 1, rfl, Nat.le_refl _, by omega, .inr (.inl ⟨h.not_nil, rfl, rfl, b, 0, op1, p1, a1, n1, c1, rfl, hq, hc, h⟩)⟩
theorem Ex.two {Q : Nat → Prop} {w : World} {op : Nat} {t u : Tr} {b : Nat} {op1 : Int} {p1 : Pay} {a1 : Option Addr} {n1 c1 : Nat} {op2 : Int} {p2 : Pay} {a2 : Option Addr} {n2 c2 : Nat} (hq : Q b) (hc : Ce w b 0 op1 p1 (.slice a1 n1 c1)) (hd : Ce w b 7 op2 p2 (.slice a2 n2 c2))
    (h : Ex Q w t (exV op1 p1 (.slice a1 n1 c1))) (k : Ex Q w u (exV op2 p2 (.slice a2 n2 c2))) :
    Ex Q w (tTwo op t u) (exV op nilP (.slice (some ⟨b, 0, none⟩) 2 2)) :=
  ⟨_, 2, 2, rfl, Nat.le_refl _, by omega, .inr (.inr ⟨h.not_nil, k.not_nil, rfl, b, 0, op1, p1, a1, n1, c1, op2, p2, a2, n2, c2, rfl, hq, hc, by simpa using hd, h, k⟩)⟩

/-- The seven cells of a block of its own. -/
structure Be (w : World) (b : Nat) (op : Int) (p : Pay) (sl : Value) : Prop where
  row : w.heap[b]? = some (.cells #[.int .i64 op, .int .i64 p.1, .int .i64 p.2.1, .string p.2.2.1, .string p.2.2.2.1, .string p.2.2.2.2, sl] 43 (0, 0))
theorem Be.new (w : World) (op : Int) (p : Pay) (sl : Value) : Be (w.alloc (.cells #[.int .i64 op, .int .i64 p.1, .int .i64 p.2.1, .string p.2.2.1, .string p.2.2.2.1, .string p.2.2.2.2, sl] 43)) w.heap.size op p sl := ⟨heap_alloc_new w _⟩
theorem Be.lt {w : World} {b : Nat} {op : Int} {p : Pay} {sl : Value} (h : Be w b op p sl) : b < w.heap.size := (Array.getElem?_eq_some_iff.1 h.row).1
theorem Be.keep {w w' : World} {b : Nat} {op : Int} {p : Pay} {sl : Value} (h : Be w b op p sl) (hk : w'.heap[b]? = w.heap[b]?) : Be w' b op p sl := ⟨hk.trans h.row⟩
theorem Be.later {w w' : World} {b : Nat} {op : Int} {p : Pay} {sl : Value} (h : Be w b op p sl) (hb : Below w.heap.size w w') : Be w' b op p sl := h.keep (hb.block b h.lt)
theorem Be.but {w w' : World} {b g : Nat} {op : Int} {p : Pay} {sl : Value} (h : Be w b op p sl) (hb : But g w w') (hg : b ≠ g) : Be w' b op p sl := h.keep (hb.block b h.lt hg)
theorem Be.cells {w : World} {b : Nat} {op : Int} {p : Pay} {sl : Value} (h : Be w b op p sl) : Ce w b 0 op p sl := by
  unfold Ce World.cell?; rw [h.row]; exact ⟨rfl, rfl, rfl, rfl, rfl, rfl, rfl⟩
theorem Be.free {w : World} {b : Nat} {op : Int} {p : Pay} {sl : Value} (h : Be w b op p sl) : w.frozen? ⟨b, 0, none⟩ = false ∧ w.frozen? ⟨b, 1, none⟩ = false ∧ w.frozen? ⟨b, 2, none⟩ = false ∧ w.frozen? ⟨b, 3, none⟩ = false ∧ w.frozen? ⟨b, 4, none⟩ = false ∧ w.frozen? ⟨b, 5, none⟩ = false ∧ w.frozen? ⟨b, 6, none⟩ = false := by
  unfold World.frozen?; rw [h.row]; exact ⟨rfl, rfl, rfl, rfl, rfl, rfl, rfl⟩
/-- Block b is stored into, cell by cell. -/
def set7 (w : World) (b : Nat) (op : Int) (p : Pay) (sl : Value) : World :=
  ((((((w.setCell ⟨b, 0, none⟩ (.int .i64 op)).setCell ⟨b, 1, none⟩ (.int .i64 p.1)).setCell ⟨b, 2, none⟩ (.int .i64 p.2.1)).setCell ⟨b, 3, none⟩ (.string p.2.2.1)).setCell ⟨b, 4, none⟩ (.string p.2.2.2.1)).setCell ⟨b, 5, none⟩ (.string p.2.2.2.2)).setCell ⟨b, 6, none⟩ sl
theorem set7_heap (w : World) (b : Nat) (op : Int) (p : Pay) (sl : Value) {k : Nat} (hk : k ≠ b) : (set7 w b op p sl).heap[k]? = w.heap[k]? := by
  unfold set7
  rw [Below.heap_setCell _ _ _ _ hk, Below.heap_setCell _ _ _ _ hk, Below.heap_setCell _ _ _ _ hk, Below.heap_setCell _ _ _ _ hk, Below.heap_setCell _ _ _ _ hk, Below.heap_setCell _ _ _ _ hk, Below.heap_setCell _ _ _ _ hk]
theorem set7_size (w : World) (b : Nat) (op : Int) (p : Pay) (sl : Value) : (set7 w b op p sl).heap.size = w.heap.size := by simp [set7, World.setCell]
theorem Be.set {w : World} {b : Nat} {op : Int} {p : Pay} {sl : Value} (h : Be w b op p sl) (op' : Int) (p' : Pay) (sl' : Value) : Be (set7 w b op' p' sl') b op' p' sl' := ⟨by simp [set7, World.setCell, Array.getElem?_modify, h.row]⟩
theorem But.set7 {g : Nat} {a w : World} (h : But g a w) {b : Nat} (hb : a.heap.size ≤ b) (op : Int) (p : Pay) (sl : Value) : But g a (set7 w b op p sl) :=
  ((((((h.new hb 0 _).new hb 1 _).new hb 2 _).new hb 3 _).new hb 4 _).new hb 5 _).new hb 6 _
theorem Ex.set7 {Q : Nat → Prop} {w : World} {t : Tr} {v : Value} (h : Ex Q w t v) {b : Nat} (hb : ¬ Q b) (op : Int) (p : Pay) (sl : Value) : Ex Q (set7 w b op p sl) t v :=
  h.keep fun k hq _ => set7_heap _ _ _ _ _ (by rintro rfl; exact hb hq)
theorem Ex.but {Q : Nat → Prop} {w w' : World} {t : Tr} {v : Value} {g : Nat} (h : Ex Q w t v) (hb : But g w w') (hg : ¬ Q g) : Ex Q w' t v :=
  h.keep fun k hq hk => hb.block k hk (by rintro rfl; exact hg hq)
theorem Ex.later {Q : Nat → Prop} {w w' : World} {t : Tr} {v : Value} (h : Ex Q w t v) (hb : Below w.heap.size w w') : Ex Q w' t v :=
  h.keep fun k hq hk => hb.block k hk

theorem bal {a w : World} (h : Below a.heap.size a w) (o : Obj) : Below a.heap.size a (w.alloc o) := h.alloc h.size o

/-- What was read, turned. -/
def mapR {α β : Type} (f : α → β) (R : Re α) : Re β := thenR R fun t r => .inr (f t, r)
theorem stO_mapR {α β : Type} (f : α → β) (R : Re α) : stO (mapR f R) = stO R := by cases R <;> rfl
theorem mapR_inr {α β : Type} {f : α → β} {R : Re α} {t : β} {r : List Tk} (h : mapR f R = .inr (t, r)) : ∃ u, R = .inr (u, r) ∧ t = f u := by
  cases R with
  | inl x => cases h
  | inr x => cases h; exact ⟨x.1, rfl, rfl⟩
theorem stO_inr {α : Type} {R : Re α} {ts : List Tk} (h : stO R = .inr ts) : ∃ u, R = .inr (u, ts) := by
  cases R with
  | inl x => cases h
  | inr x => cases h; exact ⟨x.1, rfl⟩
theorem column_false {S : Sa} (h : takeB ⟨#[46]⟩ (stO (runP nameP S)) = false) : runP columnP S = mapR (tCol ⟨#[]⟩) (runP nameP S) := by
  match S with
  | .inl x => rfl
  | .inr ts =>
    have e : runP nameP (.inr ts) = nameP ts := rfl
    rw [e] at h ⊢
    show columnP ts = _
    rw [columnP]
    cases hn : nameP ts with
    | inl x => rfl
    | inr x =>
      rw [hn] at h
      have h' : isTk ⟨#[46]⟩ x.2 = false := h
      show (if isTk ⟨#[46]⟩ x.2 then _ else _) = _
      rw [if_neg (by rw [h']; simp)]
      rfl
theorem column_true {S : Sa} {n : ByteArray} {t : Tk} {ts : List Tk} (h : runP nameP S = .inr (n, t :: ts)) (hb : isTk ⟨#[46]⟩ (t :: ts) = true) : runP columnP S = mapR (tCol n) (nameP ts) := by
  match S with
  | .inl x => cases h
  | .inr us =>
    have e : nameP us = .inr (n, t :: ts) := h
    show columnP us = _
    rw [columnP, e]
    show (if isTk ⟨#[46]⟩ (t :: ts) then _ else _) = _
    rw [if_pos hb]
    rfl
theorem Be.set5 {w : World} {b : Nat} {op : Int} {k i : Int} {x t m : ByteArray} {sl : Value} (h : Be w b op (k, i, x, t, m) sl) (s : ByteArray) : Be (w.setCell ⟨b, 5, none⟩ (.string s)) b op (k, i, x, t, s) sl := ⟨by simp [World.setCell, Array.getElem?_modify, h.row]⟩
theorem Be.set4 {w : World} {b : Nat} {op : Int} {k i : Int} {x t m : ByteArray} {sl : Value} (h : Be w b op (k, i, x, t, m) sl) (s : ByteArray) : Be (w.setCell ⟨b, 4, none⟩ (.string s)) b op (k, i, x, s, m) sl := ⟨by simp [World.setCell, Array.getElem?_modify, h.row]⟩
theorem Be.other {w : World} {b : Nat} {op : Int} {p : Pay} {sl : Value} (h : Be w b op p sl) {r : Nat} (hr : b ≠ r) (o : Nat) (v : Value) : Be (w.setCell ⟨r, o, none⟩ v) b op p sl := h.keep (Below.heap_setCell _ _ _ _ hr)
abbrev zE : Obj := .cells #[.int .i64 0, .int .i64 0, .int .i64 0, .string ⟨#[]⟩, .string ⟨#[]⟩, .string ⟨#[]⟩, .slice none 0 0] 43

end Go.Proofs.YtnboooaockgoiaaGreatDoor
namespace Go.Proofs.YtnboooaockgoiaaGreatDoor
open Go.RowKit
set_option linter.unusedVariables false

/-- How what is read so far and what is to be read make all of it. -/
def ChR (P : List Tk → Re Tr) (l : List (ByteArray × Int)) (R : Re Tr) (S : Sa) (E : Tr → Prop) : Prop :=
  (∃ e, S = .inl e ∧ R = .inl e) ∨ ∃ ts t k, S = .inr ts ∧ ts.length ≤ k ∧ R = chainL P l k t ts ∧ E t
theorem ChR.start {P : List Tk → Re Tr} {l : List (ByteArray × Int)} {S : Sa} {E : Tr → Prop} (h : ∀ t r, runP P S = .inr (t, r) → E t) : ChR P l (runP (chainP P l) S) (stO (runP P S)) E := by
  match S with
  | .inl x => exact .inl ⟨x, rfl, rfl⟩
  | .inr ts =>
    have e1 : runP P (.inr ts) = P ts := rfl
    have e2 : runP (chainP P l) (.inr ts) = thenR (P ts) fun x r => chainL P l r.length x r := rfl
    rw [e1] at h
    rw [e1, e2]
    cases hp : P ts with
    | inl x => exact .inl ⟨x, rfl, rfl⟩
    | inr x => exact .inr ⟨x.2, x.1, x.2.length, rfl, Nat.le_refl _, rfl, h x.1 x.2 hp⟩
theorem oneOf_zero {l : List (ByteArray × Int)} (h0 : ∀ c ∈ l, 0 < c.2) {ts : List Tk} (h : oneOf l ts = 0) : oneS l (.inr ts) = .inr ts := by
  have := oneOf_any (ts := ts) (fun c hc => Int.ne_of_gt (h0 c hc))
  rw [h] at this
  simp only [decide_true, Bool.not_true] at this
  simp only [oneS, this, Bool.false_eq_true, if_false]
theorem oneOf_some {l : List (ByteArray × Int)} (h0 : ∀ c ∈ l, 0 < c.2) {ts : List Tk} (h : oneOf l ts ≠ 0) : oneS l (.inr ts) = .inr ts.tail ∧ 0 < oneOf l ts ∧ ∃ t r, ts = t :: r := by
  have := oneOf_any (ts := ts) (fun c hc => Int.ne_of_gt (h0 c hc))
  have e : (l.any fun c => isTk c.1 ts) = true := by rw [this]; simpa using h
  refine ⟨by simp only [oneS, e, if_true], ?_, ?_⟩
  · clear this e
    induction l with
    | nil => exact absurd rfl h
    | cons c l ih =>
      rw [oneOf] at h ⊢
      split
      · exact h0 c (by simp)
      · rename_i hc
        rw [if_neg hc] at h
        exact ih (fun x hx => h0 x (by simp [hx])) h
  · obtain ⟨c, _, hc⟩ := List.any_eq_true.1 e
    exact isTk_ne hc
theorem But.dr {g : Nat} {w w' : World} (h : But g w w') : But g w w'.drew := ⟨h.os, h.tape, h.output, h.size, h.block⟩
theorem ChR.mono {P : List Tk → Re Tr} {l : List (ByteArray × Int)} {R : Re Tr} {S : Sa} {E E' : Tr → Prop} (h : ChR P l R S E) (k : ∀ t, E t → E' t) : ChR P l R S E' := by
  rcases h with h | ⟨ts, t, n, h1, h2, h3, h4⟩
  · exact .inl h
  · exact .inr ⟨ts, t, n, h1, h2, h3, k t h4⟩
theorem ChR.stop {P : List Tk → Re Tr} {l : List (ByteArray × Int)} {R : Re Tr} {S : Sa} {E : Tr → Prop} (h0 : ∀ c ∈ l, 0 < c.2) (h : ChR P l R S E) (hz : oneB l S = 0) : stO R = oneS l S ∧ ∀ t r, R = .inr (t, r) → E t := by
  rcases h with ⟨e, rfl, rfl⟩ | ⟨ts, t, k, rfl, hk, hR, hE⟩
  · exact ⟨rfl, fun t r e => by cases e⟩
  · have hz' : oneOf l ts = 0 := hz
    have e : chainL P l k t ts = .inr (t, ts) := by
      cases k with
      | zero => rfl
      | succ k => rw [chainL, if_pos hz']
    rw [hR, e, oneOf_zero h0 hz']
    exact ⟨rfl, fun t' r e => by cases e; exact hE⟩
theorem ChR.go {P : List Tk → Re Tr} {l : List (ByteArray × Int)} {R : Re Tr} {S : Sa} {E : Tr → Prop} (hP : Shr P) (h0 : ∀ c ∈ l, 0 < c.2) (h : ChR P l R S E) (hz : oneB l S ≠ 0) : 0 < oneB l S ∧ ∃ t, E t ∧ szS (stO (runP P (oneS l S))) ≤ szS (oneS l S) ∧
    ∀ E' : Tr → Prop, (∀ u r, runP P (oneS l S) = .inr (u, r) → E' (tTwo (oneB l S).toNat t u)) → ChR P l R (stO (runP P (oneS l S))) E' := by
  rcases h with ⟨e, rfl, rfl⟩ | ⟨ts, t, k, rfl, hk, hR, hE⟩
  · exact absurd rfl hz
  · have hz' : oneOf l ts ≠ 0 := hz
    obtain ⟨e1, e2, x, r, rfl⟩ := oneOf_some h0 hz'
    rw [e1]
    refine ⟨e2, t, hE, ?_, fun E' hE' => ?_⟩
    · show szS (stO (P r)) ≤ r.length
      cases hp : P r with
      | inl y => exact Nat.zero_le _
      | inr y => exact hP r y.1 y.2 hp
    · have hE2 : ∀ u r', P r = .inr (u, r') → E' (tTwo (oneOf l (x :: r)).toNat t u) := hE'
      show ChR P l R (stO (P r)) E'
      cases k with
      | zero => simp at hk
      | succ k =>
        rw [chainL, if_neg hz'] at hR
        have hR2 : R = thenR (P r) fun y r' => chainL P l k (tTwo (oneOf l (x :: r)).toNat t y) r' := hR
        rw [hR2]
        cases hp : P r with
        | inl y => exact .inl ⟨y, rfl, rfl⟩
        | inr y =>
          have := hP r y.1 y.2 hp
          exact .inr ⟨y.2, _, k, rfl, by simp at hk; omega, rfl, hE2 y.1 y.2 hp⟩
end Go.Proofs.YtnboooaockgoiaaGreatDoor
namespace Go.Proofs.YtnboooaockgoiaaGreatDoor
open Go.RowKit
set_option linter.unusedVariables false

theorem Ex.setG {Q : Nat → Prop} {w : World} {t : Tr} {v : Value} (h : Ex Q w t v) {b : Nat} (hb : ¬ Q b) (o : Nat) (u : Value) : Ex Q (w.setCell ⟨b, o, none⟩ u) t v :=
  h.keep fun k hq _ => Below.heap_setCell _ _ _ _ (by rintro rfl; exact hb hq)
/-- How deep one may still go. -/
def deepP (d : Nat) (P : List Tk → Re Tr) : Option (List Tk → Re Tr) := if d = 64 then none else some P

end Go.Proofs.YtnboooaockgoiaaGreatDoor
namespace Go.Proofs.YtnboooaockgoiaaGreatDoor
open Go.RowKit
set_option linter.unusedVariables false

end Go.Proofs.YtnboooaockgoiaaGreatDoor
namespace Go.Proofs.YtnboooaockgoiaaGreatDoor
open Go.RowKit
set_option linter.unusedVariables false

theorem opsComp_pos : ∀ c ∈ opsComp, 0 < c.2 := by decide
theorem comp_zero {U : List Tk → Re Tr} {S : Sa} (h : oneB opsComp (stO (runP (sumP U) S)) = 0) : runP (compP U) S = runP (sumP U) S ∧ oneS opsComp (stO (runP (sumP U) S)) = stO (runP (sumP U) S) := by
  match S with
  | .inl x => exact ⟨rfl, rfl⟩
  | .inr ts =>
    have e : runP (sumP U) (.inr ts) = sumP U ts := rfl
    have e2 : runP (compP U) (.inr ts) = compP U ts := rfl
    rw [e] at h ⊢
    rw [e2, compP]
    cases hn : sumP U ts with
    | inl x => exact ⟨rfl, rfl⟩
    | inr x =>
      rw [hn] at h
      have h' : oneOf opsComp x.2 = 0 := h
      refine ⟨?_, oneOf_zero opsComp_pos h'⟩
      show (if oneOf opsComp x.2 = 0 then _ else _) = _
      rw [if_pos h']
theorem comp_some {U : List Tk → Re Tr} {S : Sa} (h : oneB opsComp (stO (runP (sumP U) S)) ≠ 0) : 0 < oneB opsComp (stO (runP (sumP U) S)) ∧ ∃ t, (∃ r, runP (sumP U) S = .inr (t, r)) ∧
    runP (compP U) S = mapR (tTwo (oneB opsComp (stO (runP (sumP U) S))).toNat t) (runP (sumP U) (oneS opsComp (stO (runP (sumP U) S)))) := by
  match S with
  | .inl x => exact absurd rfl h
  | .inr ts =>
    have e : runP (sumP U) (.inr ts) = sumP U ts := rfl
    have e2 : runP (compP U) (.inr ts) = compP U ts := rfl
    rw [e] at h ⊢
    rw [e2, compP]
    cases hn : sumP U ts with
    | inl x => rw [hn] at h; exact absurd rfl h
    | inr x =>
      rw [hn] at h
      have h' : oneOf opsComp x.2 ≠ 0 := h
      obtain ⟨e1, e2, _⟩ := oneOf_some opsComp_pos h'
      refine ⟨e2, x.1, ⟨x.2, rfl⟩, ?_⟩
      show (if oneOf opsComp x.2 = 0 then _ else _) = mapR _ (runP (sumP U) (oneS opsComp (.inr x.2)))
      rw [if_neg h', e1]
      rfl

end Go.Proofs.YtnboooaockgoiaaGreatDoor
namespace Go.Proofs.YtnboooaockgoiaaGreatDoor
open Go.RowKit
set_option linter.unusedVariables false

theorem not_true {N : Option (List Tk → Re Tr)} {U : List Tk → Re Tr} {t : Tk} {ts : List Tk} (h : takeB ⟨#[110, 111, 116]⟩ (.inr (t :: ts)) = true) : runP (notOf N U) (.inr (t :: ts)) = mapR (tOne 4) (inP N (t :: ts)) := by
  have h' : isTk ⟨#[110, 111, 116]⟩ (t :: ts) = true := h
  show notOf N U (t :: ts) = _
  rw [notOf, if_pos h']
  rfl
theorem not_false' {N : Option (List Tk → Re Tr)} {U : List Tk → Re Tr} {S : Sa} (h : takeB ⟨#[110, 111, 116]⟩ S = false) : runP (notOf N U) S = runP (compP U) S := by
  match S with
  | .inl x => rfl
  | .inr ts =>
    have h' : isTk ⟨#[110, 111, 116]⟩ ts = false := h
    show notOf N U ts = _
    rw [notOf, if_neg (by rw [h']; simp)]
    rfl

/-- A word that must stand behind what was read. -/
def wantR {α : Type} (s : ByteArray) (R : Re α) : Re α := thenR R fun x r => if isTk s r then .inr (x, r.tail) else .inl (atOf r, 5)
theorem stO_wantR {α : Type} (s : ByteArray) (R : Re α) : stO (wantR s R) = wantS s (stO R) := by
  cases R with
  | inl x => rfl
  | inr x =>
    show stO (if isTk s x.2 then _ else _) = (if isTk s x.2 then _ else _)
    split <;> rfl
theorem wantR_inr {α : Type} {s : ByteArray} {R : Re α} {t : α} {r : List Tk} (h : wantR s R = .inr (t, r)) : ∃ r', R = .inr (t, r') := by
  cases R with
  | inl x => cases h
  | inr x =>
    have h' : (if isTk s x.2 then (.inr (x.1, x.2.tail) : Re α) else .inl (atOf x.2, 5)) = .inr (t, r) := h
    split at h'
    · cases h'; exact ⟨x.2, rfl⟩
    · cases h'
theorem unary_neg {U E : Option (List Tk → Re Tr)} {t : Tk} {ts : List Tk} (h : takeB ⟨#[45]⟩ (.inr (t :: ts)) = true) : runP (unaryOf U E) (.inr (t :: ts)) = mapR (tOne 3) (inP U (t :: ts)) := by
  have h' : isTk ⟨#[45]⟩ (t :: ts) = true := h
  show unaryOf U E (t :: ts) = _
  rw [unaryOf, if_pos h']
  rfl
theorem unary_par {U E : Option (List Tk → Re Tr)} {t : Tk} {ts : List Tk} (h : takeB ⟨#[45]⟩ (.inr (t :: ts)) = false) (k : takeB ⟨#[40]⟩ (.inr (t :: ts)) = true) : runP (unaryOf U E) (.inr (t :: ts)) = wantR ⟨#[41]⟩ (inP E (t :: ts)) := by
  have h' : isTk ⟨#[45]⟩ (t :: ts) = false := h
  have k' : isTk ⟨#[40]⟩ (t :: ts) = true := k
  show unaryOf U E (t :: ts) = _
  rw [unaryOf, if_neg (by rw [h']; simp), if_pos k']
  rfl
theorem unary_leaf {U E : Option (List Tk → Re Tr)} {S : Sa} (h : takeB ⟨#[45]⟩ S = false) (k : takeB ⟨#[40]⟩ S = false) : runP (unaryOf U E) S = runP leafP S := by
  match S with
  | .inl x => rfl
  | .inr ts =>
    have h' : isTk ⟨#[45]⟩ ts = false := h
    have k' : isTk ⟨#[40]⟩ ts = false := k
    show unaryOf U E ts = _
    rw [unaryOf, if_neg (by rw [h']; simp), if_neg (by rw [k']; simp)]
    rfl
theorem leaf_col {S : Sa} (h : (nxT S).1 ≠ 3) (k : (nxT S).1 ≠ 4) : runP leafP S = runP columnP S := by
  match S with
  | .inl x => rfl
  | .inr [] => rfl
  | .inr (t :: ts) =>
    have h' : kdOf (t :: ts) ≠ 3 := h
    have k' : kdOf (t :: ts) ≠ 4 := k
    show leafP (t :: ts) = _
    rw [leafP, if_neg h', if_neg k']
    rfl

end Go.Proofs.YtnboooaockgoiaaGreatDoor
namespace Go.Proofs.YtnboooaockgoiaaGreatDoor
open Go.RowKit
set_option linter.unusedVariables false

theorem thenR_inr {α β : Type} {x : Re α} {f : α → List Tk → Re β} {t : β} {r : List Tk} (h : thenR x f = .inr (t, r)) : ∃ u q, x = .inr (u, q) ∧ f u q = .inr (t, r) := by
  cases x with
  | inl e => cases h
  | inr y => exact ⟨y.1, y.2, rfl, h⟩
theorem shr_kind (k : Int) : Shr (kindP k) := by
  intro ts t r h
  cases ts with
  | nil => cases h
  | cons x l =>
    rw [kindP] at h
    split at h
    · cases h; simp
    · cases h
theorem shr_name : Shr nameP := by
  intro ts t r h
  obtain ⟨u, q, h1, h2⟩ := thenR_inr h
  cases h2
  exact shr_kind 1 _ _ _ h1
theorem shr_column : Shr columnP := by
  intro ts t r h
  obtain ⟨u, q, h1, h2⟩ := thenR_inr h
  have e1 := shr_name ts u q h1
  split at h2
  · obtain ⟨u2, q2, h3, h4⟩ := thenR_inr h2
    cases h4
    have e2 := shr_name _ _ _ h3
    rw [List.length_tail] at e2
    omega
  · cases h2; exact e1
theorem shr_leaf : Shr leafP := by
  intro ts t r h
  rw [leafP] at h
  split at h
  · obtain ⟨u, q, h1, h2⟩ := thenR_inr h
    cases h2
    exact shr_kind 3 _ _ _ h1
  · split at h
    · obtain ⟨u, q, h1, h2⟩ := thenR_inr h
      cases h2
      exact shr_kind 4 _ _ _ h1
    · exact shr_column ts t r h
theorem shr_chainL {P : List Tk → Re Tr} (hP : Shr P) (l : List (ByteArray × Int)) : ∀ (k : Nat) (x : Tr), Shr (chainL P l k x) := by
  intro k
  induction k with
  | zero => intro x ts t r h; cases h; exact Nat.le_refl _
  | succ k ih =>
    intro x ts t r h
    rw [chainL] at h
    split at h
    · cases h; exact Nat.le_refl _
    · obtain ⟨u, q, h1, h2⟩ := thenR_inr h
      have e1 := hP _ u q h1
      have e2 := ih _ q t r h2
      rw [List.length_tail] at e1
      omega
theorem shr_chain {P : List Tk → Re Tr} (hP : Shr P) (l : List (ByteArray × Int)) : Shr (chainP P l) := by
  intro ts t r h
  obtain ⟨u, q, h1, h2⟩ := thenR_inr h
  exact Nat.le_trans (shr_chainL hP l _ u q t r h2) (hP ts u q h1)
theorem shr_comp {U : List Tk → Re Tr} (hU : Shr U) : Shr (compP U) := by
  intro ts t r h
  have hS : Shr (sumP U) := shr_chain (shr_chain hU _) _
  obtain ⟨u, q, h1, h2⟩ := thenR_inr h
  have e1 := hS ts u q h1
  split at h2
  · cases h2; exact e1
  · obtain ⟨u2, q2, h3, h4⟩ := thenR_inr h2
    cases h4
    have e2 := hS _ _ _ h3
    rw [List.length_tail] at e2
    omega
def ShrO (P : Option (List Tk → Re Tr)) : Prop := ∀ p, P = some p → Shr p
theorem shr_in {P : Option (List Tk → Re Tr)} (hP : ShrO P) : Shr (inP P) := by
  intro ts t r h
  cases P with
  | none => cases h
  | some p =>
    have := hP p rfl ts.tail t r h
    rw [List.length_tail] at this
    omega
theorem shr_unary {U E : Option (List Tk → Re Tr)} (hU : ShrO U) (hE : ShrO E) : Shr (unaryOf U E) := by
  intro ts t r h
  rw [unaryOf] at h
  split at h
  · obtain ⟨u, q, h1, h2⟩ := thenR_inr h
    cases h2
    exact shr_in hU _ _ _ h1
  · split at h
    · obtain ⟨u, q, h1, h2⟩ := thenR_inr h
      have := shr_in hE ts u q h1
      split at h2
      · cases h2; rw [List.length_tail]; omega
      · cases h2
    · exact shr_leaf ts t r h
theorem shr_not {N : Option (List Tk → Re Tr)} {U : List Tk → Re Tr} (hN : ShrO N) (hU : Shr U) : Shr (notOf N U) := by
  intro ts t r h
  rw [notOf] at h
  split at h
  · obtain ⟨u, q, h1, h2⟩ := thenR_inr h
    cases h2
    exact shr_in hN _ _ _ h1
  · exact shr_comp hU ts t r h
theorem shr_un (n : Nat) : Shr (unaryP n) ∧ Shr (notP n) := by
  induction n with
  | zero =>
    have h1 : Shr (unaryP 0) := by rw [unaryP_eq]; exact shr_unary (fun p e => by cases e) (fun p e => by cases e)
    exact ⟨h1, by rw [notP_eq]; exact shr_not (fun p e => by cases e) h1⟩
  | succ n ih =>
    have hE : Shr (exprP n) := shr_chain (shr_chain ih.2 _) _
    have h1 : Shr (unaryP (n + 1)) := by rw [unaryP_eq]; exact shr_unary (fun p e => by cases e; exact ih.1) (fun p e => by cases e; exact hE)
    exact ⟨h1, by rw [notP_eq]; exact shr_not (fun p e => by cases e; exact ih.2) h1⟩
theorem shr_expr (n : Nat) : Shr (exprP n) := shr_chain (shr_chain (shr_un n).2 _) _

theorem deep_below {d n : Nat} (h : d + n = 64) (f : Nat → List Tk → Re Tr) : below f n = deepP d (f (n - 1)) := by
  cases n with
  | zero => rw [deepP, if_pos (by omega)]; rfl
  | succ n => rw [deepP, if_neg (by omega)]; rfl

end Go.Proofs.YtnboooaockgoiaaGreatDoor
