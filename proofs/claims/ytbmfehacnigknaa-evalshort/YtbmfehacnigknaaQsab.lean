import Derived.Test.YtbmfehacnigknaaQsaa
import Derived.Deep.RegionHeld3
import Derived.Maps.AppendAt
import Derived.Deep.RegionLaw
import Derived.Deep.MidRow
namespace Go.Proofs.Ytbmfehacnigknaa
open Go.RowKit
set_option linter.unusedVariables false

/-- An expression's value. -/
def exV (o : Int) (p : Pay) (sl : Value) : Value := .agg #[.int .i64 o, .int .i64 p.1, .int .i64 p.2.1, .string p.2.2.1, .string p.2.2.2.1, .string p.2.2.2.2, sl]
/-- The seven cells of an expression from place o on in block b. -/
def Ce (w : World) (b o : Nat) (op : Int) (p : Pay) (sl : Value) : Prop :=
  w.cell? ⟨b, o, none⟩ = some (.int .i64 op) ∧ w.cell? ⟨b, o + 1, none⟩ = some (.int .i64 p.1) ∧ w.cell? ⟨b, o + 2, none⟩ = some (.int .i64 p.2.1) ∧ w.cell? ⟨b, o + 3, none⟩ = some (.string p.2.2.1) ∧ w.cell? ⟨b, o + 4, none⟩ = some (.string p.2.2.2.1) ∧ w.cell? ⟨b, o + 5, none⟩ = some (.string p.2.2.2.2) ∧ w.cell? ⟨b, o + 6, none⟩ = some sl
theorem Ce.keep {w w' : World} {b o : Nat} {op : Int} {p : Pay} {sl : Value} (h : Ce w b o op p sl) (hk : w'.heap[b]? = w.heap[b]?) : Ce w' b o op p sl := by
  obtain ⟨h0, h1, h2, h3, h4, h5, h6⟩ := h
  exact ⟨(World.cell?_of_block (a := ⟨b, _, none⟩) hk).trans h0, (World.cell?_of_block (a := ⟨b, _, none⟩) hk).trans h1, (World.cell?_of_block (a := ⟨b, _, none⟩) hk).trans h2, (World.cell?_of_block (a := ⟨b, _, none⟩) hk).trans h3, (World.cell?_of_block (a := ⟨b, _, none⟩) hk).trans h4, (World.cell?_of_block (a := ⟨b, _, none⟩) hk).trans h5, (World.cell?_of_block (a := ⟨b, _, none⟩) hk).trans h6⟩
theorem Ce.lt {w : World} {b o : Nat} {op : Int} {p : Pay} {sl : Value} (h : Ce w b o op p sl) : b < w.heap.size := World.block_lt_of_cell? _ _ h.1
def noT : Tr → Bool
  | .nil => true
  | .node _ _ _ _ _ => false
/-- The value is the expression t; its rows lie in blocks that Q lets. -/
def Ex (Q : Nat → Prop) (w : World) : Tr → Value → Prop
  | .nil, _ => False
  | .node _ op p l r, v => ∃ ao n c, v = exV op p (.slice ao n c) ∧ n ≤ c ∧ c ≤ 9223372036854775807 ∧
      ((noT l = true ∧ noT r = true ∧ n = 0) ∨
       (noT l = false ∧ noT r = true ∧ n = 1 ∧ ∃ b o op1 p1 a1 n1 c1, ao = some ⟨b, o, none⟩ ∧ Q b ∧ Ce w b o op1 p1 (.slice a1 n1 c1) ∧ Ex Q w l (exV op1 p1 (.slice a1 n1 c1))) ∨
       (noT l = false ∧ noT r = false ∧ n = 2 ∧ ∃ b o op1 p1 a1 n1 c1 op2 p2 a2 n2 c2, ao = some ⟨b, o, none⟩ ∧ Q b ∧ Ce w b o op1 p1 (.slice a1 n1 c1) ∧ Ce w b (o + 7) op2 p2 (.slice a2 n2 c2) ∧ Ex Q w l (exV op1 p1 (.slice a1 n1 c1)) ∧ Ex Q w r (exV op2 p2 (.slice a2 n2 c2))))
theorem Ex.not_nil {Q : Nat → Prop} {w : World} {t : Tr} {v : Value} (h : Ex Q w t v) : noT t = false := by
  cases t with
  | nil => exact h.elim
  | node => rfl
theorem Ex.keep {Q : Nat → Prop} {w w' : World} (hk : ∀ k, Q k → k < w.heap.size → w'.heap[k]? = w.heap[k]?) : ∀ {t : Tr} {v : Value}, Ex Q w t v → Ex Q w' t v := by
  intro t
  induction t with
  | nil => intro v h; exact h.elim
  | node x op p l r ihl ihr =>
    rintro v ⟨ao, n, c, hv, hn, hc, h⟩
    refine ⟨ao, n, c, hv, hn, hc, ?_⟩
    rcases h with h | ⟨h1, h2, h3, b, o, op1, p1, a1, n1, c1, ha, hq, hx, hl⟩ | ⟨h1, h2, h3, b, o, op1, p1, a1, n1, c1, op2, p2, a2, n2, c2, ha, hq, hx, hy, hl, hr⟩
    · exact .inl h
    · exact .inr (.inl ⟨h1, h2, h3, b, o, op1, p1, a1, n1, c1, ha, hq, hx.keep (hk b hq hx.lt), ihl hl⟩)
    · exact .inr (.inr ⟨h1, h2, h3, b, o, op1, p1, a1, n1, c1, op2, p2, a2, n2, c2, ha, hq, hx.keep (hk b hq hx.lt), hy.keep (hk b hq hx.lt), ihl hl, ihr hr⟩)
theorem Ex.mono {Q Q' : Nat → Prop} {w : World} (hk : ∀ k, Q k → k < w.heap.size → Q' k) : ∀ {t : Tr} {v : Value}, Ex Q w t v → Ex Q' w t v := by
  intro t
  induction t with
  | nil => intro v h; exact h.elim
  | node x op p l r ihl ihr =>
    rintro v ⟨ao, n, c, hv, hn, hc, h⟩
    refine ⟨ao, n, c, hv, hn, hc, ?_⟩
    rcases h with h | ⟨h1, h2, h3, b, o, op1, p1, a1, n1, c1, ha, hq, hx, hl⟩ | ⟨h1, h2, h3, b, o, op1, p1, a1, n1, c1, op2, p2, a2, n2, c2, ha, hq, hx, hy, hl, hr⟩
    · exact .inl h
    · exact .inr (.inl ⟨h1, h2, h3, b, o, op1, p1, a1, n1, c1, ha, hk b hq hx.lt, hx, ihl hl⟩)
    · exact .inr (.inr ⟨h1, h2, h3, b, o, op1, p1, a1, n1, c1, op2, p2, a2, n2, c2, ha, hk b hq hx.lt, hx, hy, ihl hl, ihr hr⟩)
theorem Ex.leaf {Q : Nat → Prop} {w : World} (x op : Nat) (p : Pay) : Ex Q w (.node x op p .nil .nil) (exV op p (.slice none 0 0)) :=
  ⟨none, 0, 0, rfl, Nat.le_refl _, by omega, .inl ⟨rfl, rfl, rfl⟩⟩
theorem Ex.one {Q : Nat → Prop} {w : World} {op : Nat} {t : Tr} {b : Nat} {op1 : Int} {p1 : Pay} {a1 : Option Addr} {n1 c1 : Nat} (hq : Q b) (hc : Ce w b 0 op1 p1 (.slice a1 n1 c1)) (h : Ex Q w t (exV op1 p1 (.slice a1 n1 c1))) :
    Ex Q w (tOne op t) (exV op nilP (.slice (some ⟨b, 0, none⟩) 1 1)) :=
  ⟨_, 1, 1, rfl, Nat.le_refl _, by omega, .inr (.inl ⟨h.not_nil, rfl, rfl, b, 0, op1, p1, a1, n1, c1, rfl, hq, hc, h⟩)⟩
theorem Ex.two {Q : Nat → Prop} {w : World} {op : Nat} {t u : Tr} {b : Nat} {op1 : Int} {p1 : Pay} {a1 : Option Addr} {n1 c1 : Nat} {op2 : Int} {p2 : Pay} {a2 : Option Addr} {n2 c2 : Nat} (hq : Q b) (hc : Ce w b 0 op1 p1 (.slice a1 n1 c1)) (hd : Ce w b 7 op2 p2 (.slice a2 n2 c2))
    (h : Ex Q w t (exV op1 p1 (.slice a1 n1 c1))) (k : Ex Q w u (exV op2 p2 (.slice a2 n2 c2))) :
    Ex Q w (tTwo op t u) (exV op nilP (.slice (some ⟨b, 0, none⟩) 2 2)) :=
  ⟨_, 2, 2, rfl, Nat.le_refl _, by omega, .inr (.inr ⟨h.not_nil, k.not_nil, rfl, b, 0, op1, p1, a1, n1, c1, op2, p2, a2, n2, c2, rfl, hq, hc, by simpa using hd, h, k⟩)⟩

/-- The seven cells of a block of its own. -/
structure Be (w : World) (b : Nat) (op : Int) (p : Pay) (sl : Value) : Prop where
  row : w.heap[b]? = some (.cells #[.int .i64 op, .int .i64 p.1, .int .i64 p.2.1, .string p.2.2.1, .string p.2.2.2.1, .string p.2.2.2.2, sl] 41 (0, 0))
theorem Be.new (w : World) (op : Int) (p : Pay) (sl : Value) : Be (w.alloc (.cells #[.int .i64 op, .int .i64 p.1, .int .i64 p.2.1, .string p.2.2.1, .string p.2.2.2.1, .string p.2.2.2.2, sl] 41)) w.heap.size op p sl := ⟨heap_alloc_new w _⟩
theorem Be.lt {w : World} {b : Nat} {op : Int} {p : Pay} {sl : Value} (h : Be w b op p sl) : b < w.heap.size := (Array.getElem?_eq_some_iff.1 h.row).1
theorem Be.keep {w w' : World} {b : Nat} {op : Int} {p : Pay} {sl : Value} (h : Be w b op p sl) (hk : w'.heap[b]? = w.heap[b]?) : Be w' b op p sl := ⟨hk.trans h.row⟩
theorem Be.later {w w' : World} {b : Nat} {op : Int} {p : Pay} {sl : Value} (h : Be w b op p sl) (hb : Below w.heap.size w w') : Be w' b op p sl := h.keep (hb.block b h.lt)
theorem Be.but {w w' : World} {b g : Nat} {op : Int} {p : Pay} {sl : Value} (h : Be w b op p sl) (hb : But g w w') (hg : b ≠ g) : Be w' b op p sl := h.keep (hb.block b h.lt hg)
theorem Be.cells {w : World} {b : Nat} {op : Int} {p : Pay} {sl : Value} (h : Be w b op p sl) : Ce w b 0 op p sl := by
  unfold Ce World.cell?; rw [h.row]; exact ⟨rfl, rfl, rfl, rfl, rfl, rfl, rfl⟩
theorem Be.free {w : World} {b : Nat} {op : Int} {p : Pay} {sl : Value} (h : Be w b op p sl) : w.frozen? ⟨b, 0, none⟩ = false ∧ w.frozen? ⟨b, 1, none⟩ = false ∧ w.frozen? ⟨b, 2, none⟩ = false ∧ w.frozen? ⟨b, 3, none⟩ = false ∧ w.frozen? ⟨b, 4, none⟩ = false ∧ w.frozen? ⟨b, 5, none⟩ = false ∧ w.frozen? ⟨b, 6, none⟩ = false := by
  unfold World.frozen?; rw [h.row]; exact ⟨rfl, rfl, rfl, rfl, rfl, rfl, rfl⟩
/-- Block b is stored into, cell by cell. -/
def set7 (w : World) (b : Nat) (op : Int) (p : Pay) (sl : Value) : World :=
  ((((((w.setCell ⟨b, 0, none⟩ (.int .i64 op)).setCell ⟨b, 1, none⟩ (.int .i64 p.1)).setCell ⟨b, 2, none⟩ (.int .i64 p.2.1)).setCell ⟨b, 3, none⟩ (.string p.2.2.1)).setCell ⟨b, 4, none⟩ (.string p.2.2.2.1)).setCell ⟨b, 5, none⟩ (.string p.2.2.2.2)).setCell ⟨b, 6, none⟩ sl
theorem set7_heap (w : World) (b : Nat) (op : Int) (p : Pay) (sl : Value) {k : Nat} (hk : k ≠ b) : (set7 w b op p sl).heap[k]? = w.heap[k]? := by
  unfold set7
  rw [Below.heap_setCell _ _ _ _ hk, Below.heap_setCell _ _ _ _ hk, Below.heap_setCell _ _ _ _ hk, Below.heap_setCell _ _ _ _ hk, Below.heap_setCell _ _ _ _ hk, Below.heap_setCell _ _ _ _ hk, Below.heap_setCell _ _ _ _ hk]
theorem set7_size (w : World) (b : Nat) (op : Int) (p : Pay) (sl : Value) : (set7 w b op p sl).heap.size = w.heap.size := by simp [set7, World.setCell]
theorem But.set7 {g : Nat} {a w : World} (h : But g a w) {b : Nat} (hb : a.heap.size ≤ b) (op : Int) (p : Pay) (sl : Value) : But g a (set7 w b op p sl) :=
  ((((((h.new hb 0 _).new hb 1 _).new hb 2 _).new hb 3 _).new hb 4 _).new hb 5 _).new hb 6 _
theorem Ex.set7 {Q : Nat → Prop} {w : World} {t : Tr} {v : Value} (h : Ex Q w t v) {b : Nat} (hb : ¬ Q b) (op : Int) (p : Pay) (sl : Value) : Ex Q (set7 w b op p sl) t v :=
  h.keep fun k hq _ => set7_heap _ _ _ _ _ (by rintro rfl; exact hb hq)
theorem Ex.but {Q : Nat → Prop} {w w' : World} {t : Tr} {v : Value} {g : Nat} (h : Ex Q w t v) (hb : But g w w') (hg : ¬ Q g) : Ex Q w' t v :=
  h.keep fun k hq hk => hb.block k hk (by rintro rfl; exact hg hq)
theorem Ex.later {Q : Nat → Prop} {w w' : World} {t : Tr} {v : Value} (h : Ex Q w t v) (hb : Below w.heap.size w w') : Ex Q w' t v :=
  h.keep fun k hq hk => hb.block k hk

theorem bal {a w : World} (h : Below a.heap.size a w) (o : Obj) : Below a.heap.size a (w.alloc o) := h.alloc h.size o

theorem Be.set4 {w : World} {b : Nat} {op : Int} {k i : Int} {x t m : ByteArray} {sl : Value} (h : Be w b op (k, i, x, t, m) sl) (s : ByteArray) : Be (w.setCell ⟨b, 4, none⟩ (.string s)) b op (k, i, x, s, m) sl := ⟨by simp [World.setCell, Array.getElem?_modify, h.row]⟩
theorem Be.other {w : World} {b : Nat} {op : Int} {p : Pay} {sl : Value} (h : Be w b op p sl) {r : Nat} (hr : b ≠ r) (o : Nat) (v : Value) : Be (w.setCell ⟨r, o, none⟩ v) b op p sl := h.keep (Below.heap_setCell _ _ _ _ hr)
abbrev zE : Obj := .cells #[.int .i64 0, .int .i64 0, .int .i64 0, .string ⟨#[]⟩, .string ⟨#[]⟩, .string ⟨#[]⟩, .slice none 0 0] 41

end Go.Proofs.Ytbmfehacnigknaa
namespace Go.Proofs.Ytbmfehacnigknaa
open Go.RowKit
set_option linter.unusedVariables false

end Go.Proofs.Ytbmfehacnigknaa
namespace Go.Proofs.Ytbmfehacnigknaa
open Go.RowKit
set_option linter.unusedVariables false

end Go.Proofs.Ytbmfehacnigknaa
namespace Go.Proofs.Ytbmfehacnigknaa
open Go.RowKit
set_option linter.unusedVariables false

end Go.Proofs.Ytbmfehacnigknaa
namespace Go.Proofs.Ytbmfehacnigknaa
open Go.RowKit
set_option linter.unusedVariables false

end Go.Proofs.Ytbmfehacnigknaa
namespace Go.Proofs.Ytbmfehacnigknaa
open Go.RowKit
set_option linter.unusedVariables false

end Go.Proofs.Ytbmfehacnigknaa
namespace Go.Proofs.Ytbmfehacnigknaa
open Go.RowKit
set_option linter.unusedVariables false

end Go.Proofs.Ytbmfehacnigknaa
namespace Go.Proofs.Ytbmfehacnigknaa
open Go.RowKit
set_option linter.unusedVariables false

/-- A kind of thing in memory: how many cells, and when they are it. -/
structure Ek (α : Type) where
  k : Nat
  E : (Nat → Prop) → World → α → List Value → Prop
  keep : ∀ {Q : Nat → Prop} {w w' : World} {t : α} {cs : List Value}, (∀ b, Q b → b < w.heap.size → w'.heap[b]? = w.heap[b]?) → E Q w t cs → E Q w' t cs
  mono : ∀ {Q Q' : Nat → Prop} {w : World} {t : α} {cs : List Value}, (∀ b, Q b → b < w.heap.size → Q' b) → E Q w t cs → E Q' w t cs
abbrev Co := ByteArray × Int × ByteArray
def eCol : Ek Co := ⟨3, fun _ _ c cs => cs = [.string c.1, .int .i64 c.2.1, .string c.2.2], fun _ h => h, fun _ h => h⟩
abbrev It := Int × ByteArray × ByteArray
def eItem : Ek It := ⟨3, fun _ _ c cs => cs = [.int .i64 c.1, .string c.2.1, .string c.2.2], fun _ h => h, fun _ h => h⟩
def exC (o : Int) (p : Pay) (sl : Value) : List Value := [.int .i64 o, .int .i64 p.1, .int .i64 p.2.1, .string p.2.2.1, .string p.2.2.2.1, .string p.2.2.2.2, sl]
/-- The value is a slice that reads as the list; its rows lie in blocks that Q lets. -/
def RowIs {α : Type} (e : Ek α) (Q : Nat → Prop) (w : World) (v : Value) (l : List α) : Prop :=
  ∃ ao n c, v = .slice ao n c ∧ l.length = n ∧ n ≤ c ∧ c ≤ 9223372036854775807 ∧ (0 < n → ∃ b o, ao = some ⟨b, o, none⟩ ∧ Q b ∧ ∀ i (h : i < l.length), ∃ cs, e.E Q w l[i] cs ∧ cs.length = e.k ∧ ∀ j (hj : j < cs.length), w.cell? ⟨b, o + i * e.k + j, none⟩ = some cs[j])
theorem RowIs.nil {α : Type} (e : Ek α) (Q : Nat → Prop) (w : World) : RowIs e Q w (.slice none 0 0) [] := ⟨none, 0, 0, rfl, rfl, Nat.le_refl _, by omega, fun h => absurd h (Nat.lt_irrefl _)⟩
theorem RowIs.keep {α : Type} {e : Ek α} (he : 0 < e.k) {Q : Nat → Prop} {w w' : World} {v : Value} {l : List α} (hk : ∀ b, Q b → b < w.heap.size → w'.heap[b]? = w.heap[b]?) (h : RowIs e Q w v l) : RowIs e Q w' v l := by
  obtain ⟨ao, n, c, hv, hl, hn, hc, hx⟩ := h
  refine ⟨ao, n, c, hv, hl, hn, hc, fun hp => ?_⟩
  obtain ⟨b, o, ha, hq, hi⟩ := hx hp
  refine ⟨b, o, ha, hq, fun i h => ?_⟩
  obtain ⟨cs, h1, h2, h3⟩ := hi i h
  have hb : b < w.heap.size := World.block_lt_of_cell? _ _ (h3 0 (by omega))
  exact ⟨cs, e.keep hk h1, h2, fun j hj => (World.cell?_of_block (a := ⟨b, _, none⟩) (hk b hq hb)).trans (h3 j hj)⟩
theorem RowIs.mono {α : Type} {e : Ek α} (he : 0 < e.k) {Q Q' : Nat → Prop} {w : World} {v : Value} {l : List α} (hk : ∀ b, Q b → b < w.heap.size → Q' b) (h : RowIs e Q w v l) : RowIs e Q' w v l := by
  obtain ⟨ao, n, c, hv, hl, hn, hc, hx⟩ := h
  refine ⟨ao, n, c, hv, hl, hn, hc, fun hp => ?_⟩
  obtain ⟨b, o, ha, hq, hi⟩ := hx hp
  have hb : b < w.heap.size := by
    obtain ⟨cs, h1, h2, h3⟩ := hi 0 (by omega)
    exact World.block_lt_of_cell? _ _ (h3 0 (by omega))
  exact ⟨b, o, ha, hk b hq hb, fun i h => by
    obtain ⟨cs, h1, h2, h3⟩ := hi i h
    exact ⟨cs, e.mono hk h1, h2, h3⟩⟩

/-- A row of the call's own, thing by thing. -/
def OwnR (ty k B : Nat) (w : World) (v : Value) (css : List (List Value)) : Prop := (∀ cs ∈ css, cs.length = k) ∧ w.ownsRow B ty k v css.length css.flatten
theorem flat_at {k : Nat} : ∀ {css : List (List Value)}, (∀ cs ∈ css, cs.length = k) → ∀ {i j : Nat} (hi : i < css.length) (hj : j < k), css.flatten[i * k + j]? = (css[i])[j]? := by
  intro css
  induction css with
  | nil => intro _ i j hi; simp at hi
  | cons c l ih =>
    intro h i j hi hj
    have hc := h c (by simp)
    cases i with
    | zero => rw [List.flatten_cons, List.getElem?_append_left (by omega)]; simp
    | succ i =>
      rw [List.flatten_cons, List.getElem?_append_right (by rw [hc, Nat.succ_mul]; omega), show (i + 1) * k + j - c.length = i * k + j from by rw [hc, Nat.succ_mul]; omega]
      exact ih (fun x hx => h x (by simp [hx])) (by simpa using hi) hj
theorem OwnR.row {α : Type} {e : Ek α} {ty B : Nat} {w : World} {v : Value} {css : List (List Value)} {l : List α} {Q : Nat → Prop} (h : OwnR ty e.k B w v css) (hl : l.length = css.length) (hn : css ≠ []) (hq : ∀ b, B ≤ b → b < w.heap.size → Q b)
    (hE : ∀ i (h1 : i < l.length) (h2 : i < css.length), e.E Q w l[i] css[i]) : RowIs e Q w v l := by
  rcases h.2.2 with ⟨rfl, h0⟩ | ⟨g, cap, cur, rfl, hb, hg, hnc, hc, hs, ht⟩
  · exact absurd (List.eq_nil_of_length_eq_zero h0) hn
  · have hgl : g < w.heap.size := (Array.getElem?_eq_some_iff.1 hg).1
    refine ⟨_, css.length, cap, rfl, hl, hnc, by simpa [maxLen] using hc, fun hp => ⟨g, 0, rfl, hq g hb hgl, fun i hi => ⟨css[i]'(by omega), hE i hi (by omega), h.1 _ (List.getElem_mem _), fun j hj => ?_⟩⟩⟩
    have hk := h.1 _ (List.getElem_mem (l := css) (n := i) (by omega))
    have hlt : i * e.k + j < css.length * e.k := by
      have : (i + 1) * e.k ≤ css.length * e.k := Nat.mul_le_mul_right _ (by omega)
      rw [Nat.succ_mul] at this
      omega
    have c0 := World.ownsRow.cellAt h.2 (i * e.k + j) hlt
    rw [Nat.zero_add, c0, flat_at h.1 (by omega) (by omega)]
    exact List.getElem?_eq_getElem hj
theorem OwnR.but {ty k B g : Nat} {w w' : World} {v : Value} {css : List (List Value)} (h : OwnR ty k B w v css) (hb : But g w w') (hg : g < B) : OwnR ty k B w' v css := by
  refine ⟨h.1, h.2.1, ?_⟩
  rcases h.2.2 with k | ⟨b, cap, cur, hv, hg', hh, r⟩
  · exact .inl k
  · exact .inr ⟨b, cap, cur, hv, hg', by rw [hb.block b (Array.getElem?_eq_some_iff.1 hh).1 (by omega)]; exact hh, r⟩
theorem OwnR.alloc {ty k B : Nat} {w : World} {v : Value} {css : List (List Value)} (h : OwnR ty k B w v css) (o : Obj) : OwnR ty k B (w.alloc o) v css := ⟨h.1, World.ownsRow.alloc h.2 o⟩
theorem run_appR {t ty e : TypeId} {z : Value} {k bytes B : Nat} (ht : Try.prog.underlying t = some (.slice e)) (hinf : (Try.prog.info? e).map (fun i => (i.zero, i.size, i.bytes)) = some (some z, k, bytes)) (hzs : z.cells.size = k) (hk : 0 < k) (hby : bytes ≤ 1000)
    (w : World) (v : Value) (css : List (List Value)) (g : Nat) (cs : List Value) (hown : OwnR e k B w v css) (hcs : cs.length = k) (h1 : ∀ u ∈ cs, u.oneCell' = true) (hx : ∀ j (hj : j < cs.length), w.cell? ⟨g, j, none⟩ = some cs[j]) (hl : css.length ≤ 1000) (hB : B ≤ w.heap.size) :
    ∃ v' w', (Builtin.append_ #[t, t] ty #[v, .slice (some ⟨g, 0, none⟩) 1 1]).run Try.prog w = .ok v' w' ∧ OwnR e k B w' v' (css ++ [cs]) ∧ w.grownBy w' v.ownBlock ∧ (v'.ownBlock = v.ownBlock ∨ v'.ownBlock = some w.heap.size) := by
  obtain ⟨i, hi, hz, hsz, hb⟩ := info_parts hinf
  obtain ⟨v', w', hr, h2, h3, _, h5⟩ := run_append_own_at (P := Try.prog) w B t ty e i z k bytes ht hi hz hsz hb hzs hk v css.length _ hown.2 ⟨g, 0, none⟩ 1 1 cs (by omega)
    (by
      intro j u hj
      obtain ⟨hj1, hj2⟩ := List.getElem?_eq_some_iff.1 hj
      have := hx j hj1
      rw [hj2] at this
      have e : (⟨g, 0, none⟩ : Addr).add j = ⟨g, j, none⟩ := by unfold Addr.add; split <;> simp_all
      rw [e]
      exact this)
    h1 (by unfold maxLen; omega) (by have : (css.length + 1) * bytes ≤ 1001 * 1000 := Nat.mul_le_mul (by omega) hby; omega) hB
  refine ⟨v', w', hr, ⟨?_, ?_⟩, h3, h5⟩
  · intro c hc
    rw [List.mem_append, List.mem_singleton] at hc
    rcases hc with hc | rfl
    · exact hown.1 c hc
    · exact hcs
  · simpa using h2
theorem wpList_appR {t e : TypeId} {z : Value} {k bytes B : Nat} (ht : Try.prog.underlying t = some (.slice e)) (hinf : (Try.prog.info? e).map (fun i => (i.zero, i.size, i.bytes)) = some (some z, k, bytes)) (hzs : z.cells.size = k) (hk : 0 < k) (hby : bytes ≤ 1000)
    {w : World} {ops : Array Oper} {rest : List Oper} {o : Oper} {a : Act} {Q : Exit → Act → World → Prop} (hgd : o.guard = none) (s x : Operand)
    (ho : o.op = .call { callee := .builtin .append, args := #[s, x], argTypes := #[t, t] }) (v : Value) (css : List (List Value)) (g : Nat) (cs : List Value) (hs : a.eval s = v) (hx : a.eval x = .slice (some ⟨g, 0, none⟩) 1 1)
    (hown : OwnR e k B w v css) (hcs : cs.length = k) (h1 : ∀ u ∈ cs, u.oneCell' = true) (hcell : ∀ j (hj : j < cs.length), w.cell? ⟨g, j, none⟩ = some cs[j]) (hl : css.length ≤ 1000) (hB : B ≤ w.heap.size)
    (h : ∀ v' w', OwnR e k B w' v' (css ++ [cs]) → w.grownBy w' v.ownBlock → (v'.ownBlock = v.ownBlock ∨ v'.ownBlock = some w.heap.size) → wpList Try.prog ops Q rest (a.put o.dst v') w') : wpList Try.prog ops Q (o :: rest) a w :=
  wpList_plain hgd fun _ hK => by
    obtain ⟨v', w', hr, h2, h3, h4⟩ := run_appR ht hinf hzs hk hby w v css g cs hown hcs h1 hcell hl hB (ty := o.type)
    unfold Oper.wp execOp
    simp only [ho, resolve, invoke, builtin, Sem.run_bind, Sem.run_pure, Result.andThen_ok, List.map_toArray, List.map_cons, List.map_nil, hs, hx, hr]
    exact hK _ _ (h v' w' h2 h3 h4)

/-- A statement without what stands in it. -/
structure Sm where
  kind : Int
  table : ByteArray
  name : ByteArray
  cols : List Co
  tags : List Int
  values : List Tr
  items : List It
  join : ByteArray
  on : List Tr
  wh : List Tr
  order : List Tr
  desc : Bool
end Go.Proofs.Ytbmfehacnigknaa
namespace Go.Proofs.Ytbmfehacnigknaa
open Go.RowKit
set_option linter.unusedVariables false

theorem OwnR.blk {ty k B : Nat} {w : World} {v : Value} {css : List (List Value)} (h : OwnR ty k B w v css) : ∀ b, v.ownBlock = some b → B ≤ b ∧ b < w.heap.size := fun b e => World.ownsRow.lt h.2 b e

end Go.Proofs.Ytbmfehacnigknaa
namespace Go.Proofs.Ytbmfehacnigknaa
open Go.RowKit
set_option linter.unusedVariables false

end Go.Proofs.Ytbmfehacnigknaa
namespace Go.Proofs.Ytbmfehacnigknaa
open Go.RowKit
set_option linter.unusedVariables false

end Go.Proofs.Ytbmfehacnigknaa
namespace Go.Proofs.Ytbmfehacnigknaa
open Go.RowKit
set_option linter.unusedVariables false

theorem Try.infoTItem : (Try.prog.info? 61).map (fun i => (i.zero, i.size, i.bytes)) = some (some (.agg #[.int .i64 0, .string ⟨#[]⟩, .string ⟨#[]⟩]), 3, 40) := by kernel_rfl
end Go.Proofs.Ytbmfehacnigknaa
namespace Go.Proofs.Ytbmfehacnigknaa
open Go.RowKit
set_option linter.unusedVariables false

end Go.Proofs.Ytbmfehacnigknaa
namespace Go.Proofs.Ytbmfehacnigknaa
open Go.RowKit
set_option linter.unusedVariables false

end Go.Proofs.Ytbmfehacnigknaa
namespace Go.Proofs.Ytbmfehacnigknaa
open Go.RowKit
set_option linter.unusedVariables false

end Go.Proofs.Ytbmfehacnigknaa
namespace Go.Proofs.Ytbmfehacnigknaa
open Go.RowKit
set_option linter.unusedVariables false

end Go.Proofs.Ytbmfehacnigknaa
namespace Go.Proofs.Ytbmfehacnigknaa
open Go.RowKit
set_option linter.unusedVariables false

/-- A slice's address, length, capacity. -/
abbrev Sl := Option Addr × Nat × Nat
abbrev slV (s : Sl) : Value := .slice s.1 s.2.1 s.2.2
/-- The cells of a statement. -/
structure Sv where
  k : Int
  tb : ByteArray
  nm : ByteArray
  co : Sl
  ta : Sl
  va : Sl
  it : Sl
  jn : ByteArray
  on : Sl
  wh : Sl
  od : Sl
  ds : Bool
  inn : Sl
abbrev zS (k : Int) : Sv := ⟨k, ⟨#[]⟩, ⟨#[]⟩, (none, 0, 0), (none, 0, 0), (none, 0, 0), (none, 0, 0), ⟨#[]⟩, (none, 0, 0), (none, 0, 0), (none, 0, 0), false, (none, 0, 0)⟩
/-- A statement, and those that stand in it. -/
abbrev Sf := Sm × List Sm
end Go.Proofs.Ytbmfehacnigknaa
namespace Go.Proofs.Ytbmfehacnigknaa
open Go.RowKit
set_option linter.unusedVariables false

theorem OwnR.sl {ty k B : Nat} {w : World} {v : Value} {css : List (List Value)} (h : OwnR ty k B w v css) : ∃ ao n c, v = .slice ao n c := by
  rcases h.2.2 with ⟨rfl, h0⟩ | ⟨gg, cap, cur, rfl, hrest⟩
  · exact ⟨_, _, _, rfl⟩
  · exact ⟨_, _, _, rfl⟩
theorem OwnR.nil (ty k B : Nat) (w : World) : OwnR ty k B w (.slice none 0 0) [] := ⟨fun cs h => by simp at h, by simp, .inl ⟨rfl, rfl⟩⟩
/-- A law for just this append. -/
theorem step_guard {P : Program} {Y : Nat → Option Bool} {o : Oper} {a : Act} {w : World} {K : Act → World → Prop} {Q : Exit → Act → World → Prop} {E : Prop} (s x : Operand) (t : TypeId)
    (h : o.op = Op.call { callee := Callee.builtin Builtin.append, args := #[s, x], argTypes := #[t, t] }) (g : if Region.wanted o Y = true then Oper.wp P o a w K Q else E) : if Region.wanted o Y = true then Oper.wp P o a w K Q else E := g
theorem step_appR {t ety : TypeId} {z : Value} {k bytes B : Nat} {ops : Array Oper} {o : Oper} {a : Act} {w : World} {K : Act → World → Prop} {Q : Exit → Act → World → Prop} {E : Prop}
    (hgd : o.guard = none) (s x : Operand) (ho : o.op = .call { callee := .builtin .append, args := #[s, x], argTypes := #[t, t] })
    (ht : Try.prog.underlying t = some (.slice ety)) (hinf : (Try.prog.info? ety).map (fun i => (i.zero, i.size, i.bytes)) = some (some z, k, bytes)) (hzs : z.cells.size = k) (hk : 0 < k) (hby : bytes ≤ 1000)
    (v : Value) (css : List (List Value)) (g : Nat) (cs : List Value) (hs : a.eval s = v) (hx : a.eval x = .slice (some ⟨g, 0, none⟩) 1 1)
    (hown : OwnR ety k B w v css) (hcs : cs.length = k) (h1 : ∀ u ∈ cs, u.oneCell' = true) (hcell : ∀ j (hj : j < cs.length), w.cell? ⟨g, j, none⟩ = some cs[j]) (hl : css.length ≤ 1000) (hB : B ≤ w.heap.size)
    (h : ∀ v' w', OwnR ety k B w' v' (css ++ [cs]) → w.grownBy w' v.ownBlock → (v'.ownBlock = v.ownBlock ∨ v'.ownBlock = some w.heap.size) → K (a.put o.dst v') w') :
    if Region.wanted o (yielded ops a.tmps) = true then Oper.wp Try.prog o a w K Q else E := by
  have hw : Region.wanted o (yielded ops a.tmps) = true := by simp [Region.wanted, hgd]
  rw [if_pos hw]
  obtain ⟨v', w', hr, h2, h3, h4⟩ := run_appR ht hinf hzs hk hby w v css g cs hown hcs h1 hcell hl hB (ty := o.type)
  unfold Oper.wp execOp
  simp only [ho, resolve, invoke, builtin, Sem.run_bind, Sem.run_pure, Result.andThen_ok, List.map_toArray, List.map_cons, List.map_nil, hs, hx, hr]
  exact h v' w' h2 h3 h4
theorem new3 (w : World) (a b c : Value) (ty : TypeId) : ∀ j (hj : j < [a, b, c].length), (w.alloc (.cells #[a, b, c] ty)).cell? ⟨w.heap.size, j, none⟩ = some [a, b, c][j] := by
  intro j hj
  have hj' : j < 3 := hj
  match j, hj' with
  | 0, _ => exact cell_new w _ _ _ 0
  | 1, _ => exact cell_new w _ _ _ 1
  | 2, _ => exact cell_new w _ _ _ 2
theorem one_item (k : Int) (a b : ByteArray) : ∀ u ∈ ([.int .i64 k, .string a, .string b] : List Value), u.oneCell' = true := by simp [Value.oneCell']
end Go.Proofs.Ytbmfehacnigknaa
namespace Go.Proofs.Ytbmfehacnigknaa
open Go.RowKit
set_option linter.unusedVariables false
set_option linter.unusedSimpArgs false

def eStr : Ek ByteArray := ⟨1, fun _ _ s cs => cs = [.string s], fun _ h => h, fun _ h => h⟩
structure Tbl where
  name : ByteArray
  cols : List Co
  index : List ByteArray
def eTbl : Ek Tbl := ⟨3, fun Q w t cs => ∃ a n c a' n' c', cs = [.string t.name, .slice a n c, .slice a' n' c'] ∧ RowIs eCol Q w (.slice a n c) t.cols ∧ RowIs eStr Q w (.slice a' n' c') t.index,
  fun hk ⟨a, n, c, a', n', c', h1, h2, h3⟩ => ⟨a, n, c, a', n', c', h1, h2.keep (by decide) hk, h3.keep (by decide) hk⟩, fun hk ⟨a, n, c, a', n', c', h1, h2, h3⟩ => ⟨a, n, c, a', n', c', h1, h2.mono (by decide) hk, h3.mono (by decide) hk⟩⟩
/-- Texts that are not too long. -/
def StrB (s : ByteArray) : Prop := s.size ≤ 500
def ColB (c : Co) : Prop := c.1.size ≤ 500 ∧ c.2.2.size ≤ 500
/-- A list of such ones. -/
def AllB {α : Type} (P : α → Prop) (l : List α) : Prop := l.length ≤ 500 ∧ ∀ x ∈ l, P x
def TblB (t : Tbl) : Prop := StrB t.name ∧ AllB ColB t.cols ∧ AllB StrB t.index
/-- A block as it is. -/
structure Bk (w : World) (b : Nat) (o : Obj) : Prop where
  row : w.heap[b]? = some o
theorem Bk.new (w : World) (o : Obj) : Bk (w.alloc o) w.heap.size o := ⟨heap_alloc_new w o⟩
theorem Bk.lt {w : World} {b : Nat} {o : Obj} (h : Bk w b o) : b < w.heap.size := (Array.getElem?_eq_some_iff.1 h.row).1
theorem Bk.later {w w' : World} {b : Nat} {o : Obj} (h : Bk w b o) (hb : Below w.heap.size w w') : Bk w' b o := ⟨(hb.block b h.lt).trans h.row⟩
theorem Bk.cell {w : World} {b : Nat} {arr : Array Value} {t : TypeId} {mk : Nat × Nat} (h : Bk w b (.cells arr t mk)) (j : Nat) : w.cell? ⟨b, j, none⟩ = arr[j]? := by
  unfold World.cell?; rw [h.row]; rfl
theorem Bk.free {w : World} {b : Nat} {arr : Array Value} {t : TypeId} (h : Bk w b (.cells arr t (0, 0))) (j : Nat) : w.frozen? ⟨b, j, none⟩ = false := by
  unfold World.frozen?; rw [h.row]; rfl

theorem OwnR.later {ty k B : Nat} {w w' : World} {v : Value} {css : List (List Value)} (h : OwnR ty k B w v css) (hb : Below w.heap.size w w') : OwnR ty k B w' v css := by
  refine ⟨h.1, h.2.1, ?_⟩
  rcases h.2.2 with k | ⟨b, cap, cur, hv, hg', hh, r⟩
  · exact .inl k
  · exact .inr ⟨b, cap, cur, hv, hg', by rw [hb.block b (Array.getElem?_eq_some_iff.1 hh).1]; exact hh, r⟩
/-- A row of the call's own, read, be it empty or not. -/
theorem OwnR.rowE {α : Type} {e : Ek α} {ty B : Nat} {w : World} {v : Value} {css : List (List Value)} {l : List α} {Q : Nat → Prop} (h : OwnR ty e.k B w v css) (hl : l.length = css.length) (hq : ∀ b, B ≤ b → b < w.heap.size → Q b)
    (hE : ∀ i (h1 : i < l.length) (h2 : i < css.length), e.E Q w l[i] css[i]) : RowIs e Q w v l := by
  by_cases hn : css = []
  · subst hn
    obtain rfl : l = [] := List.eq_nil_of_length_eq_zero hl
    rcases h.2.2 with ⟨rfl, _⟩ | ⟨b, cap, cur, rfl, _, _, h1, h2, _⟩
    · exact RowIs.nil _ _ _
    · exact ⟨_, _, cap, rfl, rfl, Nat.zero_le _, Nat.le_trans h2 (by decide), fun h => absurd h (by simp)⟩
  · exact OwnR.row h hl hn hq hE

/-- Block b is stored into, cell by cell, from its first on. -/
def stW (w : World) (b : Nat) (l : List Value) : World := w.setCells b 0 l
theorem Bk.there {w : World} {b : Nat} {arr : Array Value} {t : TypeId} (h : Bk w b (.cells arr t (0, 0))) {n : Nat} (hn : n = arr.size) : w.there b 0 n := fun j hj => by
  subst hn
  rw [Nat.zero_add, h.cell j, Array.getElem?_eq_getElem hj]
  exact ⟨rfl, h.free j⟩
theorem setCells_heap {b k : Nat} (hk : k ≠ b) : ∀ (l : List Value) (o : Nat) (w : World), (w.setCells b o l).heap[k]? = w.heap[k]?
  | [], _, _ => rfl
  | v :: r, o, w => by rw [World.setCells, setCells_heap hk r, Below.heap_setCell _ _ _ _ hk]
theorem setCells_below {B b : Nat} (hb : B ≤ b) {a : World} : ∀ (l : List Value) (o : Nat) (w : World), Below B a w → Below B a (w.setCells b o l)
  | [], _, _, h => h
  | v :: r, o, w, h => setCells_below hb r (o + 1) _ (h.setCell hb _)
theorem stW_heap {w : World} {b k : Nat} {l : List Value} (hk : k ≠ b) : (stW w b l).heap[k]? = w.heap[k]? := setCells_heap hk l 0 w
theorem stW_below {B b : Nat} {a w : World} {l : List Value} (h : Below B a w) (hb : B ≤ b) : Below B a (stW w b l) := setCells_below hb l 0 w h
theorem stW_far {w : World} {b k j : Nat} {l : List Value} {v : Value} (hk : k ≠ b) (h : w.cell? ⟨k, j, none⟩ = some v) : (stW w b l).cell? ⟨k, j, none⟩ = some v := (World.cell?_of_block (a := ⟨k, j, none⟩) (stW_heap hk)).trans h
theorem stW_cell {w : World} {b : Nat} {l : List Value} (ht : w.there b 0 l.length) {j : Nat} {v : Value} (hj : l[j]? = some v) : (stW w b l).cell? ⟨b, j, none⟩ = some v := by
  obtain ⟨hj1, hj2⟩ := List.getElem?_eq_some_iff.1 hj
  have := World.cell?_setCells_in b l 0 w (fun i hi => (ht i hi).1) j hj1
  rw [Nat.zero_add] at this
  unfold stW
  rw [this, hj2]
end Go.Proofs.Ytbmfehacnigknaa
namespace Go.Proofs.Ytbmfehacnigknaa
open Go.RowKit
set_option linter.unusedVariables false
set_option linter.unusedSimpArgs false

/-- Where the first such one stands; -1: there is none. -/
def fidx {α : Type} (p : α → Bool) (l : List α) : Int := if l.findIdx p < l.length then (l.findIdx p : Int) else -1
theorem fidx_hit {α : Type} {p : α → Bool} {l : List α} {k : Nat} (hk : k < l.length) (h : ∀ i (hi : i < l.length), i < k → p l[i] = false) (hp : p l[k] = true) : fidx p l = k := by
  have : l.findIdx p = k := (List.findIdx_eq hk).2 ⟨hp, fun j hj => by simpa using h j (by omega) hj⟩
  rw [fidx, this, if_pos hk]
theorem fidx_none {α : Type} {p : α → Bool} {l : List α} (h : ∀ i (hi : i < l.length), p l[i] = false) : fidx p l = -1 := by
  have : l.findIdx p = l.length := List.findIdx_eq_length.2 fun x hx => by
    obtain ⟨i, hi, rfl⟩ := List.mem_iff_getElem.1 hx
    simpa using h i hi
  rw [fidx, this, if_neg (Nat.lt_irrefl _)]
theorem fidx_vals {α : Type} (p : α → Bool) (l : List α) : fidx p l = -1 ∨ ∃ k : Nat, fidx p l = k ∧ k < l.length := by
  unfold fidx
  split
  · exact .inr ⟨_, rfl, by assumption⟩
  · exact .inl rfl
theorem fidx_at {α : Type} {p : α → Bool} {l : List α} {k : Nat} (h : fidx p l = k) : ∃ hk : k < l.length, p l[k] = true := by
  unfold fidx at h
  split at h
  · rename_i hlt
    obtain rfl : l.findIdx p = k := by omega
    exact ⟨hlt, List.findIdx_getElem⟩
  · omega
/-- A function value that answers p of a thing in memory. -/
def SuchZ {α : Type} (e : Ek α) (p : α → Bool) (w : World) (v : Value) : Prop := ∃ N caps, v = .func (.func N) #[] caps ∧ (∀ args w', (callFunc N args).run Try.prog w' = .ok (.enter N args) w') ∧ ∀ (x : α) (Q : Nat → Prop) (cs : List Value) (w' : World), Below w.heap.size w w' → e.E Q w' x cs → Calls Try.prog N (#[.agg cs.toArray] ++ caps) w' fun en w'' => en = .returned (.bool (p x)) ∧ Below w'.heap.size w' w''
end Go.Proofs.Ytbmfehacnigknaa
