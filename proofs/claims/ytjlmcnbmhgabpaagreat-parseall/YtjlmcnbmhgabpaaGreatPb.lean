/- The reader of words in memory; the walks of its smallest functions. -/
import Derived.Test.YtjlmcnbmhgabpaaGreatPa
namespace Go.Proofs.YtjlmcnbmhgabpaaGreat
open Go.RowKit
set_option linter.unusedVariables false

/-- The reader of words lies in block g: words, deep, at, e. -/
structure Rq (w : World) (g : Nat) (sl : Value) (d a e : Int) : Prop where
  row : w.heap[g]? = some (.cells #[sl, .int .i64 d, .int .i64 a, .int .i64 e] 48 (0, 0))
theorem Rq.lt {w : World} {g : Nat} {sl : Value} {d a e : Int} (h : Rq w g sl d a e) : g < w.heap.size := (Array.getElem?_eq_some_iff.1 h.row).1
theorem Rq.cells {w : World} {g : Nat} {sl : Value} {d a e : Int} (h : Rq w g sl d a e) : w.cell? ⟨g, 0, none⟩ = some sl ∧ w.cell? ⟨g, 1, none⟩ = some (.int .i64 d) ∧ w.cell? ⟨g, 2, none⟩ = some (.int .i64 a) ∧ w.cell? ⟨g, 3, none⟩ = some (.int .i64 e) := by
  unfold World.cell?; rw [h.row]; exact ⟨rfl, rfl, rfl, rfl⟩
theorem Rq.free {w : World} {g : Nat} {sl : Value} {d a e : Int} (h : Rq w g sl d a e) : w.frozen? ⟨g, 0, none⟩ = false ∧ w.frozen? ⟨g, 1, none⟩ = false ∧ w.frozen? ⟨g, 2, none⟩ = false ∧ w.frozen? ⟨g, 3, none⟩ = false := by
  unfold World.frozen?; rw [h.row]; exact ⟨rfl, rfl, rfl, rfl⟩
theorem Rq.same {w w' : World} {g : Nat} {sl : Value} {d a e : Int} (h : Rq w g sl d a e) (he : w'.heap[g]? = w.heap[g]?) : Rq w' g sl d a e := ⟨he.trans h.row⟩
theorem Rq.set0 {w : World} {g : Nat} {sl : Value} {d a e : Int} (h : Rq w g sl d a e) (v : Value) : Rq (w.setCell ⟨g, 0, none⟩ v) g v d a e := ⟨by simp [World.setCell, Array.getElem?_modify, h.row]⟩
theorem Rq.set1 {w : World} {g : Nat} {sl : Value} {d a e : Int} (h : Rq w g sl d a e) (z : Int) : Rq (w.setCell ⟨g, 1, none⟩ (.int .i64 z)) g sl z a e := ⟨by simp [World.setCell, Array.getElem?_modify, h.row]⟩
theorem Rq.set2 {w : World} {g : Nat} {sl : Value} {d a e : Int} (h : Rq w g sl d a e) (z : Int) : Rq (w.setCell ⟨g, 2, none⟩ (.int .i64 z)) g sl d z e := ⟨by simp [World.setCell, Array.getElem?_modify, h.row]⟩
theorem Rq.set3 {w : World} {g : Nat} {sl : Value} {d a e : Int} (h : Rq w g sl d a e) (z : Int) : Rq (w.setCell ⟨g, 3, none⟩ (.int .i64 z)) g sl d a z := ⟨by simp [World.setCell, Array.getElem?_modify, h.row]⟩

/-- The reader's words are ts, from block b, place o on. -/
structure Wo (w : World) (g b o n c : Nat) (ts : List Tk) : Prop where
  lt : b < g
  ended : Ended ts
  few : ts.length ≤ 500
  rd : RdT w (some ⟨b, o, none⟩) n c ts
theorem Wo.keep {w w' : World} {g b o n c : Nat} {ts : List Tk} (h : Wo w g b o n c ts) (hk : w'.heap[b]? = w.heap[b]?) : Wo w' g b o n c ts :=
  ⟨h.lt, h.ended, h.few, ⟨h.rd.len, h.rd.cap, h.rd.max, h.rd.non, fun hn => by
    obtain ⟨b', o', e, hc⟩ := h.rd.cells hn
    cases e
    refine ⟨b, o, rfl, fun i hi => ?_⟩
    obtain ⟨q0, q1, q2, q3⟩ := hc i hi
    exact ⟨(World.cell?_of_block (a := ⟨b, _, none⟩) hk).trans q0, (World.cell?_of_block (a := ⟨b, _, none⟩) hk).trans q1, (World.cell?_of_block (a := ⟨b, _, none⟩) hk).trans q2, (World.cell?_of_block (a := ⟨b, _, none⟩) hk).trans q3⟩⟩⟩
theorem Wo.pos {w : World} {g b o n c : Nat} {ts : List Tk} (h : Wo w g b o n c ts) : 0 < n := by have := h.ended.pos; rw [h.rd.len] at this; exact this
theorem Wo.head {w : World} {g b o n c : Nat} {t : Tk} {ts : List Tk} (h : Wo w g b o n c (t :: ts)) : w.cell? ⟨b, o, none⟩ = some (.int .i64 t.1) ∧ w.cell? ⟨b, o + 1, none⟩ = some (.string t.2.1) ∧ w.cell? ⟨b, o + 2, none⟩ = some (.int .i64 t.2.2.1) ∧ w.cell? ⟨b, o + 3, none⟩ = some (.int .i64 t.2.2.2) := by
  obtain ⟨b', o', e, hc⟩ := h.rd.cells h.pos
  cases e
  have := hc 0 h.pos
  simpa [Ct, tth] using this
theorem Wo.blt {w : World} {g b o n c : Nat} {ts : List Tk} (h : Wo w g b o n c ts) : b < w.heap.size := by
  obtain ⟨b', o', e, hc⟩ := h.rd.cells h.pos
  cases e
  exact World.block_lt_of_cell? _ _ (hc 0 h.pos).1
theorem Wo.tail {w : World} {g b o n c : Nat} {t : Tk} {ts : List Tk} (h : Wo w g b o n c (t :: ts)) (hk : t.1 ≠ 6) : Wo w g b (o + 4) (n - 1) (c - 1) ts := by
  have hl := h.rd.len
  have hp := h.pos
  have hc := h.rd.cap
  have hm := h.rd.max
  have he : Ended ts := h.ended.resolve_left hk
  rw [List.length_cons] at hl
  have hf := h.few
  rw [List.length_cons] at hf
  refine ⟨h.lt, he, by omega, ⟨by omega, by omega, by omega, fun e => by simp at e, fun hn => ?_⟩⟩
  obtain ⟨b', o', e, hc'⟩ := h.rd.cells hp
  cases e
  refine ⟨b, o + 4, rfl, fun i hi => ?_⟩
  have := hc' (i + 1) (by omega)
  rw [show o + (i + 1) * 4 = o + 4 + i * 4 from by omega, show tth (t :: ts) (i + 1) = tth ts i from by simp [tth]] at this
  exact this

/-- The reader of words lies in block g: a fault, or words that are yet to be read; and how deep it is. -/
structure Rp (w : World) (g : Nat) (S : Sa) (d : Nat) : Prop where
  on : (∃ x sl, S = .inl x ∧ x.2 ≠ 0 ∧ Rq w g sl d x.1 x.2) ∨ (∃ ts b o n c, S = .inr ts ∧ Rq w g (.slice (some ⟨b, o, none⟩) n c) d 0 0 ∧ Wo w g b o n c ts)
theorem Rp.bad {w : World} {g : Nat} {x : Int × Int} {d : Nat} (h : Rp w g (.inl x) d) : ∃ sl, x.2 ≠ 0 ∧ Rq w g sl d x.1 x.2 := by
  rcases h.on with ⟨y, sl, e, h1, h2⟩ | ⟨ts, b, o, n, c, e, _⟩
  · cases e; exact ⟨sl, h1, h2⟩
  · cases e
theorem Rp.ok {w : World} {g : Nat} {ts : List Tk} {d : Nat} (h : Rp w g (.inr ts) d) : ∃ b o n c, Rq w g (.slice (some ⟨b, o, none⟩) n c) d 0 0 ∧ Wo w g b o n c ts := by
  rcases h.on with ⟨y, sl, e, h1, h2⟩ | ⟨ts, b, o, n, c, e, h1, h2⟩
  · cases e
  · cases e; exact ⟨b, o, n, c, h1, h2⟩
theorem Rp.of_bad {w : World} {g : Nat} {x : Int × Int} {d : Nat} {sl : Value} (h : x.2 ≠ 0) (k : Rq w g sl d x.1 x.2) : Rp w g (.inl x) d := ⟨.inl ⟨x, sl, rfl, h, k⟩⟩
theorem Rp.of_ok {w : World} {g : Nat} {ts : List Tk} {d b o n c : Nat} (h : Rq w g (.slice (some ⟨b, o, none⟩) n c) d 0 0) (k : Wo w g b o n c ts) : Rp w g (.inr ts) d := ⟨.inr ⟨ts, b, o, n, c, rfl, h, k⟩⟩
theorem Rp.lt {w : World} {g : Nat} {S : Sa} {d : Nat} (h : Rp w g S d) : g < w.heap.size := by
  rcases h.on with ⟨y, sl, e, h1, h2⟩ | ⟨ts, b, o, n, c, e, h1, h2⟩
  · exact h2.lt
  · exact h1.lt
/-- What keeps the blocks up to g keeps the reader. -/
theorem Rp.keep {w w' : World} {g : Nat} {S : Sa} {d : Nat} (h : Rp w g S d) (hk : ∀ k, k ≤ g → w'.heap[k]? = w.heap[k]?) : Rp w' g S d := by
  rcases h.on with ⟨y, sl, e, h1, h2⟩ | ⟨ts, b, o, n, c, e, h1, h2⟩
  · subst e; exact Rp.of_bad h1 (h2.same (hk g (Nat.le_refl _)))
  · subst e; exact Rp.of_ok (h1.same (hk g (Nat.le_refl _))) (h2.keep (hk b (Nat.le_of_lt h2.lt)))
theorem Rp.later {w w' : World} {g : Nat} {S : Sa} {d : Nat} (h : Rp w g S d) (hb : Below w.heap.size w w') : Rp w' g S d := h.keep fun k hk => hb.block k (Nat.lt_of_le_of_lt hk h.lt)
theorem Rp.alloc {w : World} {g : Nat} {S : Sa} {d : Nat} (h : Rp w g S d) (o : Obj) : Rp (w.alloc o) g S d := h.later ((Below.refl _ _).alloc (Nat.le_refl _) o)
theorem Rp.drewN {w : World} {g : Nat} {S : Sa} {d : Nat} (h : Rp w g S d) (n : Nat) : Rp (w.drewN n) g S d := h.keep fun _ _ => rfl
theorem Rp.other {w : World} {g : Nat} {S : Sa} {d : Nat} (h : Rp w g S d) {r : Nat} (hr : g < r) (o : Nat) (v : Value) : Rp (w.setCell ⟨r, o, none⟩ v) g S d :=
  h.keep fun k hk => Below.heap_setCell _ _ _ _ (by show k ≠ r; omega)
/-- How much is yet to be read, for a measure. -/
def szW (g : Nat) (w : World) : Nat := match w.cell? ⟨g, 3, none⟩ with
  | some (.int _ 0) => (match w.cell? ⟨g, 0, none⟩ with | some (.slice _ n _) => n | _ => 0)
  | _ => 0
theorem Rp.sz {w : World} {g : Nat} {S : Sa} {d : Nat} (h : Rp w g S d) : szW g w = szS S := by
  rcases h.on with ⟨y, sl, e, h1, h2⟩ | ⟨ts, b, o, n, c, e, h1, h2⟩
  · subst e
    rw [szW, h2.cells.2.2.2]
    simp only [szS]
    split
    · rename_i h; simp only [Option.some.injEq, Value.int.injEq] at h; exact absurd h.2 h1
    · rfl
  · subst e
    rw [szW, h1.cells.2.2.2, h1.cells.1]
    simp only [szS]
    exact h2.rd.len.symm

theorem Rp.few {w : World} {g : Nat} {S : Sa} {d : Nat} (h : Rp w g S d) : szS S ≤ 500 := by
  rcases h.on with ⟨y, sl, e, h1, h2⟩ | ⟨ts, b, o, n, c, e, h1, h2⟩
  · subst e; exact Nat.zero_le _
  · subst e; exact h2.few

/-- The word that is to be read; of no kind behind a fault. -/
def nxT : Sa → Tk
  | .inl _ => (0, ⟨#[]⟩, 0, 0)
  | .inr ts => tth ts 0

theorem below_new4 (w : World) (o : Obj) (a b c d : Value) : Below w.heap.size w (((((w.alloc o).setCell ⟨w.heap.size, 0, none⟩ a).setCell ⟨w.heap.size, 1, none⟩ b).setCell ⟨w.heap.size, 2, none⟩ c).setCell ⟨w.heap.size, 3, none⟩ d) := by
  refine ⟨rfl, rfl, rfl, by simp [World.setCell], fun k hk => ?_⟩
  rw [Below.heap_setCell _ _ _ _ (by show k ≠ w.heap.size; omega), Below.heap_setCell _ _ _ _ (by show k ≠ w.heap.size; omega), Below.heap_setCell _ _ _ _ (by show k ≠ w.heap.size; omega), Below.heap_setCell _ _ _ _ (by show k ≠ w.heap.size; omega)]
  exact ((Below.refl w.heap.size w).alloc (Nat.le_refl _) o).block k hk

set_option maxRecDepth 100000 in
set_option maxHeartbeats 1000000 in
theorem pNext_any {g : Nat} {S : Sa} {d : Nat} {w : World} (h : Rp w g S d) :
    Calls Tryz.prog 44 #[.pointer (some ⟨g, 0, none⟩)] w fun e w' => e = .returned (tkA (nxT S)) ∧ Below w.heap.size w w' := by
  have hgl := h.lt
  match S, h with
  | .inl x, h =>
    obtain ⟨sl, hx, hq⟩ := h.bad
    obtain ⟨c0, c1, c2, c3⟩ := hq.cells
    have g1 : (x.2 != 0) = true := by simpa using hx
    clear h hq
    go_enter Tryz.func44, Tryz.ntmps44
    go_wp2
    refine bodyPost_ret (v := tkA (nxT (.inl x))) (by simp [results, Tryz.results44, go_sem, tkA, nxT]) rfl ⟨rfl, ?_⟩
    exact (Below.refl _ _).alloc (Nat.le_refl _) _
  | .inr (t :: ts), h =>
    obtain ⟨b, o, n, c, hq, hw⟩ := h.ok
    obtain ⟨c0, c1, c2, c3⟩ := hq.cells
    obtain ⟨q0, q1, q2, q3⟩ := hw.head
    have hp := hw.pos
    have hbl := hw.blt
    clear h hq hw
    go_enter Tryz.func44, Tryz.ntmps44
    go_wp2
    refine bodyPost_ret (v := tkA t) (by simp [results, Tryz.results44, go_sem, tkA]) rfl ⟨rfl, ?_⟩
    exact (Below.refl _ _).alloc (Nat.le_refl _) _
  | .inr [], h =>
    obtain ⟨b, o, n, c, hq, hw⟩ := h.ok
    exact hw.ended.elim

end Go.Proofs.YtjlmcnbmhgabpaaGreat
