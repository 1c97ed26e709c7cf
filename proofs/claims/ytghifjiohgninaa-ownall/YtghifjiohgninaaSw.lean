/- What the walks of the library's sort share: a row of tags that is turned in place, and nothing else; 'swp' as two stores. -/
import Derived.Test.YtghifjiohgninaaNorm
import Derived.Sort.AssemblyPlain
namespace Go.Proofs.Ytghifjiohgninaa
open Go.RowKit
open Go.Sort (swp PermIn SortedIn ltInt)
set_option linter.unusedVariables false

/-- From w0 the sort has come to w: row g, of 'cap' cells, holds the tags d; of what was there nothing else has turned. -/
structure SW (g cap : Nat) (w0 w : World) (d : Array Int) : Prop where
  os : w.os = w0.os
  tape : w.tape = w0.tape
  output : w.output = w0.output
  size : w0.heap.size ≤ w.heap.size
  other : ∀ k, k < w0.heap.size → k ≠ g → w.heap[k]? = w0.heap[k]?
  row : ∃ cur, w.heap[g]? = some (.cells cur 33 (0, 0)) ∧ cur.size = cap ∧ d.size ≤ cap ∧ ∀ j, j < d.size → cur[j]? = some (.int .u16 d[j]!)

theorem SW.cell {g cap : Nat} {w0 w : World} {d : Array Int} (h : SW g cap w0 w d) {j : Nat} (hj : j < d.size) : w.cell? ⟨g, j, none⟩ = some (.int .u16 d[j]!) := by
  obtain ⟨cur, hc, _, _, hj'⟩ := h.row
  simp only [World.cell?, hc]
  simpa using hj' j hj

theorem SW.free {g cap : Nat} {w0 w : World} {d : Array Int} (h : SW g cap w0 w d) (j : Nat) : w.frozen? ⟨g, j, none⟩ = false := by
  obtain ⟨cur, hc, _⟩ := h.row
  simp [World.frozen?, hc]

theorem SW.lt {g cap : Nat} {w0 w : World} {d : Array Int} (h : SW g cap w0 w d) : g < w.heap.size := by
  obtain ⟨cur, hc, _⟩ := h.row
  exact (Array.getElem?_eq_some_iff.1 hc).1

theorem SW.drewN {g cap : Nat} {w0 w : World} {d : Array Int} (h : SW g cap w0 w d) (n : Nat) : SW g cap w0 (w.drewN n) d := ⟨h.os, h.tape, h.output, h.size, h.other, h.row⟩
theorem SW.drew {g cap : Nat} {w0 w : World} {d : Array Int} (h : SW g cap w0 w d) : SW g cap w0 w.drew d := ⟨h.os, h.tape, h.output, h.size, h.other, h.row⟩

theorem SW.alloc {g cap : Nat} {w0 w : World} {d : Array Int} (h : SW g cap w0 w d) (o : Obj) : SW g cap w0 (w.alloc o) d := by
  refine ⟨h.os, h.tape, h.output, Nat.le_trans h.size (by simp), fun k hk hg => ?_, ?_⟩
  · rw [Below.heap_alloc _ _ _ (Nat.lt_of_lt_of_le hk h.size)]; exact h.other k hk hg
  · obtain ⟨cur, hc, r⟩ := h.row
    exact ⟨cur, by rw [Below.heap_alloc _ _ _ h.lt]; exact hc, r⟩

/-- A store outside of the row and of what was there. -/
theorem SW.setOther {g cap : Nat} {w0 w : World} {d : Array Int} (h : SW g cap w0 w d) {a : Addr} (u : Value) (hg : a.block ≠ g) (hn : w0.heap.size ≤ a.block) : SW g cap w0 (w.setCell a u) d := by
  refine ⟨h.os, h.tape, h.output, by simpa [World.setCell] using h.size, fun k hk hkg => ?_, ?_⟩
  · rw [Below.heap_setCell _ _ _ _ (by omega)]; exact h.other k hk hkg
  · obtain ⟨cur, hc, r⟩ := h.row
    exact ⟨cur, by rw [Below.heap_setCell _ _ _ _ (Ne.symm hg)]; exact hc, r⟩

/-- A store into the row. -/
theorem SW.set {g cap : Nat} {w0 w : World} {d : Array Int} (h : SW g cap w0 w d) (i : Nat) (x : Int) : SW g cap w0 (w.setCell ⟨g, i, none⟩ (.int .u16 x)) (d.setIfInBounds i x) := by
  refine ⟨h.os, h.tape, h.output, by simpa [World.setCell] using h.size, fun k hk hkg => ?_, ?_⟩
  · rw [Below.heap_setCell _ _ _ _ hkg]; exact h.other k hk hkg
  · obtain ⟨cur, hc, hs, hd, hj⟩ := h.row
    refine ⟨cur.setIfInBounds i (.int .u16 x), ?_, by simpa using hs, by simpa using hd, fun j hj' => ?_⟩
    · simp [World.setCell, Array.getElem?_modify, hc]
    · have hjd : j < d.size := by simpa using hj'
      rw [Array.getElem?_setIfInBounds]
      by_cases e : i = j
      · subst e
        rw [if_pos rfl, if_pos (by omega), getElem!_pos _ i (by simpa using hjd), Array.getElem_setIfInBounds_self]
      · rw [if_neg e, hj j hjd, getElem!_pos _ j hjd, getElem!_pos _ j (by simpa using hjd), Array.getElem_setIfInBounds_ne _ e]

/-- The exchange of two elements. -/
theorem SW.swap {g cap : Nat} {w0 w : World} {d : Array Int} (h : SW g cap w0 w d) (i j : Nat) : SW g cap w0 ((w.setCell ⟨g, i, none⟩ (.int .u16 d[j]!)).setCell ⟨g, j, none⟩ (.int .u16 d[i]!)) (swp d i j) :=
  (h.set i d[j]!).set j d[i]!

end Go.Proofs.Ytghifjiohgninaa
