/- A page of the call's own; begun. -/
import Derived.Test.YtmfoenhbldacfaaP7
namespace Go.Proofs.Ytmfoenhbldacfaa
open Go.RowKit
set_option linter.unusedVariables false

/-- A page of the call's own, since W. -/
structure My (W w : World) (g : Nat) (R : List (List Int)) : Prop where
  pg : ∃ B, Pi w g B R allP
  own : W.heap.size ≤ g
  bel : Below W.heap.size W w
theorem My.later {W w w' : World} {g : Nat} {R : List (List Int)} (h : My W w g R) (hb : Below w.heap.size w w') : My W w' g R := by
  obtain ⟨B, hB⟩ := h.pg
  exact ⟨⟨B, hB.later hb⟩, h.own, bthen h.bel hb⟩
theorem My.turn {W w w' : World} {g : Nat} {R R' : List (List Int)} (h : My W w g R) (hr : Rest g w w') (hp : ∃ B, Pi w' g B R' allP) : My W w' g R' :=
  ⟨hp, h.own, Rest.below h.bel hr h.own h.bel.size⟩
theorem My.lt {W w : World} {g : Nat} {R : List (List Int)} (h : My W w g R) : g < w.heap.size := by
  obtain ⟨B, hB⟩ := h.pg
  exact hB.pg.lt
theorem My.alloc {W w : World} {g : Nat} {R : List (List Int)} (h : My W w g R) (o : Obj) : My W (w.alloc o) g R := h.later ((Below.refl _ _).alloc (Nat.le_refl _) _)
theorem My.drewN {W w : World} {g : Nat} {R : List (List Int)} (h : My W w g R) (n : Nat) : My W (w.drewN n) g R := by
  obtain ⟨B, hB⟩ := h.pg
  exact ⟨⟨B, hB.drewN n⟩, h.own, below_drewN h.bel n⟩
theorem my_new (W w : World) (hb : Below W.heap.size W w) : Calls Try.prog 19 #[] w fun e w' => ∃ g, e = .returned (.pointer (some ⟨g, 0, none⟩)) ∧ My W w' g [] ∧ Below w.heap.size w w' := by
  refine Calls.mono (new_any w) ?_
  rintro e w' ⟨rfl, hp, hb2⟩
  exact ⟨_, rfl, ⟨⟨_, hp⟩, hb.size, bthen hb hb2⟩, hb2⟩

/-- Bytes that the call has just laid. -/
theorem Rd.new (w : World) (l : List Int) (h : l.length ≤ 1000) : Rd .u8 (w.alloc (.cells (l.map (Value.int .u8)).toArray 5)) (some ⟨w.heap.size, 0, none⟩) l.length l.length l :=
  ⟨rfl, Nat.le_refl _, by omega, (fun e => by cases e), fun _ => ⟨_, 0, rfl, fun i hi => by
    rw [cell_of_row _ _ _ _ _ _ (heap_alloc_last w _)]
    simp [nth, hi]⟩⟩

end Go.Proofs.Ytmfoenhbldacfaa
