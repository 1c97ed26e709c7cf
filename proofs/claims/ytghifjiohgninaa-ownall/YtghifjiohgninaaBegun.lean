/- The walk of the statements' own first question, 'begun': it answers true, and turns nothing. -/
import Derived.Test.YtghifjiohgninaaWithin
import Derived.Test.YtghifjiohgninaaCmp
import Derived.Test.YtghifjiohgninaaSets
import Derived.Test.YtghifjiohgninaaNorm2
import Derived.Test.YtghifjiohgninaaTake
namespace Go.Proofs.Ytghifjiohgninaa
open Go.RowKit
set_option linter.unusedVariables false

/-- A slice that a literal has laid. -/
theorem Rd.lit {k : IntKind} (w : World) (t : TypeId) (xs : List Int) (hx : xs.length ≤ 1000) : Rd k (w.alloc (.cells (xs.map (Value.int k)).toArray t)) (some ⟨w.heap.size, 0, none⟩) xs.length xs.length xs := by
  refine ⟨rfl, Nat.le_refl _, by omega, fun e => by simp at e, fun _ => ⟨_, 0, rfl, fun i hi => ?_⟩⟩
  simp [nth, World.cell?_alloc_at, hi]

end Go.Proofs.Ytghifjiohgninaa
