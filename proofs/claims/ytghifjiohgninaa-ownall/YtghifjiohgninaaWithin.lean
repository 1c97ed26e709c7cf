/- The walk of 'label.within' and of 'label.Flows' at tags that rise: is each tag of the first among those of the second? Nothing is turned. -/
import Derived.Test.YtghifjiohgninaaRises
namespace Go.Proofs.Ytghifjiohgninaa
open Go.RowKit
set_option linter.unusedVariables false

/-- The look as the code does it. -/
def withinB : List Int → List Int → Bool
  | [], _ => true
  | x :: xs, ys => match ys.dropWhile (fun y => decide (y < x)) with
    | [] => false
    | y :: r => if y = x then withinB xs (y :: r) else false

theorem withinB_skip {x y : Int} (xs r : List Int) (h : y < x) : withinB (x :: xs) (y :: r) = withinB (x :: xs) r := by
  simp [withinB, h]
theorem withinB_end (x : Int) (xs : List Int) : withinB (x :: xs) [] = false := rfl
theorem withinB_miss {x y : Int} (xs r : List Int) (h : x < y) : withinB (x :: xs) (y :: r) = false := by
  have h1 : ¬ y < x := by omega
  have h2 : ¬ y = x := by omega
  simp [withinB, h1, h2]
theorem withinB_hit (x : Int) (xs r : List Int) : withinB (x :: xs) (x :: r) = withinB xs (x :: r) := by
  simp [withinB]

end Go.Proofs.Ytghifjiohgninaa
