/- The walks of 'cmp.Compare', 'slices.Compare', 'label.compare', 'label.Compare' and 'quarantineref1.Compare': fewer tags first, then tag by tag. Nothing is turned. -/
import Derived.Test.YtghifjiohgninaaRises
namespace Go.Proofs.Ytghifjiohgninaa
open Go.RowKit
set_option linter.unusedVariables false

/-- -1, 0, 1: how two numbers stand. -/
def cmpI (x y : Int) : Int := if x < y then -1 else if y < x then 1 else 0
theorem cmpI_lt {x y : Int} (h : x < y) : cmpI x y = -1 := if_pos h
theorem cmpI_gt {x y : Int} (h : y < x) : cmpI x y = 1 := by rw [cmpI, if_neg (by omega), if_pos h]
theorem cmpI_eq (x : Int) : cmpI x x = 0 := by simp [cmpI]

/-- Two lists, number by number; a beginning of another stands ahead of it. -/
def lexI : List Int → List Int → Int
  | [], [] => 0
  | [], _ :: _ => -1
  | _ :: _, [] => 1
  | x :: xs, y :: ys => if x < y then -1 else if y < x then 1 else lexI xs ys

theorem lexI_lt {x y : Int} (xs ys : List Int) (h : x < y) : lexI (x :: xs) (y :: ys) = -1 := by rw [lexI, if_pos h]
theorem lexI_gt {x y : Int} (xs ys : List Int) (h : y < x) : lexI (x :: xs) (y :: ys) = 1 := by rw [lexI, if_neg (by omega), if_pos h]
theorem lexI_eq (x : Int) (xs ys : List Int) : lexI (x :: xs) (x :: ys) = lexI xs ys := by rw [lexI, if_neg (by omega), if_neg (by omega)]

/-- Two labels: fewer tags first. -/
def cmpL (xs ys : List Int) : Int := if xs.length < ys.length then -1 else if ys.length < xs.length then 1 else lexI xs ys

theorem cmpL_lt {xs ys : List Int} (h : xs.length < ys.length) : cmpL xs ys = -1 := if_pos h
theorem cmpL_gt {xs ys : List Int} (h : ys.length < xs.length) : cmpL xs ys = 1 := by rw [cmpL, if_neg (by omega), if_pos h]
theorem cmpL_eq {xs ys : List Int} (h : xs.length = ys.length) : cmpL xs ys = lexI xs ys := by rw [cmpL, if_neg (by omega), if_neg (by omega)]

end Go.Proofs.Ytghifjiohgninaa
