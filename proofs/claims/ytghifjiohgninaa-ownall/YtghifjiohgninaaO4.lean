/- The walk of the statements' own first question, 'begun': it answers true, and turns nothing. -/
import Derived.Test.YtghifjiohgninaaO3
namespace Go.Proofs.Ytghifjiohgninaa
open Go.RowKit
set_option linter.unusedVariables false

theorem below_alloc (w : World) (o : Obj) : Below w.heap.size w (w.alloc o) := (Below.refl w.heap.size w).alloc (Nat.le_refl _) _

set_option maxRecDepth 100000 in
set_option maxHeartbeats 2000000 in
theorem begun_any (w : World) : Calls Try.prog 6 #[] w fun e w' => e = .returned (.bool true) ∧ Below w.heap.size w w' := by
  have A1 := below_alloc w (.cells #[.int .u16 1] 33)
  have A2 := below_alloc (w.alloc (.cells #[.int .u16 1] 33)) (.cells #[.int .u16 1] 33)
  have L1 : Rd .u16 (w.alloc (.cells #[.int .u16 1] 33)) (some ⟨w.heap.size, 0, none⟩) 1 1 [1] := Rd.lit (k := .u16) w 33 [1] (by decide)
  have L2 : Rd .u16 ((w.alloc (.cells #[.int .u16 1] 33)).alloc (.cells #[.int .u16 1] 33)) (some ⟨w.heap.size + 1, 0, none⟩) 1 1 [1] := by simpa using Rd.lit (k := .u16) (w.alloc (.cells #[.int .u16 1] 33)) 33 [1] (by decide)
  have H1 := ownMay_any _ 1 1 [1] _ 1 1 [1] _ (L1.later A2) L2 (by decide) (by decide) (by decide)
  rw [show ownE [1] [1] = 0 from by decide] at H1
  replace H1 : Hid _ := H1
  have B0 : Below w.heap.size w ((w.alloc (.cells #[.int .u16 1] 33)).alloc (.cells #[.int .u16 1] 33)) := A1.trans (A2.mono (by simp))
  go_enter Try.func6, Try.ntmps6
  go_wp2_with fail
  refine Calls.mono H1.out ?_
  rintro e w1 ⟨rfl, hb1⟩
  have B1 : Below w.heap.size w w1 := B0.trans (hb1.mono B0.size)
  clear H1 hb1 L1 L2 A1 A2 B0
  have A1 := below_alloc w1 (.cells #[.int .u16 1] 33)
  have L1 : Rd .u16 (w1.alloc (.cells #[.int .u16 1] 33)) (some ⟨w1.heap.size, 0, none⟩) 1 1 [1] := Rd.lit (k := .u16) w1 33 [1] (by decide)
  have H1 := ownMay_any none 0 0 [] _ 1 1 [1] _ (Rd.nil _ _) L1 rfl (by decide) (by decide)
  rw [show ownE [] [1] = 17 from by decide] at H1
  replace H1 : Hid _ := H1
  go_wp2_with fail
  refine Calls.mono H1.out ?_
  rintro e w2 ⟨rfl, hb2⟩
  have B2 : Below w.heap.size w w2 := B1.trans ((A1.trans (hb2.mono (by simp))).mono B1.size)
  clear H1 hb2 L1 A1 B1
  have A1 := below_alloc w2 (.cells #[.int .u16 1] 33)
  have A2 := below_alloc (w2.alloc (.cells #[.int .u16 1] 33)) (.cells #[.int .u16 1] 33)
  have L1 : Rd .u16 (w2.alloc (.cells #[.int .u16 1] 33)) (some ⟨w2.heap.size, 0, none⟩) 1 1 [1] := Rd.lit (k := .u16) w2 33 [1] (by decide)
  have L2 : Rd .u16 ((w2.alloc (.cells #[.int .u16 1] 33)).alloc (.cells #[.int .u16 1] 33)) (some ⟨w2.heap.size + 1, 0, none⟩) 1 1 [1] := by simpa using Rd.lit (k := .u16) (w2.alloc (.cells #[.int .u16 1] 33)) 33 [1] (by decide)
  have H1 := ownFlows_any _ none _ 1 1 0 0 1 1 [1] [] [1] _ (L1.later A2) (Rd.nil _ _) L2 (by decide) rfl (by decide) (by decide) (by decide) (by decide)
  rw [show flB [1] [] [1] = true from by decide] at H1
  replace H1 : Hid _ := H1
  have B0 : Below w2.heap.size w2 ((w2.alloc (.cells #[.int .u16 1] 33)).alloc (.cells #[.int .u16 1] 33)) := A1.trans (A2.mono (by simp))
  go_wp2_with fail
  refine Calls.mono H1.out ?_
  rintro e w3 ⟨rfl, hb3⟩
  have B3 : Below w.heap.size w w3 := B2.trans ((B0.trans (hb3.mono B0.size)).mono B2.size)
  clear H1 hb3 L1 L2 A1 A2 B0 B2
  have A1 := below_alloc w3 (.cells #[.int .u16 1, .int .u16 2] 33)
  have A2 := below_alloc (w3.alloc (.cells #[.int .u16 1, .int .u16 2] 33)) (.cells #[.int .u16 1] 33)
  have L1 : Rd .u16 (w3.alloc (.cells #[.int .u16 1, .int .u16 2] 33)) (some ⟨w3.heap.size, 0, none⟩) 2 2 [1, 2] := Rd.lit (k := .u16) w3 33 [1, 2] (by decide)
  have L2 : Rd .u16 ((w3.alloc (.cells #[.int .u16 1, .int .u16 2] 33)).alloc (.cells #[.int .u16 1] 33)) (some ⟨w3.heap.size + 1, 0, none⟩) 1 1 [1] := by simpa using Rd.lit (k := .u16) (w3.alloc (.cells #[.int .u16 1, .int .u16 2] 33)) 33 [1] (by decide)
  have H1 := strip_any _ _ 2 2 1 1 [1, 2] [1] _ (L1.later A2) L2 (by decide) (by decide) (by decide) (by decide)
  rw [show minusL [1, 2] [1] = [2] from by decide] at H1
  replace H1 : Hid _ := H1
  have B0 : Below w3.heap.size w3 ((w3.alloc (.cells #[.int .u16 1, .int .u16 2] 33)).alloc (.cells #[.int .u16 1] 33)) := A1.trans (A2.mono (by simp))
  go_wp2_with fail
  refine Calls.mono H1.out ?_
  rintro e w4 ⟨oo, p, q, rfl, hr, hb4⟩
  have B4 : Below w.heap.size w w4 := B3.trans ((B0.trans (hb4.mono B0.size)).mono B3.size)
  obtain rfl : p = 1 := by simpa using hr.len.symm
  clear H1 hb4 L1 L2 A1 A2 B0 B3
  go_wp2
  go_ret
  exact ⟨rfl, B4⟩

end Go.Proofs.Ytghifjiohgninaa
