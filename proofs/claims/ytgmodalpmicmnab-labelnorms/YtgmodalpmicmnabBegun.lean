/- The walk of the statements' own first question, 'begun': it answers true, and turns nothing. -/
import Derived.Test.YtgmodalpmicmnabWithin
import Derived.Test.YtgmodalpmicmnabCmp
import Derived.Test.YtgmodalpmicmnabSets
import Derived.Test.YtgmodalpmicmnabNorm2
import Derived.Test.YtgmodalpmicmnabTake
namespace Go.Proofs.Ytgmodalpmicmnab
open Go.RowKit
set_option linter.unusedVariables false

/-- A slice that a literal has laid. -/
theorem Rd.lit {k : IntKind} (w : World) (t : TypeId) (xs : List Int) (hx : xs.length ≤ 1000) : Rd k (w.alloc (.cells (xs.map (Value.int k)).toArray t)) (some ⟨w.heap.size, 0, none⟩) xs.length xs.length xs := by
  refine ⟨rfl, Nat.le_refl _, by omega, fun e => by simp at e, fun _ => ⟨_, 0, rfl, fun i hi => ?_⟩⟩
  simp [nth, World.cell?_alloc_at, hi]

set_option maxHeartbeats 2000000 in
theorem begun_any (w : World) : Calls Try.prog 4 #[] w fun e w' => e = .returned (.bool true) ∧ Below w.heap.size w w' := by
  have L1 : Rd .u16 (w.alloc (.cells #[.int .u16 3, .int .u16 1, .int .u16 3] 28)) (some ⟨w.heap.size, 0, none⟩) 3 3 [3, 1, 3] := Rd.lit (k := .u16) w 28 [3, 1, 3] (by decide)
  go_enter Try.func4, Try.ntmps4
  go_wp2_with fail
  refine (norm_313 _ _ _ L1).mono ?_
  rintro e w1 ⟨oo, q, rfl, hr1, hb1⟩
  have hB1 : Below w.heap.size w w1 := ((Below.refl w.heap.size w).alloc (Nat.le_refl _) _).trans (hb1.mono (by simp))
  clear hb1 L1
  obtain ⟨b, o, rfl, hc⟩ := hr1.cells (by omega)
  have hc0 : w1.cell? ⟨b, o, none⟩ = some (.int .u16 1) := hc 0 (by omega)
  clear hc
  have L2 : Rd .u8 (w1.alloc (.cells #[.int .u8 1, .int .u8 0, .int .u8 7] 5)) (some ⟨w1.heap.size, 0, none⟩) 3 3 [1, 0, 7] := Rd.lit (k := .u8) w1 5 [1, 0, 7] (by decide)
  go_wp2_with fail
  refine (take_any _ _ _ _ _ L2 (by decide)).mono ?_
  rintro e w2 ⟨o2, p2, q2, rfl, hr2, hb2⟩
  have t1 : takeN [1, 0, 7] = 3 := by decide
  have t2 : takeE [1, 0, 7] = 0 := by decide
  have t3 : takeT [1, 0, 7] = [7] := by decide
  rw [t3] at hr2
  rw [t1, t2]
  clear t1 t2 t3 L2
  have hB12 : Below w1.heap.size w1 w2 := ((Below.refl w1.heap.size w1).alloc (Nat.le_refl _) _).trans (hb2.mono (by simp))
  have hB2 : Below w.heap.size w w2 := hB1.trans (hB12.mono hB1.size)
  replace hc0 := cell_later hB12 hc0
  replace hr1 := hr1.later hB12
  obtain rfl : p2 = 1 := by simpa using hr2.len.symm
  obtain ⟨b2, o2', rfl, hc⟩ := hr2.cells (by omega)
  have hd0 : w2.cell? ⟨b2, o2', none⟩ = some (.int .u16 7) := hc 0 (by omega)
  clear hc hb2 hB12 hB1
  have m1 : (risesB [1, 3] && decide ([(1 : Int), 3].length ≤ 8)) = true := by decide
  have HM := may_any (some ⟨b, o, none⟩) 2 q [1, 3] w2 hr1
  rw [m1] at HM
  replace HM : Hid _ := HM
  clear m1
  go_wp2_with fail
  refine Calls.mono HM.out ?_
  rintro e w3 ⟨rfl, hb3⟩
  have hB3 : Below w.heap.size w w3 := hB2.trans (hb3.mono hB2.size)
  replace hr1 := hr1.later hb3
  replace hd0 := cell_later hb3 hd0
  clear HM hb3 hc0 hr2 hB2
  have HM := flows_any none (some ⟨b, o, none⟩) 0 0 2 q [] [1, 3] w3 (Rd.nil _ _) hr1 rfl (by decide)
  rw [show withinB [] [1, 3] = true from rfl] at HM
  replace HM : Hid _ := HM
  go_wp2_with fail
  refine Calls.mono HM.out ?_
  rintro e w4 ⟨rfl, hb4⟩
  have hB4 : Below w.heap.size w w4 := hB3.trans (hb4.mono hB3.size)
  replace hr1 := hr1.later hb4
  replace hd0 := cell_later hb4 hd0
  clear HM hb4 hB3
  have HM := flows_any (some ⟨b, o, none⟩) none 2 q 0 0 [1, 3] [] w4 hr1 (Rd.nil _ _) (by decide) rfl
  rw [show withinB [1, 3] [] = false from rfl] at HM
  replace HM : Hid _ := HM
  go_wp2_with fail
  refine Calls.mono HM.out ?_
  rintro e w5 ⟨rfl, hb5⟩
  have hB5 : Below w.heap.size w w5 := hB4.trans (hb5.mono hB4.size)
  replace hr1 := hr1.later hb5
  replace hd0 := cell_later hb5 hd0
  clear HM hb5 hB4
  have L3 : Rd .u16 (w5.alloc (.cells #[.int .u16 2] 28)) (some ⟨w5.heap.size, 0, none⟩) 1 1 [2] := Rd.lit (k := .u16) w5 28 [2] (by decide)
  have hal : Below w5.heap.size w5 (w5.alloc (.cells #[.int .u16 2] 28)) := (Below.refl w5.heap.size w5).alloc (Nat.le_refl _) _
  have HM := join_any (some ⟨b, o, none⟩) (some ⟨w5.heap.size, 0, none⟩) 2 q 1 1 [1, 3] [2] _ (hr1.later hal) L3 (by decide) rfl (by omega) (by omega)
  rw [show mergeF true true true 300 [1, 3] [2] = [1, 2, 3] from by decide] at HM
  replace HM : Hid _ := HM
  go_wp2_with fail
  refine Calls.mono HM.out ?_
  rintro e w6 ⟨o6, p6, q6, rfl, hr6, hb6⟩
  have hb56 : Below w5.heap.size w5 w6 := hal.trans (hb6.mono (by simp))
  have hB6 : Below w.heap.size w w6 := hB5.trans (hb56.mono hB5.size)
  replace hr1 := hr1.later hb56
  replace hd0 := cell_later hb56 hd0
  obtain rfl : p6 = 3 := by simpa using hr6.len.symm
  clear HM hb6 hB5 hb56 hal L3 hr6
  have HM := Compare_any none (some ⟨b, o, none⟩) 0 0 2 q [] [1, 3] w6 (Rd.nil _ _) hr1
  rw [show cmpL [] [1, 3] = -1 from rfl] at HM
  replace HM : Hid _ := HM
  go_wp2_with fail
  refine Calls.mono HM.out ?_
  rintro e w7 ⟨rfl, rfl⟩
  go_wp2
  go_ret
  exact ⟨rfl, hB6⟩

end Go.Proofs.Ytgmodalpmicmnab
