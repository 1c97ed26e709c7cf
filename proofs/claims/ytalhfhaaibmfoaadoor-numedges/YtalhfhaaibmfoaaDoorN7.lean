/- The walk of NumEdges. -/
import Derived.Test.YtalhfhaaibmfoaaDoorN6
namespace Go.Proofs.YtalhfhaaibmfoaaDoor
open Go.RowKit
set_option linter.unusedVariables false

theorem pA_num {l : List UInt8} (h : isNum l = true) : pA l = nA (val l) := by rw [pA, h]; rfl
theorem itoa_least : Lib.itoa (-9223372036854775808) = [45, 57, 50, 50, 51, 51, 55, 50, 48, 51, 54, 56, 53, 52, 55, 55, 53, 56, 48, 56] := by
  rw [itoa_neg' (m := 9223372036854775808) (by decide) (by decide), Lib.decDigits_eq, Lib.nDigits_unique 18 _ (by decide +kernel) (by decide +kernel)]
  decide +kernel

set_option maxRecDepth 100000 in
set_option maxHeartbeats 4000000 in
theorem numEdges_any (B : Nat) (w : World) (hB : B ≤ w.heap.size) (ht : Tab B w) : Calls Tryd.prog 7 #[] w fun e w' => e = .returned (.bool true) ∧ Below B w w' := by
  have H0 : Hid _ := begun_any B w hB ht
  have HS : Hid (∀ w1, Below B w w1 → _) := fun w1 hb1 => Show_any B (-9223372036854775808) (by decide) w1 (Nat.le_trans hB hb1.size) (ht.on hb1)
  rw [itoa_least] at HS
  clear ht
  have H1 := Add_any 9223372036854775807 0 (by decide) (by decide) w
  rw [show nA (9223372036854775807 + 0) = .tuple #[.int .i64 9223372036854775807, .int .i64 0] from nA_in (by decide)] at H1
  replace H1 : Hid _ := H1
  have H2 := Add_any 9223372036854775807 1 (by decide) (by decide) w
  rw [nA_out (by decide)] at H2
  replace H2 : Hid _ := H2
  have H3 := Add_any (-9223372036854775808) (-1) (by decide) (by decide) w
  rw [nA_out (by decide)] at H3
  replace H3 : Hid _ := H3
  have H4 := Add_any (-9223372036854775808) 9223372036854775807 (by decide) (by decide) w
  rw [show nA ((-9223372036854775808) + 9223372036854775807) = .tuple #[.int .i64 (-1), .int .i64 0] from nA_in (by decide)] at H4
  replace H4 : Hid _ := H4
  have H5 := Sub_any 0 (-9223372036854775808) (by decide) (by decide) w
  rw [nA_out (by decide)] at H5
  replace H5 : Hid _ := H5
  have H6 := Sub_any (-1) (-9223372036854775808) (by decide) (by decide) w
  rw [show nA ((-1) - (-9223372036854775808)) = .tuple #[.int .i64 9223372036854775807, .int .i64 0] from nA_in (by decide)] at H6
  replace H6 : Hid _ := H6
  have H7 := Mul_any (-9223372036854775808) (-1) (by decide) (by decide) w
  rw [nA_out (by decide)] at H7
  replace H7 : Hid _ := H7
  have H8 := Mul_any (-9223372036854775808) 1 (by decide) (by decide) w
  rw [show nA ((-9223372036854775808) * 1) = .tuple #[.int .i64 (-9223372036854775808), .int .i64 0] from nA_in (by decide)] at H8
  replace H8 : Hid _ := H8
  have H9 := Mul_any 4294967296 2147483648 (by decide) (by decide) w
  rw [nA_out (by decide)] at H9
  replace H9 : Hid _ := H9
  have H10 := Mul_any 4294967296 (-2147483648) (by decide) (by decide) w
  rw [show nA (4294967296 * (-2147483648)) = .tuple #[.int .i64 (-9223372036854775808), .int .i64 0] from nA_in (by decide)] at H10
  replace H10 : Hid _ := H10
  have H11 := Parse_any ⟨#[57, 50, 50, 51, 51, 55, 50, 48, 51, 54, 56, 53, 52, 55, 55, 53, 56, 48, 55]⟩ (by decide) w
  rw [pA_num (by decide), show val (bs ⟨#[57, 50, 50, 51, 51, 55, 50, 48, 51, 54, 56, 53, 52, 55, 55, 53, 56, 48, 55]⟩) = 9223372036854775807 from by decide +kernel] at H11
  rw [show nA ((9223372036854775807 : Nat) : Int) = .tuple #[.int .i64 9223372036854775807, .int .i64 0] from nA_in (by decide)] at H11
  replace H11 : Hid _ := H11
  have H12 := Parse_any ⟨#[57, 50, 50, 51, 51, 55, 50, 48, 51, 54, 56, 53, 52, 55, 55, 53, 56, 48, 56]⟩ (by decide) w
  rw [pA_num (by decide), show val (bs ⟨#[57, 50, 50, 51, 51, 55, 50, 48, 51, 54, 56, 53, 52, 55, 55, 53, 56, 48, 56]⟩) = 9223372036854775808 from by decide +kernel] at H12
  rw [nA_out (by decide)] at H12
  replace H12 : Hid _ := H12
  have H13 := Parse_any ⟨#[48, 48, 48, 48, 48, 48, 48, 48, 48, 48, 48, 48, 48, 48, 48, 48, 48, 48, 48, 48, 48, 48, 48, 48, 48, 49]⟩ (by decide) w
  rw [pA_num (by decide), show val (bs ⟨#[48, 48, 48, 48, 48, 48, 48, 48, 48, 48, 48, 48, 48, 48, 48, 48, 48, 48, 48, 48, 48, 48, 48, 48, 48, 49]⟩) = 1 from by decide +kernel] at H13
  rw [show nA ((1 : Nat) : Int) = .tuple #[.int .i64 1, .int .i64 0] from nA_in (by decide)] at H13
  replace H13 : Hid _ := H13
  go_enter Tryd.func7, Tryd.ntmps7
  go_wp2_with fail
  refine Calls.mono H1.out ?_
  rintro e w1 ⟨rfl, rfl⟩
  clear H1
  go_wp2_with fail
  refine Calls.mono H2.out ?_
  rintro e w1 ⟨rfl, rfl⟩
  clear H2
  go_wp2_with fail
  refine Calls.mono H3.out ?_
  rintro e w1 ⟨rfl, rfl⟩
  clear H3
  go_wp2_with fail
  refine Calls.mono H4.out ?_
  rintro e w1 ⟨rfl, rfl⟩
  clear H4
  go_wp2_with fail
  refine Calls.mono H5.out ?_
  rintro e w1 ⟨rfl, rfl⟩
  clear H5
  go_wp2_with fail
  refine Calls.mono H6.out ?_
  rintro e w1 ⟨rfl, rfl⟩
  clear H6
  go_wp2_with fail
  refine Calls.mono H7.out ?_
  rintro e w1 ⟨rfl, rfl⟩
  clear H7
  go_wp2_with fail
  refine Calls.mono H8.out ?_
  rintro e w1 ⟨rfl, rfl⟩
  clear H8
  go_wp2_with fail
  refine Calls.mono H9.out ?_
  rintro e w1 ⟨rfl, rfl⟩
  clear H9
  go_wp2_with fail
  refine Calls.mono H10.out ?_
  rintro e w1 ⟨rfl, rfl⟩
  clear H10
  go_wp2_with fail
  refine Calls.mono H11.out ?_
  rintro e w1 ⟨rfl, rfl⟩
  clear H11
  go_wp2_with fail
  refine Calls.mono H12.out ?_
  rintro e w1 ⟨rfl, rfl⟩
  clear H12
  go_wp2_with fail
  refine Calls.mono H13.out ?_
  rintro e w1 ⟨rfl, rfl⟩
  clear H13
  go_wp2_with fail
  refine Calls.mono H0.out ?_
  rintro e w2 ⟨rfl, hb1⟩
  clear H0
  go_wp2_with fail
  refine Calls.mono (HS.out _ hb1) ?_
  rintro e w3 ⟨rfl, hb3⟩
  have hb4 := hb1.trans hb3
  clear HS hb1 hb3
  go_wp2
  go_ret
  exact ⟨rfl, hb4⟩
end Go.Proofs.YtalhfhaaibmfoaaDoor
