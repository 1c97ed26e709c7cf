/- The walks of the statements' own first question, 'begun', and of NumAll and NumTexts. -/
import Derived.Test.YtalhfhaaibmfoaaDoorN4
import Derived.Test.YtalhfhaaibmfoaaDoorN5
namespace Go.Proofs.YtalhfhaaibmfoaaDoor
open Go.RowKit
set_option linter.unusedVariables false

theorem itoa_m12 : Lib.itoa (-12) = [45, 49, 50] := by
  rw [itoa_neg' (m := 12) rfl (by decide), dec_more (by decide), dec_one (by decide)]; rfl

set_option maxRecDepth 100000 in
theorem begun_any (B : Nat) (w : World) (hB : B ≤ w.heap.size) (ht : Tab B w) : Calls Tryd.prog 8 #[] w fun e w' => e = .returned (.bool true) ∧ Below B w w' := by
  have H1 := Add_any 2 3 (by decide) (by decide) w
  rw [show nA (2 + 3) = .tuple #[.int .i64 5, .int .i64 0] from nA_in (by decide)] at H1
  replace H1 : Hid _ := H1
  have H2 := Mul_any (-4) 5 (by decide) (by decide) w
  rw [show nA (-4 * 5) = .tuple #[.int .i64 (-20), .int .i64 0] from nA_in (by decide)] at H2
  replace H2 : Hid _ := H2
  have H3 := Parse_any ⟨#[48, 48, 55]⟩ (by decide) w
  rw [show pA (bs ⟨#[48, 48, 55]⟩) = .tuple #[.int .i64 7, .int .i64 0] from nA_in (by decide)] at H3
  replace H3 : Hid _ := H3
  have H4 := Neg_any (-9223372036854775808) (by decide) w
  rw [show nA (-(-9223372036854775808)) = .tuple #[.int .i64 0, .int .i64 8] from nA_out (by decide)] at H4
  replace H4 : Hid _ := H4
  have H5 := Show_any B (-12) (by decide) w hB ht
  rw [itoa_m12] at H5
  replace H5 : Hid _ := H5
  clear ht
  go_enter Tryd.func8, Tryd.ntmps8
  go_wp2_with fail
  refine Calls.mono H1.out ?_
  rintro e w1 ⟨rfl, rfl⟩
  go_wp2_with fail
  refine Calls.mono H2.out ?_
  rintro e w1 ⟨rfl, rfl⟩
  go_wp2_with fail
  refine Calls.mono H3.out ?_
  rintro e w1 ⟨rfl, rfl⟩
  go_wp2_with fail
  refine Calls.mono H4.out ?_
  rintro e w1 ⟨rfl, rfl⟩
  clear H1 H2 H3 H4
  go_wp2_with fail
  refine Calls.mono H5.out ?_
  rintro e w2 ⟨rfl, hb⟩
  go_wp2
  go_ret
  exact ⟨rfl, hb⟩

theorem same_list (l : List UInt8) : ((⟨l.toArray⟩ : ByteArray).toList == (⟨l.toArray⟩ : ByteArray).toList) = true := by simp

set_option maxRecDepth 100000 in
theorem numAll_any (B : Nat) (a b : Int) (ha : Fits a) (hb : Fits b) (w : World) (hB : B ≤ w.heap.size) (ht : Tab B w) : Calls Tryd.prog 3 #[.int .i64 a, .int .i64 b] w fun e w' => e = .returned (.bool true) ∧ Below B w w' := by
  have H0 : Hid _ := begun_any B w hB ht
  have HAdd : Hid (∀ w, _) := fun w => Add_any a b ha hb w
  have HAdd' : Hid (∀ w, _) := fun w => refAdd_any a b ha hb w
  have HSub : Hid (∀ w, _) := fun w => Sub_any a b ha hb w
  have HSub' : Hid (∀ w, _) := fun w => refSub_any a b ha hb w
  have HMul : Hid (∀ w, _) := fun w => Mul_any a b ha hb w
  have HMul' : Hid (∀ w, _) := fun w => refMul_any a b ha hb w
  have HNeg : Hid (∀ w, _) := fun w => Neg_any a ha w
  have HNeg' : Hid (∀ w, _) := fun w => refNeg_any a ha w
  have HShow : Hid (∀ w1, Below B w w1 → _) := fun w1 hb1 => Show_any B a ha w1 (Nat.le_trans hB hb1.size) (ht.on hb1)
  have HShow' : Hid (∀ w, _) := fun w => refShow_any a ha w
  unfold nA at HAdd HAdd' HSub HSub' HMul HMul' HNeg HNeg'
  clear ht ha hb
  go_enter Tryd.func3, Tryd.ntmps3
  go_wp2_with fail
  refine Calls.mono H0.out ?_
  rintro e w1 ⟨rfl, hb1⟩
  clear H0
  go_wp2_with fail
  refine Calls.mono (HAdd.out _) ?_
  rintro e w2 ⟨rfl, rfl⟩
  go_wp2_with fail
  refine Calls.mono (HAdd'.out _) ?_
  rintro e w2 ⟨rfl, rfl⟩
  go_wp2_with fail
  refine Calls.mono (HSub.out _) ?_
  rintro e w2 ⟨rfl, rfl⟩
  go_wp2_with fail
  refine Calls.mono (HSub'.out _) ?_
  rintro e w2 ⟨rfl, rfl⟩
  go_wp2_with fail
  refine Calls.mono (HMul.out _) ?_
  rintro e w2 ⟨rfl, rfl⟩
  go_wp2_with fail
  refine Calls.mono (HMul'.out _) ?_
  rintro e w2 ⟨rfl, rfl⟩
  go_wp2_with fail
  refine Calls.mono (HNeg.out _) ?_
  rintro e w2 ⟨rfl, rfl⟩
  go_wp2_with fail
  refine Calls.mono (HNeg'.out _) ?_
  rintro e w2 ⟨rfl, rfl⟩
  clear HAdd HAdd' HSub HSub' HMul HMul' HNeg HNeg'
  go_wp2_with fail
  refine Calls.mono (HShow.out _ hb1) ?_
  rintro e w3 ⟨rfl, hb3⟩
  have hb4 := hb1.trans hb3
  clear HShow hb1 hb3
  go_wp2_with fail
  refine Calls.mono (HShow'.out _) ?_
  rintro e w4 ⟨rfl, hb5⟩
  have hb6 := hb4.trans (hb5.mono (Nat.le_trans hB hb4.size))
  clear HShow' hb4 hb5
  go_wp2
  go_ret
  exact ⟨rfl, hb6⟩

theorem pA_two (l : List UInt8) : ∃ x y : Int, pA l = .tuple #[.int .i64 x, .int .i64 y] := by
  unfold pA
  split
  · exact ⟨_, _, rfl⟩
  · exact ⟨_, _, rfl⟩

set_option maxRecDepth 100000 in
theorem numTexts_any (B : Nat) (s : ByteArray) (hs : s.size ≤ 9223372036854775807) (w : World) (hB : B ≤ w.heap.size) (ht : Tab B w) : Calls Tryd.prog 4 #[.string s] w fun e w' => e = .returned (.bool true) ∧ Below B w w' := by
  have H0 : Hid _ := begun_any B w hB ht
  by_cases h : 100 < s.size
  · clear ht
    go_enter Tryd.func4, Tryd.ntmps4
    go_wp2_with fail
    refine Calls.mono H0.out ?_
    rintro e w1 ⟨rfl, hb1⟩
    clear H0
    go_wp2
    go_ret
    exact ⟨rfl, hb1⟩
  · have HP : Hid (∀ w, _) := fun w => Parse_any s hs w
    have HP' : Hid (∀ w, _) := fun w => refParse_any s hs w
    obtain ⟨x, y, hp⟩ := pA_two (bs s)
    rw [hp] at HP HP'
    clear ht hp
    go_enter Tryd.func4, Tryd.ntmps4
    go_wp2_with fail
    refine Calls.mono H0.out ?_
    rintro e w1 ⟨rfl, hb1⟩
    clear H0
    go_wp2_with fail
    refine Calls.mono (HP.out _) ?_
    rintro e w2 ⟨rfl, rfl⟩
    go_wp2_with fail
    refine Calls.mono (HP'.out _) ?_
    rintro e w2 ⟨rfl, rfl⟩
    go_wp2
    go_ret
    exact ⟨rfl, hb1⟩
end Go.Proofs.YtalhfhaaibmfoaaDoor
