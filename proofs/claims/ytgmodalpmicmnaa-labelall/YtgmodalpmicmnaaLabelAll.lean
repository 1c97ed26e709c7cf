/- The walk of 'LabelAll': it answers true at every two labels, and at whatever else; nothing is turned. -/
import Derived.Test.YtgmodalpmicmnaaAllF
import Derived.Test.YtgmodalpmicmnaaLattice
namespace Go.Proofs.Ytgmodalpmicmnaa
open Go.RowKit
set_option linter.unusedVariables false

set_option maxRecDepth 100000 in
set_option maxHeartbeats 4000000 in
theorem labelAll_any (ao bo : Option Addr) (n c m d : Nat) (A B : List Int) (w : World) (ha : Rd .u16 w ao n c A) (hb : Rd .u16 w bo m d B) :
    Calls Try.prog 4 #[.slice ao n c, .slice bo m d] w fun e w' => e = .returned (.bool true) ∧ Below w.heap.size w w' := by
  have hB0 : Below w.heap.size w w := Below.refl _ _
  cases ea : mayB A with
  | false =>
    go_enter Try.func4, Try.ntmps4
    go_wp2_with fail
    refine Calls.mono (begun_any w) ?_
    rintro e w1 ⟨rfl, hb1⟩
    have hB1 : Below w.heap.size w w1 := hB0.trans (hb1.mono hB0.size)
    go_wp2_with fail
    refine Calls.mono (refMay_b ao n c A w1 (ha.later hB1)) ?_
    rintro e w2 ⟨rfl, hb2⟩
    have hB2 : Below w.heap.size w w2 := hB1.trans (hb2.mono hB1.size)
    go_wp2
    go_ret
    exact ⟨rfl, hB2⟩
  | true =>
    cases eb : mayB B with
    | false =>
      go_enter Try.func4, Try.ntmps4
      go_wp2_with fail
      refine Calls.mono (begun_any w) ?_
      rintro e w1 ⟨rfl, hb1⟩
      have hB1 : Below w.heap.size w w1 := hB0.trans (hb1.mono hB0.size)
      go_wp2_with fail
      refine Calls.mono (refMay_b ao n c A w1 (ha.later hB1)) ?_
      rintro e w2 ⟨rfl, hb2⟩
      have hB2 : Below w.heap.size w w2 := hB1.trans (hb2.mono hB1.size)
      go_wp2_with fail
      refine Calls.mono (refMay_b bo m d B w2 (hb.later hB2)) ?_
      rintro e w3 ⟨rfl, hb3⟩
      have hB3 : Below w.heap.size w w3 := hB2.trans (hb3.mono hB2.size)
      go_wp2
      go_ret
      exact ⟨rfl, hB3⟩
    | true =>
      obtain ⟨ra, la⟩ := mayB_true ea
      have ua := up_of_rises ra
      have na := ha.len
      obtain ⟨rb, lb⟩ := mayB_true eb
      have ub := up_of_rises rb
      have nb := hb.len
      have fl := flows_same ua ub
      have s1 := sameB_of (join_same ua ub (by omega))
      have s2 := sameB_of (meet_same ua ub (by omega))
      have s3 := sameB_of (minus_same ua ub (by omega))
      go_enter Try.func4, Try.ntmps4
      go_wp2_with fail
      refine Calls.mono (begun_any w) ?_
      rintro e w1 ⟨rfl, hb1⟩
      have hB1 : Below w.heap.size w w1 := hB0.trans (hb1.mono hB0.size)
      go_wp2_with fail
      refine Calls.mono (refMay_b ao n c A w1 (ha.later hB1)) ?_
      rintro e w2 ⟨rfl, hb2⟩
      have hB2 : Below w.heap.size w w2 := hB1.trans (hb2.mono hB1.size)
      go_wp2_with fail
      refine Calls.mono (refMay_b bo m d B w2 (hb.later hB2)) ?_
      rintro e w3 ⟨rfl, hb3⟩
      have hB3 : Below w.heap.size w w3 := hB2.trans (hb3.mono hB2.size)
      go_wp2_with fail
      refine Calls.mono (flows_any ao bo n c m d A B w3 (ha.later hB3) (hb.later hB3) ra rb) ?_
      rintro e w4 ⟨rfl, hb4⟩
      have hB4 : Below w.heap.size w w4 := hB3.trans (hb4.mono hB3.size)
      clear ea eb
      go_wp2_with fail
      refine Calls.mono (refFlows_any ao bo n c m d A B w4 (ha.later hB4) (hb.later hB4)) ?_
      rintro e wx ⟨rfl, hxx⟩
      rw [hxx]
      clear hxx
      go_wp2_with fail
      refine Calls.mono (join_any ao bo n c m d A B w4 (ha.later hB4) (hb.later hB4) ra rb (by omega) (by omega)) ?_
      rintro e w5 ⟨jo, jp, jq, rfl, hj, hb5⟩
      have hB5 : Below w.heap.size w w5 := hB4.trans (hb5.mono hB4.size)
      replace hj : Rd .u16 w5 jo jp jq (joinL A B) := hj
      go_wp2_with fail
      refine Calls.mono (refJoin_any ao bo n c m d A B w5 (ha.later hB5) (hb.later hB5) (by omega) (by omega)) ?_
      rintro e w6 ⟨jo2, jp2, jq2, rfl, hj2, hb6⟩
      have hB6 : Below w.heap.size w w6 := hB5.trans (hb6.mono hB5.size)
      replace hj := hj.later hb6
      replace hj2 : Rd .u16 w6 jo2 jp2 jq2 (allL (A ++ B)) := hj2
      go_wp2_with fail
      refine Calls.mono (same_any jo jo2 jp jq jp2 jq2 (joinL A B) (allL (A ++ B)) w6 hj hj2) ?_
      rintro e w7 ⟨rfl, hb7⟩
      have hB7 : Below w.heap.size w w7 := hB6.trans (hb7.mono hB6.size)
      go_wp2_with fail
      refine Calls.mono (meet_any ao bo n c m d A B w7 (ha.later hB7) (hb.later hB7) ra rb (by omega) (by omega)) ?_
      rintro e w8 ⟨ko, kp, kq, rfl, hk, hb8⟩
      have hB8 : Below w.heap.size w w8 := hB7.trans (hb8.mono hB7.size)
      replace hk : Rd .u16 w8 ko kp kq (meetL A B) := hk
      go_wp2_with fail
      refine Calls.mono (refMeet_any ao bo n c m d A B w8 (ha.later hB8) (hb.later hB8) (by omega)) ?_
      rintro e w9 ⟨ko2, kp2, kq2, rfl, hk2, hb9⟩
      have hB9 : Below w.heap.size w w9 := hB8.trans (hb9.mono hB8.size)
      replace hk := hk.later hb9
      replace hk2 : Rd .u16 w9 ko2 kp2 kq2 (keepIn true A B) := hk2
      go_wp2_with fail
      refine Calls.mono (same_any ko ko2 kp kq kp2 kq2 (meetL A B) (keepIn true A B) w9 hk hk2) ?_
      rintro e w10 ⟨rfl, hb10⟩
      have hB10 : Below w.heap.size w w10 := hB9.trans (hb10.mono hB9.size)
      go_wp2_with fail
      refine Calls.mono (minus_any ao bo n c m d A B w10 (ha.later hB10) (hb.later hB10) ra rb (by omega) (by omega)) ?_
      rintro e w11 ⟨lo, lp, lq, rfl, hl, hb11⟩
      have hB11 : Below w.heap.size w w11 := hB10.trans (hb11.mono hB10.size)
      replace hl : Rd .u16 w11 lo lp lq (minusL A B) := hl
      go_wp2_with fail
      refine Calls.mono (refMinus_any ao bo n c m d A B w11 (ha.later hB11) (hb.later hB11) (by omega)) ?_
      rintro e w12 ⟨lo2, lp2, lq2, rfl, hl2, hb12⟩
      have hB12 : Below w.heap.size w w12 := hB11.trans (hb12.mono hB11.size)
      replace hl := hl.later hb12
      replace hl2 : Rd .u16 w12 lo2 lp2 lq2 (keepIn false A B) := hl2
      go_wp2_with fail
      refine Calls.mono (same_any lo lo2 lp lq lp2 lq2 (minusL A B) (keepIn false A B) w12 hl hl2) ?_
      rintro e w13 ⟨rfl, hb13⟩
      have hB13 : Below w.heap.size w w13 := hB12.trans (hb13.mono hB12.size)
      go_wp2_with fail
      refine Calls.mono (Compare_any ao bo n c m d A B w13 (ha.later hB13) (hb.later hB13)) ?_
      rintro e wx ⟨rfl, hxx⟩
      rw [hxx]
      clear hxx
      go_wp2_with fail
      refine Calls.mono (refCompare_any ao bo n c m d A B w13 (ha.later hB13) (hb.later hB13)) ?_
      rintro e w14 ⟨rfl, hb14⟩
      have hB14 : Below w.heap.size w w14 := hB13.trans (hb14.mono hB13.size)
      go_wp2
      go_ret
      exact ⟨rfl, hB14⟩

end Go.Proofs.Ytgmodalpmicmnaa
