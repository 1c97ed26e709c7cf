/- The walk of 'OwnAll': it answers true at every three labels and 40 tags, and at whatever else; nothing is turned. -/
import Derived.Test.YtghifjiohgninaaO4
namespace Go.Proofs.Ytghifjiohgninaa
open Go.RowKit
set_option linter.unusedVariables false

theorem all_facts {A B O : List Int} (ra : risesB A = true) (rb : risesB B = true) (ro : risesB O = true) (la : A.length ≤ 8) (lb : B.length ≤ 8) (lo : O.length ≤ 8) :
    flB A B O = allIn (keepIn false A O) B ∧ sameB (minusL A B) (keepIn false A B) = true := by
  have rs := minus_rises ra ro (by omega)
  have ls := minus_len ra ro (by omega)
  refine ⟨?_, sameB_of (minus_same (up_of_rises ra) (up_of_rises rb) (by omega))⟩
  rw [← minus_same (up_of_rises ra) (up_of_rises ro) (by omega), allIn_minus rs rb (by omega)]
  rfl

set_option maxRecDepth 100000 in
set_option maxHeartbeats 4000000 in
theorem ownAll_any (ao bo co so : Option Addr) (n c m d l f k g : Nat) (A B O xs : List Int) (w : World) (ha : Rd .u16 w ao n c A) (hb : Rd .u16 w bo m d B) (ho : Rd .u16 w co l f O) (hs : Rd .u16 w so k g xs) :
    Calls Try.prog 3 #[.slice ao n c, .slice bo m d, .slice co l f, .slice so k g] w fun e w' => e = .returned (.bool true) ∧ Below w.heap.size w w' := by
  have hB0 : Below w.heap.size w w := Below.refl _ _
  cases ea : mayB A with
  | false =>
    go_enter Try.func3, Try.ntmps3
    go_wp2_with fail
    refine Calls.mono (begun_any w) ?_
    rintro e w1 ⟨rfl, hb1⟩
    have hB1 : Below w.heap.size w w1 := hB0.trans (hb1.mono hB0.size)
    go_wp2_with fail
    refine Calls.mono (refMay_b ao n c A w1 (ha.later hB1)) ?_
    rintro e w2 ⟨rfl, hb2⟩
    have hB2 : Below w.heap.size w w2 := hB1.trans (hb2.mono hB1.size)
    go_wp2
    go_ret
    exact ⟨rfl, hB2⟩
  | true =>
    cases eb : mayB B with
    | false =>
      go_enter Try.func3, Try.ntmps3
      go_wp2_with fail
      refine Calls.mono (begun_any w) ?_
      rintro e w1 ⟨rfl, hb1⟩
      have hB1 : Below w.heap.size w w1 := hB0.trans (hb1.mono hB0.size)
      go_wp2_with fail
      refine Calls.mono (refMay_b ao n c A w1 (ha.later hB1)) ?_
      rintro e w2 ⟨rfl, hb2⟩
      have hB2 : Below w.heap.size w w2 := hB1.trans (hb2.mono hB1.size)
      go_wp2_with fail
      refine Calls.mono (refMay_b bo m d B w2 (hb.later hB2)) ?_
      rintro e w3 ⟨rfl, hb3⟩
      have hB3 : Below w.heap.size w w3 := hB2.trans (hb3.mono hB2.size)
      go_wp2
      go_ret
      exact ⟨rfl, hB3⟩
    | true =>
      cases eo : mayB O with
      | false =>
        go_enter Try.func3, Try.ntmps3
        go_wp2_with fail
        refine Calls.mono (begun_any w) ?_
        rintro e w1 ⟨rfl, hb1⟩
        have hB1 : Below w.heap.size w w1 := hB0.trans (hb1.mono hB0.size)
        go_wp2_with fail
        refine Calls.mono (refMay_b ao n c A w1 (ha.later hB1)) ?_
        rintro e w2 ⟨rfl, hb2⟩
        have hB2 : Below w.heap.size w w2 := hB1.trans (hb2.mono hB1.size)
        go_wp2_with fail
        refine Calls.mono (refMay_b bo m d B w2 (hb.later hB2)) ?_
        rintro e w3 ⟨rfl, hb3⟩
        have hB3 : Below w.heap.size w w3 := hB2.trans (hb3.mono hB2.size)
        go_wp2_with fail
        refine Calls.mono (refMay_b co l f O w3 (ho.later hB3)) ?_
        rintro e w4 ⟨rfl, hb4⟩
        have hB4 : Below w.heap.size w w4 := hB3.trans (hb4.mono hB3.size)
        go_wp2
        go_ret
        exact ⟨rfl, hB4⟩
      | true =>
        obtain ⟨ra, la⟩ := mayB_true ea
        have na := ha.len
        obtain ⟨rb, lb⟩ := mayB_true eb
        have nb := hb.len
        obtain ⟨ro, lo⟩ := mayB_true eo
        have no := ho.len
        obtain ⟨f1, f2⟩ := all_facts ra rb ro la lb lo
        by_cases hk : k ≤ 40
        · have g1 : decide ((40 : Int) < (k : Int)) = false := by simp; omega
          have g2 : decide (40 < k) = false := by simp; omega
          go_enter Try.func3, Try.ntmps3
          go_wp2_with fail
          refine Calls.mono (begun_any w) ?_
          rintro e w1 ⟨rfl, hb1⟩
          have hB1 : Below w.heap.size w w1 := hB0.trans (hb1.mono hB0.size)
          go_wp2_with fail
          refine Calls.mono (refMay_b ao n c A w1 (ha.later hB1)) ?_
          rintro e w2 ⟨rfl, hb2⟩
          have hB2 : Below w.heap.size w w2 := hB1.trans (hb2.mono hB1.size)
          go_wp2_with fail
          refine Calls.mono (refMay_b bo m d B w2 (hb.later hB2)) ?_
          rintro e w3 ⟨rfl, hb3⟩
          have hB3 : Below w.heap.size w w3 := hB2.trans (hb3.mono hB2.size)
          go_wp2_with fail
          refine Calls.mono (refMay_b co l f O w3 (ho.later hB3)) ?_
          rintro e w4 ⟨rfl, hb4⟩
          have hB4 : Below w.heap.size w w4 := hB3.trans (hb4.mono hB3.size)
          clear hb1 hb2 hb3 hb4 hB1 hB2 hB3
          go_wp2_with fail
          refine Calls.mono (ownMay_any co l f O so k g xs w4 (ho.later hB4) (hs.later hB4) ro (by omega) (by omega)) ?_
          rintro e w5 ⟨rfl, hb5⟩
          have hB5 : Below w.heap.size w w5 := hB4.trans (hb5.mono hB4.size)
          clear hb5 hB4 ea eb eo
          go_wp2_with fail
          refine Calls.mono (refOwn_any co l f O so k g xs w5 (ho.later hB5) (hs.later hB5) ro (by omega) (by omega)) ?_
          rintro e w6 ⟨rfl, hb6⟩
          have hB6 : Below w.heap.size w w6 := hB5.trans (hb6.mono hB5.size)
          clear hb6 hB5
          go_wp2_with fail
          refine Calls.mono (ownFlows_any ao bo co n c m d l f A B O w6 (ha.later hB6) (hb.later hB6) (ho.later hB6) ra rb ro (by omega) (by omega) (by omega)) ?_
          rintro e w7 ⟨rfl, hb7⟩
          have hB7 : Below w.heap.size w w7 := hB6.trans (hb7.mono hB6.size)
          rw [f1]
          clear hb7 hB6
          go_wp2_with fail
          refine Calls.mono (refMinus_any ao co n c l f A O w7 (ha.later hB7) (ho.later hB7) (by omega)) ?_
          rintro e w8 ⟨mo, mp, mq, rfl, hm, hb8⟩
          have hB8 : Below w.heap.size w w8 := hB7.trans (hb8.mono hB7.size)
          replace hm : Rd .u16 w8 mo mp mq (keepIn false A O) := hm
          clear hb8 hB7
          go_wp2_with fail
          refine Calls.mono (refFlows_any mo bo mp mq m d (keepIn false A O) B w8 hm (hb.later hB8)) ?_
          rintro e wx ⟨rfl, hxx⟩
          rw [hxx]
          clear hxx
          go_wp2_with fail
          refine Calls.mono (strip_any ao bo n c m d A B w8 (ha.later hB8) (hb.later hB8) ra rb (by omega) (by omega)) ?_
          rintro e w9 ⟨po, pp, pq, rfl, hp, hb9⟩
          have hB9 : Below w.heap.size w w9 := hB8.trans (hb9.mono hB8.size)
          clear hb9 hB8 hm
          go_wp2_with fail
          refine Calls.mono (refMinus_any ao bo n c m d A B w9 (ha.later hB9) (hb.later hB9) (by omega)) ?_
          rintro e w10 ⟨qo, qp, qq, rfl, hq, hb10⟩
          have hB10 : Below w.heap.size w w10 := hB9.trans (hb10.mono hB9.size)
          replace hq : Rd .u16 w10 qo qp qq (keepIn false A B) := hq
          replace hp := hp.later hb10
          clear hb10 hB9
          go_wp2_with fail
          refine Calls.mono (same_any po qo pp pq qp qq (minusL A B) (keepIn false A B) w10 hp hq) ?_
          rintro e w11 ⟨rfl, hb11⟩
          have hB11 : Below w.heap.size w w11 := hB10.trans (hb11.mono hB10.size)
          rw [f2]
          go_wp2
          go_ret
          exact ⟨rfl, hB11⟩
        · have g1 : decide ((40 : Int) < (k : Int)) = true := by simp; omega
          have g2 : decide (40 < k) = true := by simp; omega
          go_enter Try.func3, Try.ntmps3
          go_wp2_with fail
          refine Calls.mono (begun_any w) ?_
          rintro e w1 ⟨rfl, hb1⟩
          have hB1 : Below w.heap.size w w1 := hB0.trans (hb1.mono hB0.size)
          go_wp2_with fail
          refine Calls.mono (refMay_b ao n c A w1 (ha.later hB1)) ?_
          rintro e w2 ⟨rfl, hb2⟩
          have hB2 : Below w.heap.size w w2 := hB1.trans (hb2.mono hB1.size)
          go_wp2_with fail
          refine Calls.mono (refMay_b bo m d B w2 (hb.later hB2)) ?_
          rintro e w3 ⟨rfl, hb3⟩
          have hB3 : Below w.heap.size w w3 := hB2.trans (hb3.mono hB2.size)
          go_wp2_with fail
          refine Calls.mono (refMay_b co l f O w3 (ho.later hB3)) ?_
          rintro e w4 ⟨rfl, hb4⟩
          have hB4 : Below w.heap.size w w4 := hB3.trans (hb4.mono hB3.size)
          go_wp2
          go_ret
          exact ⟨rfl, hB4⟩

end Go.Proofs.Ytghifjiohgninaa
