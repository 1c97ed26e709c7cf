/- The walk of 'LabelLattice': it answers true at every three labels, and at whatever else; nothing is turned. -/
import Derived.Test.YtgmodalpmicmnaaLatF
import Derived.Deep.DeepCutAuto
namespace Go.Proofs.Ytgmodalpmicmnaa
open Go.RowKit
set_option linter.unusedVariables false

theorem refMay_b (ao : Option Addr) (n c : Nat) (xs : List Int) (w : World) (h : Rd .u16 w ao n c xs) :
    Calls Try.prog 14 #[.slice ao n c] w fun e w' => e = .returned (.bool (mayB xs)) ∧ Below w.heap.size w w' := refMay_any ao n c xs w h

set_option maxRecDepth 100000 in
set_option maxHeartbeats 4000000 in
theorem lattice_any (ao bo co : Option Addr) (n c m d p q : Nat) (A B C : List Int) (w : World) (ha : Rd .u16 w ao n c A) (hb : Rd .u16 w bo m d B) (hc : Rd .u16 w co p q C) :
    Calls Try.prog 6 #[.slice ao n c, .slice bo m d, .slice co p q] w fun e w' => e = .returned (.bool true) ∧ Below w.heap.size w w' := by
  have hB0 : Below w.heap.size w w := Below.refl _ _
  cases ea : mayB A with
  | false =>
    go_enter Try.func6, Try.ntmps6
    go_wp2_with fail
    refine Calls.mono (begun_any w) ?_
    rintro e w1 ⟨rfl, hb1⟩
    have hB1 : Below w.heap.size w w1 := hB0.trans (hb1.mono hB0.size)
    go_wp2_with fail
    refine Calls.mono (refMay_b ao n c A w1 (ha.later hB1)) ?_
    rintro e w2 ⟨rfl, hb2⟩
    have hB2 : Below w.heap.size w w2 := hB1.trans (hb2.mono hB1.size)
    go_wp2
    go_ret
    exact ⟨rfl, hB2⟩
  | true =>
    cases eb : mayB B with
    | false =>
      go_enter Try.func6, Try.ntmps6
      go_wp2_with fail
      refine Calls.mono (begun_any w) ?_
      rintro e w1 ⟨rfl, hb1⟩
      have hB1 : Below w.heap.size w w1 := hB0.trans (hb1.mono hB0.size)
      go_wp2_with fail
      refine Calls.mono (refMay_b ao n c A w1 (ha.later hB1)) ?_
      rintro e w2 ⟨rfl, hb2⟩
      have hB2 : Below w.heap.size w w2 := hB1.trans (hb2.mono hB1.size)
      go_wp2_with fail
      refine Calls.mono (refMay_b bo m d B w2 (hb.later hB2)) ?_
      rintro e w3 ⟨rfl, hb3⟩
      have hB3 : Below w.heap.size w w3 := hB2.trans (hb3.mono hB2.size)
      go_wp2
      go_ret
      exact ⟨rfl, hB3⟩
    | true =>
      cases ec : mayB C with
      | false =>
        go_enter Try.func6, Try.ntmps6
        go_wp2_with fail
        refine Calls.mono (begun_any w) ?_
        rintro e w1 ⟨rfl, hb1⟩
        have hB1 : Below w.heap.size w w1 := hB0.trans (hb1.mono hB0.size)
        go_wp2_with fail
        refine Calls.mono (refMay_b ao n c A w1 (ha.later hB1)) ?_
        rintro e w2 ⟨rfl, hb2⟩
        have hB2 : Below w.heap.size w w2 := hB1.trans (hb2.mono hB1.size)
        go_wp2_with fail
        refine Calls.mono (refMay_b bo m d B w2 (hb.later hB2)) ?_
        rintro e w3 ⟨rfl, hb3⟩
        have hB3 : Below w.heap.size w w3 := hB2.trans (hb3.mono hB2.size)
        go_wp2_with fail
        refine Calls.mono (refMay_b co p q C w3 (hc.later hB3)) ?_
        rintro e w4 ⟨rfl, hb4⟩
        have hB4 : Below w.heap.size w w4 := hB3.trans (hb4.mono hB3.size)
        go_wp2
        go_ret
        exact ⟨rfl, hB4⟩
      | true =>
        obtain ⟨ra, la⟩ := mayB_true ea
        have ua := up_of_rises ra
        have na := ha.len
        obtain ⟨rb, lb⟩ := mayB_true eb
        have ub := up_of_rises rb
        have nb := hb.len
        obtain ⟨rc, lc⟩ := mayB_true ec
        have uc := up_of_rises rc
        have nc := hc.len
        go_enter Try.func6, Try.ntmps6
        go_wp2_with fail
        refine Calls.mono (begun_any w) ?_
        rintro e w1 ⟨rfl, hb1⟩
        have hB1 : Below w.heap.size w w1 := hB0.trans (hb1.mono hB0.size)
        go_wp2_with fail
        refine Calls.mono (refMay_b ao n c A w1 (ha.later hB1)) ?_
        rintro e w2 ⟨rfl, hb2⟩
        have hB2 : Below w.heap.size w w2 := hB1.trans (hb2.mono hB1.size)
        go_wp2_with fail
        refine Calls.mono (refMay_b bo m d B w2 (hb.later hB2)) ?_
        rintro e w3 ⟨rfl, hb3⟩
        have hB3 : Below w.heap.size w w3 := hB2.trans (hb3.mono hB2.size)
        go_wp2_with fail
        refine Calls.mono (refMay_b co p q C w3 (hc.later hB3)) ?_
        rintro e w4 ⟨rfl, hb4⟩
        have hB4 : Below w.heap.size w w4 := hB3.trans (hb4.mono hB3.size)
        obtain ⟨uj, fj1, fj2, fj3⟩ := join_facts ua ub uc (by omega)
        obtain ⟨um, fm1, fm2, fm3⟩ := meet_facts ua ub uc (by omega)
        obtain ⟨fn1, fn2⟩ := minus_facts ua ub (by omega)
        have HF : Hid (withinB A (joinL A B) = true ∧ withinB B (joinL A B) = true ∧ withinB (joinL A B) C = (withinB A C && withinB B C) ∧ withinB (meetL A B) A = true ∧ withinB (meetL A B) B = true ∧ withinB C (meetL A B) = (withinB C A && withinB C B)) := ⟨fj1, fj2, fj3, fm1, fm2, fm3⟩
        have HN : Hid ((minusL A B).length + (meetL A B).length = A.length ∧ (decide ((minusL A B).length = 0)) = withinB A B) := ⟨fn1, fn2⟩
        clear fj1 fj2 fj3 fm1 fm2 fm3 fn1 fn2
        go_wp2_with fail
        clear ea eb ec
        refine Calls.mono (join_any ao bo n c m d A B w4 (ha.later hB4) (hb.later hB4) ra rb (by omega) (by omega)) ?_
        rintro e w5 ⟨jo, jp, jq, rfl, hj, hb5⟩
        have hB5 : Below w.heap.size w w5 := hB4.trans (hb5.mono hB4.size)
        go_wp2_with fail
        refine Calls.mono (meet_any ao bo n c m d A B w5 (ha.later hB5) (hb.later hB5) ra rb (by omega) (by omega)) ?_
        rintro e w6 ⟨mo, mp, mq, rfl, hm, hb6⟩
        have hB6 : Below w.heap.size w w6 := hB5.trans (hb6.mono hB5.size)
        replace hj : Rd .u16 w6 jo jp jq (joinL A B) := hj.later hb6
        replace hm : Rd .u16 w6 mo mp mq (meetL A B) := hm
        clear hb1 hb2 hb3 hb4 hb5 hb6 hB0 hB1 hB2 hB3 hB4 hB5
        have rj := rises_of_up uj
        have rm := rises_of_up um
        obtain rfl : mp = (meetL A B).length := hm.len.symm
        go_upto_region 6 with fail
        go_cut [9] (fun v w' => v = .bool true ∧ Below w.heap.size w w' ∧ Rd .u16 w' jo jp jq (joinL A B) ∧ Rd .u16 w' mo (meetL A B).length mq (meetL A B))
        case first =>
          have haa := within_refl ua
          cases hab : withinB A B with
          | false =>
            go_wp2_with fail
            refine Calls.mono (flows_any ao ao n c n c A A w6 (ha.later hB6) (ha.later hB6) ra ra) ?_
            rintro e v1 ⟨rfl, g1⟩
            have g1B : Below w.heap.size w v1 := hB6.trans (g1.mono hB6.size)
            replace hj := hj.later g1
            replace hm := hm.later g1
            go_wp2_with fail
            refine Calls.mono (flows_any ao bo n c m d A B v1 (ha.later g1B) (hb.later g1B) ra rb) ?_
            rintro e v2 ⟨rfl, g2⟩
            have g2B : Below w.heap.size w v2 := g1B.trans (g2.mono g1B.size)
            replace hj := hj.later g2
            replace hm := hm.later g2
            go_wp2_with fail
            refine Calls.mono (flows_any ao bo n c m d A B v2 (ha.later g2B) (hb.later g2B) ra rb) ?_
            rintro e v3 ⟨rfl, g3⟩
            have g3B : Below w.heap.size w v3 := g2B.trans (g3.mono g2B.size)
            replace hj := hj.later g3
            replace hm := hm.later g3
            go_wp2_with fail
            go_meet
            exact ⟨rfl, g3B, hj, hm⟩
          | true =>
            cases hba : withinB B A with
            | false =>
              cases hbc : withinB B C with
              | false =>
                go_wp2_with fail
                refine Calls.mono (flows_any ao ao n c n c A A w6 (ha.later hB6) (ha.later hB6) ra ra) ?_
                rintro e v1 ⟨rfl, g1⟩
                have g1B : Below w.heap.size w v1 := hB6.trans (g1.mono hB6.size)
                replace hj := hj.later g1
                replace hm := hm.later g1
                go_wp2_with fail
                refine Calls.mono (flows_any ao bo n c m d A B v1 (ha.later g1B) (hb.later g1B) ra rb) ?_
                rintro e v2 ⟨rfl, g2⟩
                have g2B : Below w.heap.size w v2 := g1B.trans (g2.mono g1B.size)
                replace hj := hj.later g2
                replace hm := hm.later g2
                go_wp2_with fail
                refine Calls.mono (flows_any bo ao m d n c B A v2 (hb.later g2B) (ha.later g2B) rb ra) ?_
                rintro e v3 ⟨rfl, g3⟩
                have g3B : Below w.heap.size w v3 := g2B.trans (g3.mono g2B.size)
                replace hj := hj.later g3
                replace hm := hm.later g3
                go_wp2_with fail
                refine Calls.mono (flows_any ao bo n c m d A B v3 (ha.later g3B) (hb.later g3B) ra rb) ?_
                rintro e v4 ⟨rfl, g4⟩
                have g4B : Below w.heap.size w v4 := g3B.trans (g4.mono g3B.size)
                replace hj := hj.later g4
                replace hm := hm.later g4
                go_wp2_with fail
                refine Calls.mono (flows_any bo co m d p q B C v4 (hb.later g4B) (hc.later g4B) rb rc) ?_
                rintro e v5 ⟨rfl, g5⟩
                have g5B : Below w.heap.size w v5 := g4B.trans (g5.mono g4B.size)
                replace hj := hj.later g5
                replace hm := hm.later g5
                go_wp2_with fail
                go_meet
                exact ⟨rfl, g5B, hj, hm⟩
              | true =>
                have hac := within_trans ua ub uc hab hbc
                go_wp2_with fail
                refine Calls.mono (flows_any ao ao n c n c A A w6 (ha.later hB6) (ha.later hB6) ra ra) ?_
                rintro e v1 ⟨rfl, g1⟩
                have g1B : Below w.heap.size w v1 := hB6.trans (g1.mono hB6.size)
                replace hj := hj.later g1
                replace hm := hm.later g1
                go_wp2_with fail
                refine Calls.mono (flows_any ao bo n c m d A B v1 (ha.later g1B) (hb.later g1B) ra rb) ?_
                rintro e v2 ⟨rfl, g2⟩
                have g2B : Below w.heap.size w v2 := g1B.trans (g2.mono g1B.size)
                replace hj := hj.later g2
                replace hm := hm.later g2
                go_wp2_with fail
                refine Calls.mono (flows_any bo ao m d n c B A v2 (hb.later g2B) (ha.later g2B) rb ra) ?_
                rintro e v3 ⟨rfl, g3⟩
                have g3B : Below w.heap.size w v3 := g2B.trans (g3.mono g2B.size)
                replace hj := hj.later g3
                replace hm := hm.later g3
                go_wp2_with fail
                refine Calls.mono (flows_any ao bo n c m d A B v3 (ha.later g3B) (hb.later g3B) ra rb) ?_
                rintro e v4 ⟨rfl, g4⟩
                have g4B : Below w.heap.size w v4 := g3B.trans (g4.mono g3B.size)
                replace hj := hj.later g4
                replace hm := hm.later g4
                go_wp2_with fail
                refine Calls.mono (flows_any bo co m d p q B C v4 (hb.later g4B) (hc.later g4B) rb rc) ?_
                rintro e v5 ⟨rfl, g5⟩
                have g5B : Below w.heap.size w v5 := g4B.trans (g5.mono g4B.size)
                replace hj := hj.later g5
                replace hm := hm.later g5
                go_wp2_with fail
                refine Calls.mono (flows_any ao co n c p q A C v5 (ha.later g5B) (hc.later g5B) ra rc) ?_
                rintro e v6 ⟨rfl, g6⟩
                have g6B : Below w.heap.size w v6 := g5B.trans (g6.mono g5B.size)
                replace hj := hj.later g6
                replace hm := hm.later g6
                go_wp2_with fail
                go_meet
                exact ⟨rfl, g6B, hj, hm⟩
            | true =>
              have hcm : cmpL A B = 0 := by rw [within_anti ua ub hab hba]; exact cmpL_self B
              cases hbc : withinB B C with
              | false =>
                go_wp2_with fail
                refine Calls.mono (flows_any ao ao n c n c A A w6 (ha.later hB6) (ha.later hB6) ra ra) ?_
                rintro e v1 ⟨rfl, g1⟩
                have g1B : Below w.heap.size w v1 := hB6.trans (g1.mono hB6.size)
                replace hj := hj.later g1
                replace hm := hm.later g1
                go_wp2_with fail
                refine Calls.mono (flows_any ao bo n c m d A B v1 (ha.later g1B) (hb.later g1B) ra rb) ?_
                rintro e v2 ⟨rfl, g2⟩
                have g2B : Below w.heap.size w v2 := g1B.trans (g2.mono g1B.size)
                replace hj := hj.later g2
                replace hm := hm.later g2
                go_wp2_with fail
                refine Calls.mono (flows_any bo ao m d n c B A v2 (hb.later g2B) (ha.later g2B) rb ra) ?_
                rintro e v3 ⟨rfl, g3⟩
                have g3B : Below w.heap.size w v3 := g2B.trans (g3.mono g2B.size)
                replace hj := hj.later g3
                replace hm := hm.later g3
                go_wp2_with fail
                refine Calls.mono (Compare_any ao bo n c m d A B v3 (ha.later g3B) (hb.later g3B)) ?_
                rintro e v3x ⟨rfl, hxx⟩
                subst hxx
                go_wp2_with fail
                refine Calls.mono (flows_any ao bo n c m d A B v3x (ha.later g3B) (hb.later g3B) ra rb) ?_
                rintro e v5 ⟨rfl, g5⟩
                have g5B : Below w.heap.size w v5 := g3B.trans (g5.mono g3B.size)
                replace hj := hj.later g5
                replace hm := hm.later g5
                go_wp2_with fail
                refine Calls.mono (flows_any bo co m d p q B C v5 (hb.later g5B) (hc.later g5B) rb rc) ?_
                rintro e v6 ⟨rfl, g6⟩
                have g6B : Below w.heap.size w v6 := g5B.trans (g6.mono g5B.size)
                replace hj := hj.later g6
                replace hm := hm.later g6
                go_wp2_with fail
                go_meet
                exact ⟨rfl, g6B, hj, hm⟩
              | true =>
                have hac := within_trans ua ub uc hab hbc
                go_wp2_with fail
                refine Calls.mono (flows_any ao ao n c n c A A w6 (ha.later hB6) (ha.later hB6) ra ra) ?_
                rintro e v1 ⟨rfl, g1⟩
                have g1B : Below w.heap.size w v1 := hB6.trans (g1.mono hB6.size)
                replace hj := hj.later g1
                replace hm := hm.later g1
                go_wp2_with fail
                refine Calls.mono (flows_any ao bo n c m d A B v1 (ha.later g1B) (hb.later g1B) ra rb) ?_
                rintro e v2 ⟨rfl, g2⟩
                have g2B : Below w.heap.size w v2 := g1B.trans (g2.mono g1B.size)
                replace hj := hj.later g2
                replace hm := hm.later g2
                go_wp2_with fail
                refine Calls.mono (flows_any bo ao m d n c B A v2 (hb.later g2B) (ha.later g2B) rb ra) ?_
                rintro e v3 ⟨rfl, g3⟩
                have g3B : Below w.heap.size w v3 := g2B.trans (g3.mono g2B.size)
                replace hj := hj.later g3
                replace hm := hm.later g3
                go_wp2_with fail
                refine Calls.mono (Compare_any ao bo n c m d A B v3 (ha.later g3B) (hb.later g3B)) ?_
                rintro e v3x ⟨rfl, hxx⟩
                subst hxx
                go_wp2_with fail
                refine Calls.mono (flows_any ao bo n c m d A B v3x (ha.later g3B) (hb.later g3B) ra rb) ?_
                rintro e v5 ⟨rfl, g5⟩
                have g5B : Below w.heap.size w v5 := g3B.trans (g5.mono g3B.size)
                replace hj := hj.later g5
                replace hm := hm.later g5
                go_wp2_with fail
                refine Calls.mono (flows_any bo co m d p q B C v5 (hb.later g5B) (hc.later g5B) rb rc) ?_
                rintro e v6 ⟨rfl, g6⟩
                have g6B : Below w.heap.size w v6 := g5B.trans (g6.mono g5B.size)
                replace hj := hj.later g6
                replace hm := hm.later g6
                go_wp2_with fail
                refine Calls.mono (flows_any ao co n c p q A C v6 (ha.later g6B) (hc.later g6B) ra rc) ?_
                rintro e v7 ⟨rfl, g7⟩
                have g7B : Below w.heap.size w v7 := g6B.trans (g7.mono g6B.size)
                replace hj := hj.later g7
                replace hm := hm.later g7
                go_wp2_with fail
                go_meet
                exact ⟨rfl, g7B, hj, hm⟩
        case rest =>
          clear hj hm hB6
          obtain ⟨rfl, hBc, hj, hm⟩ := hcut
          obtain ⟨wo, rfl⟩ : ∃ wo : World, wo = wc := ⟨_, rfl⟩
          go_upto_region 7 with fail
          go_cut [10] (fun v w' => v = .bool true ∧ Below w.heap.size w w' ∧ Rd .u16 w' jo jp jq (joinL A B) ∧ Rd .u16 w' mo (meetL A B).length mq (meetL A B))
          case first =>
            obtain ⟨fj1, fj2, fj3, -⟩ := HF.out
            cases hac : withinB A C with
            | false =>
              rw [hac, Bool.false_and] at fj3
              go_wp2_with fail
              refine Calls.mono (flows_any ao jo n c jp jq A (joinL A B) wo (ha.later hBc) hj ra rj) ?_
              rintro e v1 ⟨rfl, g1⟩
              have g1B : Below w.heap.size w v1 := hBc.trans (g1.mono hBc.size)
              replace hj := hj.later g1
              replace hm := hm.later g1
              go_wp2_with fail
              refine Calls.mono (flows_any bo jo m d jp jq B (joinL A B) v1 (hb.later g1B) hj rb rj) ?_
              rintro e v2 ⟨rfl, g2⟩
              have g2B : Below w.heap.size w v2 := g1B.trans (g2.mono g1B.size)
              replace hj := hj.later g2
              replace hm := hm.later g2
              go_wp2_with fail
              refine Calls.mono (flows_any jo co jp jq p q (joinL A B) C v2 hj (hc.later g2B) rj rc) ?_
              rintro e v3 ⟨rfl, g3⟩
              have g3B : Below w.heap.size w v3 := g2B.trans (g3.mono g2B.size)
              replace hj := hj.later g3
              replace hm := hm.later g3
              go_wp2_with fail
              refine Calls.mono (flows_any ao co n c p q A C v3 (ha.later g3B) (hc.later g3B) ra rc) ?_
              rintro e v4 ⟨rfl, g4⟩
              have g4B : Below w.heap.size w v4 := g3B.trans (g4.mono g3B.size)
              replace hj := hj.later g4
              replace hm := hm.later g4
              go_wp2_with fail
              go_meet
              exact ⟨rfl, g4B, hj, hm⟩
            | true =>
              rw [hac, Bool.true_and] at fj3
              go_wp2_with fail
              refine Calls.mono (flows_any ao jo n c jp jq A (joinL A B) wo (ha.later hBc) hj ra rj) ?_
              rintro e v1 ⟨rfl, g1⟩
              have g1B : Below w.heap.size w v1 := hBc.trans (g1.mono hBc.size)
              replace hj := hj.later g1
              replace hm := hm.later g1
              go_wp2_with fail
              refine Calls.mono (flows_any bo jo m d jp jq B (joinL A B) v1 (hb.later g1B) hj rb rj) ?_
              rintro e v2 ⟨rfl, g2⟩
              have g2B : Below w.heap.size w v2 := g1B.trans (g2.mono g1B.size)
              replace hj := hj.later g2
              replace hm := hm.later g2
              go_wp2_with fail
              refine Calls.mono (flows_any jo co jp jq p q (joinL A B) C v2 hj (hc.later g2B) rj rc) ?_
              rintro e v3 ⟨rfl, g3⟩
              have g3B : Below w.heap.size w v3 := g2B.trans (g3.mono g2B.size)
              replace hj := hj.later g3
              replace hm := hm.later g3
              go_wp2_with fail
              refine Calls.mono (flows_any ao co n c p q A C v3 (ha.later g3B) (hc.later g3B) ra rc) ?_
              rintro e v4 ⟨rfl, g4⟩
              have g4B : Below w.heap.size w v4 := g3B.trans (g4.mono g3B.size)
              replace hj := hj.later g4
              replace hm := hm.later g4
              go_wp2_with fail
              refine Calls.mono (flows_any bo co m d p q B C v4 (hb.later g4B) (hc.later g4B) rb rc) ?_
              rintro e v5 ⟨rfl, g5⟩
              have g5B : Below w.heap.size w v5 := g4B.trans (g5.mono g4B.size)
              replace hj := hj.later g5
              replace hm := hm.later g5
              go_wp2_with fail
              go_meet
              exact ⟨rfl, g5B, hj, hm⟩
          case rest =>
            clear hj hm hBc
            obtain ⟨rfl, hBc, hj, hm⟩ := hcut
            obtain ⟨wp, rfl⟩ : ∃ wo : World, wo = wc := ⟨_, rfl⟩
            go_upto_region 8 with fail
            go_cut [11] (fun v w' => v = .bool true ∧ Below w.heap.size w w' ∧ Rd .u16 w' jo jp jq (joinL A B) ∧ Rd .u16 w' mo (meetL A B).length mq (meetL A B))
            case first =>
              obtain ⟨-, -, -, fm1, fm2, fm3⟩ := HF.out
              cases hca : withinB C A with
              | false =>
                rw [hca, Bool.false_and] at fm3
                go_wp2_with fail
                refine Calls.mono (flows_any mo ao (meetL A B).length mq n c (meetL A B) A wp hm (ha.later hBc) rm ra) ?_
                rintro e v1 ⟨rfl, g1⟩
                have g1B : Below w.heap.size w v1 := hBc.trans (g1.mono hBc.size)
                replace hj := hj.later g1
                replace hm := hm.later g1
                go_wp2_with fail
                refine Calls.mono (flows_any mo bo (meetL A B).length mq m d (meetL A B) B v1 hm (hb.later g1B) rm rb) ?_
                rintro e v2 ⟨rfl, g2⟩
                have g2B : Below w.heap.size w v2 := g1B.trans (g2.mono g1B.size)
                replace hj := hj.later g2
                replace hm := hm.later g2
                go_wp2_with fail
                refine Calls.mono (flows_any co mo p q (meetL A B).length mq C (meetL A B) v2 (hc.later g2B) hm rc rm) ?_
                rintro e v3 ⟨rfl, g3⟩
                have g3B : Below w.heap.size w v3 := g2B.trans (g3.mono g2B.size)
                replace hj := hj.later g3
                replace hm := hm.later g3
                go_wp2_with fail
                refine Calls.mono (flows_any co ao p q n c C A v3 (hc.later g3B) (ha.later g3B) rc ra) ?_
                rintro e v4 ⟨rfl, g4⟩
                have g4B : Below w.heap.size w v4 := g3B.trans (g4.mono g3B.size)
                replace hj := hj.later g4
                replace hm := hm.later g4
                go_wp2_with fail
                go_meet
                exact ⟨rfl, g4B, hj, hm⟩
              | true =>
                rw [hca, Bool.true_and] at fm3
                go_wp2_with fail
                refine Calls.mono (flows_any mo ao (meetL A B).length mq n c (meetL A B) A wp hm (ha.later hBc) rm ra) ?_
                rintro e v1 ⟨rfl, g1⟩
                have g1B : Below w.heap.size w v1 := hBc.trans (g1.mono hBc.size)
                replace hj := hj.later g1
                replace hm := hm.later g1
                go_wp2_with fail
                refine Calls.mono (flows_any mo bo (meetL A B).length mq m d (meetL A B) B v1 hm (hb.later g1B) rm rb) ?_
                rintro e v2 ⟨rfl, g2⟩
                have g2B : Below w.heap.size w v2 := g1B.trans (g2.mono g1B.size)
                replace hj := hj.later g2
                replace hm := hm.later g2
                go_wp2_with fail
                refine Calls.mono (flows_any co mo p q (meetL A B).length mq C (meetL A B) v2 (hc.later g2B) hm rc rm) ?_
                rintro e v3 ⟨rfl, g3⟩
                have g3B : Below w.heap.size w v3 := g2B.trans (g3.mono g2B.size)
                replace hj := hj.later g3
                replace hm := hm.later g3
                go_wp2_with fail
                refine Calls.mono (flows_any co ao p q n c C A v3 (hc.later g3B) (ha.later g3B) rc ra) ?_
                rintro e v4 ⟨rfl, g4⟩
                have g4B : Below w.heap.size w v4 := g3B.trans (g4.mono g3B.size)
                replace hj := hj.later g4
                replace hm := hm.later g4
                go_wp2_with fail
                refine Calls.mono (flows_any co bo p q m d C B v4 (hc.later g4B) (hb.later g4B) rc rb) ?_
                rintro e v5 ⟨rfl, g5⟩
                have g5B : Below w.heap.size w v5 := g4B.trans (g5.mono g4B.size)
                replace hj := hj.later g5
                replace hm := hm.later g5
                go_wp2_with fail
                go_meet
                exact ⟨rfl, g5B, hj, hm⟩
            case rest =>
              clear hj hm hBc
              obtain ⟨rfl, hBc, hj, hm⟩ := hcut
              obtain ⟨fn1, fn2⟩ := HN.out
              have fn3 : (((minusL A B).length : Int) + ((meetL A B).length : Int) == (n : Int)) = true := by rw [beq_iff_eq]; omega
              have fn4 : (((minusL A B).length : Int) == 0) = withinB A B := by rw [← fn2, Bool.eq_iff_iff, beq_iff_eq, decide_eq_true_iff]; omega
              have fn5 : (minusL A B).length ≤ 8 := by omega
              have fn6 : (meetL A B).length ≤ 8 := by omega
              clear fn1 fn2
              go_wp2_with fail
              refine Calls.mono (minus_any ao bo n c m d A B wc (ha.later hBc) (hb.later hBc) ra rb (by omega) (by omega)) ?_
              rintro e v1 ⟨no1, np1, nq1, rfl, hN1, g1⟩
              replace hN1 : (minusL A B).length = np1 := hN1.len
              subst hN1
              have g1B : Below w.heap.size w v1 := hBc.trans (g1.mono hBc.size)
              replace hj := hj.later g1
              replace hm := hm.later g1
              go_wp2_with fail
              refine Calls.mono (minus_any ao bo n c m d A B v1 (ha.later g1B) (hb.later g1B) ra rb (by omega) (by omega)) ?_
              rintro e v2 ⟨no2, np2, nq2, rfl, hN2, g2⟩
              replace hN2 : (minusL A B).length = np2 := hN2.len
              subst hN2
              have g2B : Below w.heap.size w v2 := g1B.trans (g2.mono g1B.size)
              replace hj := hj.later g2
              replace hm := hm.later g2
              go_wp2_with fail
              refine Calls.mono (flows_any ao bo n c m d A B v2 (ha.later g2B) (hb.later g2B) ra rb) ?_
              rintro e v3 ⟨rfl, g3⟩
              have g3B : Below w.heap.size w v3 := g2B.trans (g3.mono g2B.size)
              replace hj := hj.later g3
              replace hm := hm.later g3
              go_wp2
              go_ret
              exact ⟨rfl, g3B⟩

end Go.Proofs.Ytgmodalpmicmnaa
