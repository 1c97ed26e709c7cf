/- The walk of 'OwnMore': it answers true at every four labels, and at whatever else; nothing is turned. (Written by gen_more.py.) -/
import Derived.Test.YtghifjiohgninaaO4
namespace Go.Proofs.Ytghifjiohgninaa
open Go.RowKit
set_option linter.unusedVariables false

theorem all_len (xs : List Int) : (allL xs).length ≤ xs.length := by
  have := allTo_len xs xs.length
  rwa [allTo, List.take_length] at this

theorem ownE_label {O M : List Int} (rm : risesB M = true) (lm : M.length ≤ 8) : ownE O M = if (minusL M O).length = 0 then 0 else 17 := by
  rw [ownE, all_of_up (up_of_rises rm), if_pos lm]

theorem ownE_in {O M : List Int} (rm : risesB M = true) (ro : risesB O = true) (lm : M.length ≤ 8) (lo : O.length ≤ 100) (h : ∀ z ∈ M, z ∈ O) : ownE O M = 0 := by
  rw [ownE_label rm lm, if_pos]
  rw [mem_nil_iff]
  intro z
  rw [mem_minus (up_of_rises rm) (up_of_rises ro) (by omega)]
  rintro ⟨h1, h2⟩
  exact h2 (h z h1)

theorem more_facts {A B O M : List Int} (ra : risesB A = true) (rb : risesB B = true) (ro : risesB O = true) (rm : risesB M = true) (la : A.length ≤ 8) (lb : B.length ≤ 8) (lo : O.length ≤ 8) (lm : M.length ≤ 8) :
    (flB A B O = true → flB A B (allL (O ++ M)) = true) ∧ flB A B [] = allIn A B ∧ flB A (allL (B ++ A)) O = true ∧ flB A [] A = true ∧ (ownE O M = 0 ∨ ownE O M = 17) ∧ ownE (allL (O ++ M)) M = 0 ∧ ownE O [] = 0 := by
  have r1 := rises_of_up (up_all (O ++ M))
  have l1 := all_len (O ++ M)
  have r2 := rises_of_up (up_all (B ++ A))
  have l2 := all_len (B ++ A)
  rw [List.length_append] at l1 l2
  refine ⟨fun h => ?_, ?_, ?_, ?_, ?_, ?_, ?_⟩
  · rw [fl_iff ra rb ro (by omega) (by omega) (by omega)] at h
    rw [fl_iff ra rb r1 (by omega) (by omega) (by omega)]
    intro z hz
    rcases h z hz with e | e
    · exact .inl ((mem_all _ z).2 (List.mem_append.2 (.inl e)))
    · exact .inr e
  · rw [Bool.eq_iff_iff, fl_iff ra rb rfl (by omega) (by omega) (by simp), allIn, List.all_eq_true]
    constructor
    · intro h z hz
      rcases h z hz with e | e
      · cases e
      · simp [inB, e]
    · intro h z hz
      have := h z hz
      simp [inB] at this
      exact .inr this
  · rw [fl_iff ra r2 ro (by omega) (by omega) (by omega)]
    intro z hz
    exact .inr ((mem_all _ z).2 (List.mem_append.2 (.inr hz)))
  · rw [fl_iff ra rfl ra (by omega) (by simp) (by omega)]
    intro z hz
    exact .inl hz
  · rw [ownE_label rm lm]
    split
    · exact .inl rfl
    · exact .inr rfl
  · exact ownE_in rm r1 lm (by omega) fun z hz => (mem_all _ z).2 (List.mem_append.2 (.inr hz))
  · exact ownE_in rfl ro (by simp) (by omega) (by simp)

set_option maxRecDepth 100000 in
set_option maxHeartbeats 8000000 in
theorem ownMore_any (ao bo co so : Option Addr) (n c m d l f k g : Nat) (A B O M : List Int) (w : World) (ha : Rd .u16 w ao n c A) (hb : Rd .u16 w bo m d B) (ho : Rd .u16 w co l f O) (hs : Rd .u16 w so k g M) :
    Calls Try.prog 4 #[.slice ao n c, .slice bo m d, .slice co l f, .slice so k g] w fun e w' => e = .returned (.bool true) ∧ Below w.heap.size w w' := by
  have hB0 : Below w.heap.size w w := Below.refl _ _
  cases eha : mayB A with
  | false =>
    go_enter Try.func4, Try.ntmps4
    go_wp2_with fail
    refine Calls.mono (begun_any w) ?_
    rintro e w1 ⟨rfl, hb1⟩
    have hB1 : Below w.heap.size w w1 := hB0.trans (hb1.mono hB0.size)
    go_wp2_with fail
    refine Calls.mono (refMay_b ao n c A w1 (ha.later hB1)) ?_
    rintro e w2 ⟨rfl, hb2⟩
    have hB2 : Below w.heap.size w w2 := hB1.trans (hb2.mono hB1.size)
    go_wp2
    go_ret
    exact ⟨rfl, hB2⟩
  | true =>
    cases ehb : mayB B with
    | false =>
      go_enter Try.func4, Try.ntmps4
      go_wp2_with fail
      refine Calls.mono (begun_any w) ?_
      rintro e w1 ⟨rfl, hb1⟩
      have hB1 : Below w.heap.size w w1 := hB0.trans (hb1.mono hB0.size)
      go_wp2_with fail
      refine Calls.mono (refMay_b ao n c A w1 (ha.later hB1)) ?_
      rintro e w2 ⟨rfl, hb2⟩
      have hB2 : Below w.heap.size w w2 := hB1.trans (hb2.mono hB1.size)
      go_wp2_with fail
      refine Calls.mono (refMay_b bo m d B w2 (hb.later hB2)) ?_
      rintro e w3 ⟨rfl, hb3⟩
      have hB3 : Below w.heap.size w w3 := hB2.trans (hb3.mono hB2.size)
      go_wp2
      go_ret
      exact ⟨rfl, hB3⟩
    | true =>
      cases eho : mayB O with
      | false =>
        go_enter Try.func4, Try.ntmps4
        go_wp2_with fail
        refine Calls.mono (begun_any w) ?_
        rintro e w1 ⟨rfl, hb1⟩
        have hB1 : Below w.heap.size w w1 := hB0.trans (hb1.mono hB0.size)
        go_wp2_with fail
        refine Calls.mono (refMay_b ao n c A w1 (ha.later hB1)) ?_
        rintro e w2 ⟨rfl, hb2⟩
        have hB2 : Below w.heap.size w w2 := hB1.trans (hb2.mono hB1.size)
        go_wp2_with fail
        refine Calls.mono (refMay_b bo m d B w2 (hb.later hB2)) ?_
        rintro e w3 ⟨rfl, hb3⟩
        have hB3 : Below w.heap.size w w3 := hB2.trans (hb3.mono hB2.size)
        go_wp2_with fail
        refine Calls.mono (refMay_b co l f O w3 (ho.later hB3)) ?_
        rintro e w4 ⟨rfl, hb4⟩
        have hB4 : Below w.heap.size w w4 := hB3.trans (hb4.mono hB3.size)
        go_wp2
        go_ret
        exact ⟨rfl, hB4⟩
      | true =>
        cases ehs : mayB M with
        | false =>
          go_enter Try.func4, Try.ntmps4
          go_wp2_with fail
          refine Calls.mono (begun_any w) ?_
          rintro e w1 ⟨rfl, hb1⟩
          have hB1 : Below w.heap.size w w1 := hB0.trans (hb1.mono hB0.size)
          go_wp2_with fail
          refine Calls.mono (refMay_b ao n c A w1 (ha.later hB1)) ?_
          rintro e w2 ⟨rfl, hb2⟩
          have hB2 : Below w.heap.size w w2 := hB1.trans (hb2.mono hB1.size)
          go_wp2_with fail
          refine Calls.mono (refMay_b bo m d B w2 (hb.later hB2)) ?_
          rintro e w3 ⟨rfl, hb3⟩
          have hB3 : Below w.heap.size w w3 := hB2.trans (hb3.mono hB2.size)
          go_wp2_with fail
          refine Calls.mono (refMay_b co l f O w3 (ho.later hB3)) ?_
          rintro e w4 ⟨rfl, hb4⟩
          have hB4 : Below w.heap.size w w4 := hB3.trans (hb4.mono hB3.size)
          go_wp2_with fail
          refine Calls.mono (refMay_b so k g M w4 (hs.later hB4)) ?_
          rintro e w5 ⟨rfl, hb5⟩
          have hB5 : Below w.heap.size w w5 := hB4.trans (hb5.mono hB4.size)
          go_wp2
          go_ret
          exact ⟨rfl, hB5⟩
        | true =>
          obtain ⟨ra, la⟩ := mayB_true eha
          have na := ha.len
          obtain ⟨rb, lb⟩ := mayB_true ehb
          have nb := hb.len
          obtain ⟨ro, lo⟩ := mayB_true eho
          have no := ho.len
          obtain ⟨rm, lm⟩ := mayB_true ehs
          have nm := hs.len
          obtain ⟨f1, f2, f3, f4, f5, f6, f7⟩ := more_facts ra rb ro rm la lb lo lm
          have rj := rises_of_up (up_all (O ++ M))
          have ru := rises_of_up (up_all (B ++ A))
          have lu := all_len (B ++ A)
          rw [List.length_append] at lu
          go_enter Try.func4, Try.ntmps4
          go_wp2_with fail
          refine Calls.mono (begun_any w) ?_
          rintro e w1 ⟨rfl, hb1⟩
          have hB1 : Below w.heap.size w w1 := hB0.trans (hb1.mono hB0.size)
          go_wp2_with fail
          refine Calls.mono (refMay_b ao n c A w1 (ha.later hB1)) ?_
          rintro e w2 ⟨rfl, hb2⟩
          have hB2 : Below w.heap.size w w2 := hB1.trans (hb2.mono hB1.size)
          go_wp2_with fail
          refine Calls.mono (refMay_b bo m d B w2 (hb.later hB2)) ?_
          rintro e w3 ⟨rfl, hb3⟩
          have hB3 : Below w.heap.size w w3 := hB2.trans (hb3.mono hB2.size)
          go_wp2_with fail
          refine Calls.mono (refMay_b co l f O w3 (ho.later hB3)) ?_
          rintro e w4 ⟨rfl, hb4⟩
          have hB4 : Below w.heap.size w w4 := hB3.trans (hb4.mono hB3.size)
          go_wp2_with fail
          refine Calls.mono (refMay_b so k g M w4 (hs.later hB4)) ?_
          rintro e w5 ⟨rfl, hb5⟩
          have hB5 : Below w.heap.size w w5 := hB4.trans (hb5.mono hB4.size)
          clear hb1 hb2 hb3 hb4 hb5 hB1 hB2 hB3 hB4
          go_wp2_with fail
          refine Calls.mono (refJoin_any co so l f k g O M w5 (ho.later hB5) (hs.later hB5) (by omega) (by omega)) ?_
          rintro e w6 ⟨jo, jp, jq, rfl, hj, hb6⟩
          have hB6 : Below w.heap.size w w6 := hB5.trans (hb6.mono hB5.size)
          have nj := hj.len
          clear hb6 hB5 eha ehb eho ehs
          by_cases h8 : jp ≤ 8
          · have g1 : decide ((8 : Int) < (jp : Int)) = false := by simp; omega
            have g2 : decide (8 < jp) = false := by simp; omega
            cases efl : flB A B O with
            | false =>
              rcases f5 with eow | eow
              · go_wp2_with fail
                refine Calls.mono (ownFlows_any ao bo co n c m d l f A B O w6 (ha.later hB6) (hb.later hB6) (ho.later hB6) ra rb ro (by omega) (by omega) (by omega)) ?_
                rintro e w7 ⟨rfl, hb7⟩
                have hB7 : Below w.heap.size w w7 := hB6.trans (hb7.mono hB6.size)
                replace hj := hj.later hb7
                clear hb7 hB6
                rw [efl]
                go_wp2_with fail
                refine Calls.mono (ownFlows_any ao bo none n c m d 0 0 A B [] w7 (ha.later hB7) (hb.later hB7) (Rd.nil _ _) ra rb rfl (by omega) (by omega) (by omega)) ?_
                rintro e w8 ⟨rfl, hb8⟩
                have hB8 : Below w.heap.size w w8 := hB7.trans (hb8.mono hB7.size)
                replace hj := hj.later hb8
                clear hb8 hB7
                rw [f2]
                go_wp2_with fail
                refine Calls.mono (refFlows_any ao bo n c m d A B w8 (ha.later hB8) (hb.later hB8)) ?_
                rintro e wx ⟨rfl, hxx⟩
                rw [hxx]
                clear hxx
                go_wp2_with fail
                refine Calls.mono (refJoin_any bo ao m d n c B A w8 (hb.later hB8) (ha.later hB8) (by omega) (by omega)) ?_
                rintro e w9 ⟨uo, up, uq, rfl, hu, hb9⟩
                have hB9 : Below w.heap.size w w9 := hB8.trans (hb9.mono hB8.size)
                replace hj := hj.later hb9
                clear hb9 hB8
                have nu := hu.len
                go_wp2_with fail
                refine Calls.mono (ownFlows_any ao uo co n c up uq l f A (allL (B ++ A)) O w9 (ha.later hB9) hu (ho.later hB9) ra ru ro (by omega) (by omega) (by omega)) ?_
                rintro e w10 ⟨rfl, hb10⟩
                have hB10 : Below w.heap.size w w10 := hB9.trans (hb10.mono hB9.size)
                replace hj := hj.later hb10
                clear hb10 hB9
                rw [f3]
                clear hu nu
                go_wp2_with fail
                refine Calls.mono (ownFlows_any ao none ao n c 0 0 n c A [] A w10 (ha.later hB10) (Rd.nil _ _) (ha.later hB10) ra rfl ra (by omega) (by omega) (by omega)) ?_
                rintro e w11 ⟨rfl, hb11⟩
                have hB11 : Below w.heap.size w w11 := hB10.trans (hb11.mono hB10.size)
                replace hj := hj.later hb11
                clear hb11 hB10
                rw [f4]
                go_wp2_with fail
                refine Calls.mono (ownMay_any co l f O so k g M w11 (ho.later hB11) (hs.later hB11) ro (by omega) (by omega)) ?_
                rintro e w12 ⟨rfl, hb12⟩
                have hB12 : Below w.heap.size w w12 := hB11.trans (hb12.mono hB11.size)
                replace hj := hj.later hb12
                clear hb12 hB11
                rw [eow]
                go_wp2_with fail
                refine Calls.mono (ownMay_any jo jp jq (allL (O ++ M)) so k g M w12 hj (hs.later hB12) rj (by omega) (by omega)) ?_
                rintro e w13 ⟨rfl, hb13⟩
                have hB13 : Below w.heap.size w w13 := hB12.trans (hb13.mono hB12.size)
                replace hj := hj.later hb13
                clear hb13 hB12
                rw [f6]
                go_wp2_with fail
                refine Calls.mono (ownMay_any co l f O none 0 0 [] w13 (ho.later hB13) (Rd.nil _ _) ro (by omega) (by omega)) ?_
                rintro e w14 ⟨rfl, hb14⟩
                have hB14 : Below w.heap.size w w14 := hB13.trans (hb14.mono hB13.size)
                replace hj := hj.later hb14
                clear hb14 hB13
                rw [f7]
                go_wp2
                go_ret
                exact ⟨rfl, hB14⟩
              · go_wp2_with fail
                refine Calls.mono (ownFlows_any ao bo co n c m d l f A B O w6 (ha.later hB6) (hb.later hB6) (ho.later hB6) ra rb ro (by omega) (by omega) (by omega)) ?_
                rintro e w7 ⟨rfl, hb7⟩
                have hB7 : Below w.heap.size w w7 := hB6.trans (hb7.mono hB6.size)
                replace hj := hj.later hb7
                clear hb7 hB6
                rw [efl]
                go_wp2_with fail
                refine Calls.mono (ownFlows_any ao bo none n c m d 0 0 A B [] w7 (ha.later hB7) (hb.later hB7) (Rd.nil _ _) ra rb rfl (by omega) (by omega) (by omega)) ?_
                rintro e w8 ⟨rfl, hb8⟩
                have hB8 : Below w.heap.size w w8 := hB7.trans (hb8.mono hB7.size)
                replace hj := hj.later hb8
                clear hb8 hB7
                rw [f2]
                go_wp2_with fail
                refine Calls.mono (refFlows_any ao bo n c m d A B w8 (ha.later hB8) (hb.later hB8)) ?_
                rintro e wx ⟨rfl, hxx⟩
                rw [hxx]
                clear hxx
                go_wp2_with fail
                refine Calls.mono (refJoin_any bo ao m d n c B A w8 (hb.later hB8) (ha.later hB8) (by omega) (by omega)) ?_
                rintro e w9 ⟨uo, up, uq, rfl, hu, hb9⟩
                have hB9 : Below w.heap.size w w9 := hB8.trans (hb9.mono hB8.size)
                replace hj := hj.later hb9
                clear hb9 hB8
                have nu := hu.len
                go_wp2_with fail
                refine Calls.mono (ownFlows_any ao uo co n c up uq l f A (allL (B ++ A)) O w9 (ha.later hB9) hu (ho.later hB9) ra ru ro (by omega) (by omega) (by omega)) ?_
                rintro e w10 ⟨rfl, hb10⟩
                have hB10 : Below w.heap.size w w10 := hB9.trans (hb10.mono hB9.size)
                replace hj := hj.later hb10
                clear hb10 hB9
                rw [f3]
                clear hu nu
                go_wp2_with fail
                refine Calls.mono (ownFlows_any ao none ao n c 0 0 n c A [] A w10 (ha.later hB10) (Rd.nil _ _) (ha.later hB10) ra rfl ra (by omega) (by omega) (by omega)) ?_
                rintro e w11 ⟨rfl, hb11⟩
                have hB11 : Below w.heap.size w w11 := hB10.trans (hb11.mono hB10.size)
                replace hj := hj.later hb11
                clear hb11 hB10
                rw [f4]
                go_wp2_with fail
                refine Calls.mono (ownMay_any co l f O so k g M w11 (ho.later hB11) (hs.later hB11) ro (by omega) (by omega)) ?_
                rintro e w12 ⟨rfl, hb12⟩
                have hB12 : Below w.heap.size w w12 := hB11.trans (hb12.mono hB11.size)
                replace hj := hj.later hb12
                clear hb12 hB11
                rw [eow]
                go_wp2_with fail
                refine Calls.mono (ownMay_any co l f O none 0 0 [] w12 (ho.later hB12) (Rd.nil _ _) ro (by omega) (by omega)) ?_
                rintro e w13 ⟨rfl, hb13⟩
                have hB13 : Below w.heap.size w w13 := hB12.trans (hb13.mono hB12.size)
                replace hj := hj.later hb13
                clear hb13 hB12
                rw [f7]
                go_wp2
                go_ret
                exact ⟨rfl, hB13⟩
            | true =>
              rcases f5 with eow | eow
              · go_wp2_with fail
                refine Calls.mono (ownFlows_any ao bo co n c m d l f A B O w6 (ha.later hB6) (hb.later hB6) (ho.later hB6) ra rb ro (by omega) (by omega) (by omega)) ?_
                rintro e w7 ⟨rfl, hb7⟩
                have hB7 : Below w.heap.size w w7 := hB6.trans (hb7.mono hB6.size)
                replace hj := hj.later hb7
                clear hb7 hB6
                rw [efl]
                go_wp2_with fail
                refine Calls.mono (ownFlows_any ao bo jo n c m d jp jq A B (allL (O ++ M)) w7 (ha.later hB7) (hb.later hB7) hj ra rb rj (by omega) (by omega) (by omega)) ?_
                rintro e w8 ⟨rfl, hb8⟩
                have hB8 : Below w.heap.size w w8 := hB7.trans (hb8.mono hB7.size)
                replace hj := hj.later hb8
                clear hb8 hB7
                rw [f1 efl]
                go_wp2_with fail
                refine Calls.mono (ownFlows_any ao bo none n c m d 0 0 A B [] w8 (ha.later hB8) (hb.later hB8) (Rd.nil _ _) ra rb rfl (by omega) (by omega) (by omega)) ?_
                rintro e w9 ⟨rfl, hb9⟩
                have hB9 : Below w.heap.size w w9 := hB8.trans (hb9.mono hB8.size)
                replace hj := hj.later hb9
                clear hb9 hB8
                rw [f2]
                go_wp2_with fail
                refine Calls.mono (refFlows_any ao bo n c m d A B w9 (ha.later hB9) (hb.later hB9)) ?_
                rintro e wx ⟨rfl, hxx⟩
                rw [hxx]
                clear hxx
                go_wp2_with fail
                refine Calls.mono (refJoin_any bo ao m d n c B A w9 (hb.later hB9) (ha.later hB9) (by omega) (by omega)) ?_
                rintro e w10 ⟨uo, up, uq, rfl, hu, hb10⟩
                have hB10 : Below w.heap.size w w10 := hB9.trans (hb10.mono hB9.size)
                replace hj := hj.later hb10
                clear hb10 hB9
                have nu := hu.len
                go_wp2_with fail
                refine Calls.mono (ownFlows_any ao uo co n c up uq l f A (allL (B ++ A)) O w10 (ha.later hB10) hu (ho.later hB10) ra ru ro (by omega) (by omega) (by omega)) ?_
                rintro e w11 ⟨rfl, hb11⟩
                have hB11 : Below w.heap.size w w11 := hB10.trans (hb11.mono hB10.size)
                replace hj := hj.later hb11
                clear hb11 hB10
                rw [f3]
                clear hu nu
                go_wp2_with fail
                refine Calls.mono (ownFlows_any ao none ao n c 0 0 n c A [] A w11 (ha.later hB11) (Rd.nil _ _) (ha.later hB11) ra rfl ra (by omega) (by omega) (by omega)) ?_
                rintro e w12 ⟨rfl, hb12⟩
                have hB12 : Below w.heap.size w w12 := hB11.trans (hb12.mono hB11.size)
                replace hj := hj.later hb12
                clear hb12 hB11
                rw [f4]
                go_wp2_with fail
                refine Calls.mono (ownMay_any co l f O so k g M w12 (ho.later hB12) (hs.later hB12) ro (by omega) (by omega)) ?_
                rintro e w13 ⟨rfl, hb13⟩
                have hB13 : Below w.heap.size w w13 := hB12.trans (hb13.mono hB12.size)
                replace hj := hj.later hb13
                clear hb13 hB12
                rw [eow]
                go_wp2_with fail
                refine Calls.mono (ownMay_any jo jp jq (allL (O ++ M)) so k g M w13 hj (hs.later hB13) rj (by omega) (by omega)) ?_
                rintro e w14 ⟨rfl, hb14⟩
                have hB14 : Below w.heap.size w w14 := hB13.trans (hb14.mono hB13.size)
                replace hj := hj.later hb14
                clear hb14 hB13
                rw [f6]
                go_wp2_with fail
                refine Calls.mono (ownMay_any co l f O none 0 0 [] w14 (ho.later hB14) (Rd.nil _ _) ro (by omega) (by omega)) ?_
                rintro e w15 ⟨rfl, hb15⟩
                have hB15 : Below w.heap.size w w15 := hB14.trans (hb15.mono hB14.size)
                replace hj := hj.later hb15
                clear hb15 hB14
                rw [f7]
                go_wp2
                go_ret
                exact ⟨rfl, hB15⟩
              · go_wp2_with fail
                refine Calls.mono (ownFlows_any ao bo co n c m d l f A B O w6 (ha.later hB6) (hb.later hB6) (ho.later hB6) ra rb ro (by omega) (by omega) (by omega)) ?_
                rintro e w7 ⟨rfl, hb7⟩
                have hB7 : Below w.heap.size w w7 := hB6.trans (hb7.mono hB6.size)
                replace hj := hj.later hb7
                clear hb7 hB6
                rw [efl]
                go_wp2_with fail
                refine Calls.mono (ownFlows_any ao bo jo n c m d jp jq A B (allL (O ++ M)) w7 (ha.later hB7) (hb.later hB7) hj ra rb rj (by omega) (by omega) (by omega)) ?_
                rintro e w8 ⟨rfl, hb8⟩
                have hB8 : Below w.heap.size w w8 := hB7.trans (hb8.mono hB7.size)
                replace hj := hj.later hb8
                clear hb8 hB7
                rw [f1 efl]
                go_wp2_with fail
                refine Calls.mono (ownFlows_any ao bo none n c m d 0 0 A B [] w8 (ha.later hB8) (hb.later hB8) (Rd.nil _ _) ra rb rfl (by omega) (by omega) (by omega)) ?_
                rintro e w9 ⟨rfl, hb9⟩
                have hB9 : Below w.heap.size w w9 := hB8.trans (hb9.mono hB8.size)
                replace hj := hj.later hb9
                clear hb9 hB8
                rw [f2]
                go_wp2_with fail
                refine Calls.mono (refFlows_any ao bo n c m d A B w9 (ha.later hB9) (hb.later hB9)) ?_
                rintro e wx ⟨rfl, hxx⟩
                rw [hxx]
                clear hxx
                go_wp2_with fail
                refine Calls.mono (refJoin_any bo ao m d n c B A w9 (hb.later hB9) (ha.later hB9) (by omega) (by omega)) ?_
                rintro e w10 ⟨uo, up, uq, rfl, hu, hb10⟩
                have hB10 : Below w.heap.size w w10 := hB9.trans (hb10.mono hB9.size)
                replace hj := hj.later hb10
                clear hb10 hB9
                have nu := hu.len
                go_wp2_with fail
                refine Calls.mono (ownFlows_any ao uo co n c up uq l f A (allL (B ++ A)) O w10 (ha.later hB10) hu (ho.later hB10) ra ru ro (by omega) (by omega) (by omega)) ?_
                rintro e w11 ⟨rfl, hb11⟩
                have hB11 : Below w.heap.size w w11 := hB10.trans (hb11.mono hB10.size)
                replace hj := hj.later hb11
                clear hb11 hB10
                rw [f3]
                clear hu nu
                go_wp2_with fail
                refine Calls.mono (ownFlows_any ao none ao n c 0 0 n c A [] A w11 (ha.later hB11) (Rd.nil _ _) (ha.later hB11) ra rfl ra (by omega) (by omega) (by omega)) ?_
                rintro e w12 ⟨rfl, hb12⟩
                have hB12 : Below w.heap.size w w12 := hB11.trans (hb12.mono hB11.size)
                replace hj := hj.later hb12
                clear hb12 hB11
                rw [f4]
                go_wp2_with fail
                refine Calls.mono (ownMay_any co l f O so k g M w12 (ho.later hB12) (hs.later hB12) ro (by omega) (by omega)) ?_
                rintro e w13 ⟨rfl, hb13⟩
                have hB13 : Below w.heap.size w w13 := hB12.trans (hb13.mono hB12.size)
                replace hj := hj.later hb13
                clear hb13 hB12
                rw [eow]
                go_wp2_with fail
                refine Calls.mono (ownMay_any co l f O none 0 0 [] w13 (ho.later hB13) (Rd.nil _ _) ro (by omega) (by omega)) ?_
                rintro e w14 ⟨rfl, hb14⟩
                have hB14 : Below w.heap.size w w14 := hB13.trans (hb14.mono hB13.size)
                replace hj := hj.later hb14
                clear hb14 hB13
                rw [f7]
                go_wp2
                go_ret
                exact ⟨rfl, hB14⟩
          · have g1 : decide ((8 : Int) < (jp : Int)) = true := by simp; omega
            have g2 : decide (8 < jp) = true := by simp; omega
            go_wp2
            go_ret
            exact ⟨rfl, hB6⟩

end Go.Proofs.Ytghifjiohgninaa
