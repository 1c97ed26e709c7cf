/- The walk of the statement LabelMakes. -/
import Derived.Test.YtgmodalpmicmnaaS16
import Derived.Deep.CutBlock
import Derived.Deep.DeepCutAuto
namespace Go.Proofs.Ytgmodalpmicmnaa
open Go.RowKit
set_option linter.unusedVariables false

set_option maxRecDepth 100000 in
set_option maxHeartbeats 4000000 in
theorem makes_any (ao : Option Addr) (n c : Nat) (xs : List Int) (w : World) (h : Rd .u16 w ao n c xs) :
    Calls Try.prog 3 #[.slice ao n c] w fun e w' => e = .returned (.bool true) ∧ Below w.heap.size w w' := by
  obtain ⟨i0, hi, hz0, hz1, hz2⟩ := info_parts Try.info30
  have hlen := h.len
  subst hlen
  go_enter Try.func3, Try.ntmps3
  go_wp2_with fail
  refine Calls.mono (begun_any w) ?_
  rintro e w1 ⟨rfl, hb1⟩
  by_cases h40 : xs.length ≤ 40
  · have g1 : decide ((40 : Int) < (xs.length : Int)) = false := by simp; omega
    have hsz1 := hb1.size
    go_upto_region 5 with fail
    go_cut [3] (fun v3 w' => ∃ oo p q, v3 = .slice oo p q ∧ Rd .u16 w' oo p q xs ∧ Below w.heap.size w w')
    case first =>
      have hb0 : Below w1.heap.size w1 (w1.alloc (.cells #[] 30)) := (Below.refl w1.heap.size w1).alloc (Nat.le_refl _) (.cells #[] 30)
      have hm0 := World.ownsRow_made (size := 1) (e := 30) (base := w1.heap.size) w1 #[] 0 (Nat.le_refl _) (Nat.zero_le _) rfl
      rcases ao with _ | ad
      · obtain ⟨-, -, rfl⟩ := h.none_nil
        go_wp2_with (at_builtin; refine wpList_append_none2 rfl (.tmp 15) (.tmp 16) 22 22 rfl w1.heap.size 30 30 i0 1 Try.underlying22 Try.underlying22 hi _ _ _ rfl hm0 rfl ?_)
        go_meet
        obtain ⟨o1, q1, hv, hr⟩ := Rd.of_owns (k := .u16) (out := []) (by simpa using hm0)
        exact ⟨o1, _, q1, hv, hr, hb1.trans (hb0.mono hsz1)⟩
      · go_wp2_with (at_builtin; refine wpList_append_own2 _ rfl (.tmp 15) (.tmp 16) 22 22 rfl w1.heap.size 30 30 i0 (.int .u16 0) 1 2 Try.underlying22 Try.underlying22 hi hz0 hz1 hz2 rfl (by decide) _ _ _ rfl hm0 ad xs.length c (xs.map (Value.int .u16)) rfl (by simp) ((h.later hb1).later hb0).news (ints_one _ _) (by unfold maxLen; omega) (by omega) hb0.size ?_)
        intro v1 w2 hown1 hgrow1 _
        have hB1 : Below w1.heap.size w1 w2 := below_grown hb0 hb0.size hm0 (Nat.le_refl _) hgrow1
        clear hgrow1
        go_wp2_with fail
        go_meet
        obtain ⟨o1, q1, hv, hr⟩ := Rd.of_owns (k := .u16) (out := xs) (by simpa using hown1)
        exact ⟨o1, _, q1, hv, hr, hb1.trans (hB1.mono hsz1)⟩
    case rest =>
      obtain ⟨wo, wp, wq, rfl, hwas, hb2⟩ := hcut
      obtain ⟨w2, rfl⟩ : ∃ w2 : World, w2 = wc := ⟨_, rfl⟩
      have hxl := h.later hb2
      have hs2 := hb2.size
      obtain ⟨ys, k, HY⟩ : ∃ ys k, Hid (ys = nrm xs ∧ k = nrmE xs) := ⟨_, _, rfl, rfl⟩
      have hwp : wp ≤ 1000 := by have := hwas.len; omega
      clear hb1 hsz1
      go_upto_region 6 with fail
      go_cut [4, 5] (fun v4 v5 w' => ∃ xo q, v4 = .slice xo ys.length q ∧ v5 = .int .i64 k ∧ Rd .u16 w' xo ys.length q ys ∧ Mine w2.heap.size w' xo q ys ∧ Below w2.heap.size w2 w')
      case first =>
        go_wp2_with fail
        refine Calls.mono (norm_made ao xs.length c xs ys k HY w2 hxl (by omega)) ?_
        rintro e w3 ⟨xo, q, rfl, hr, hm, hb3⟩
        go_wp2_with fail
        go_meet
        exact ⟨xo, q, rfl, rfl, hr, hm, hb3⟩
      case rest =>
        obtain ⟨xo, q, rfl, rfl, hr, hm, hb3⟩ := hcut
        obtain ⟨w3, rfl⟩ : ∃ w3 : World, w3 = wc := ⟨_, rfl⟩
        have hxl3 := hxl.later hb3
        have hwas3 := hwas.later hb3
        have hs3 := hb3.size
        have hB3 : Below w.heap.size w w3 := hb2.trans (hb3.mono hs2)
        have hC3 := hb3
        clear hxl hb3
        go_upto_region 7 with fail
        go_cut [6, 7] (fun v6 v7 w' => ∃ yo p d, v6 = .slice yo p d ∧ v7 = .int .i64 k ∧ Rd .u16 w' yo p d ys ∧ Below w3.heap.size w3 w')
        case first =>
          go_wp2_with fail
          refine Calls.mono (refNorm_made wo wp wq xs ys k HY w3 hwas3 hwp) ?_
          rintro e w4 ⟨yo, p, d, rfl, hy, hb4⟩
          go_wp2_with fail
          go_meet
          exact ⟨yo, p, d, rfl, rfl, hy, hb4⟩
        case rest =>
          obtain ⟨yo, p, d, rfl, rfl, hy, hb4⟩ := hcut
          obtain ⟨w4, rfl⟩ : ∃ w4 : World, w4 = wc := ⟨_, rfl⟩
          have hxl4 := hxl3.later hb4
          have hwas4 := hwas3.later hb4
          have hr4 := hr.later hb4
          have hm4 := hm.later hb4
          have hs4 := hb4.size
          have hB4 : Below w.heap.size w w4 := hB3.trans (hb4.mono (by omega))
          have hC4 : Below w2.heap.size w2 w4 := hC3.trans (hb4.mono hs3)
          clear hxl3 hwas3 hr hm hb4 hB3 hC3
          go_upto_region 8 with fail
          go_cut [8] (fun v8 w' => v8 = .bool true ∧ Below w4.heap.size w4 w')
          case first =>
            have hsa := sameB_self ys
            obtain ⟨mb, hmb⟩ : ∃ mb, mb = (risesB xs && decide (xs.length ≤ 8)) := ⟨_, rfl⟩
            have HMay : Hid (∀ w', Below w4.heap.size w4 w' → Calls Try.prog 13 #[.slice ao xs.length c] w' fun e w'' => e = .returned (.bool mb) ∧ Below w'.heap.size w' w'') := fun w' hb => hmb ▸ may_any ao xs.length c xs w' (hxl4.later hb)
            have HRef : Hid (∀ w', Below w4.heap.size w4 w' → Calls Try.prog 14 #[.slice wo wp wq] w' fun e w'' => e = .returned (.bool mb) ∧ Below w'.heap.size w' w'') := fun w' hb => by
              have e := refMay_any wo wp wq xs w' (hwas4.later hb)
              rw [← hmb] at e; exact e
            have HSame : Hid (Calls Try.prog 12 #[.slice xo ys.length q, .slice yo p d] w4 fun e w'' => e = .returned (.bool true) ∧ Below w4.heap.size w4 w'') := by
              have e := same_any xo yo ys.length q p d ys ys w4 hr4 hy
              rw [hsa] at e; exact e
            clear hmb hsa
            go_wp2_with fail
            refine Calls.mono HSame.out ?_
            rintro e w5 ⟨rfl, hb5⟩
            go_wp2_with fail
            refine Calls.mono (HMay.out w5 hb5) ?_
            rintro e w6 ⟨rfl, hb6⟩
            have hB6 : Below w4.heap.size w4 w6 := hb5.trans (hb6.mono hb5.size)
            go_wp2_with fail
            refine Calls.mono (HRef.out w6 hB6) ?_
            rintro e w7 ⟨rfl, hb7⟩
            have hB7 : Below w4.heap.size w4 w7 := hB6.trans (hb7.mono hB6.size)
            go_wp2_with fail
            go_meet
            exact ⟨rfl, hB7⟩
          case rest =>
            obtain ⟨rfl, hb5⟩ := hcut
            obtain ⟨w5, rfl⟩ : ∃ w5 : World, w5 = wc := ⟨_, rfl⟩
            have hm5 := hm4.later hb5
            have hs5 := hb5.size
            have hC5 : Below w2.heap.size w2 w5 := hC4.trans (hb5.mono (by omega))
            have hend : ∀ w6, Below w2.heap.size w2 w6 → Hid (Calls Try.prog 12 #[.slice ao xs.length c, .slice wo wp wq] w6 fun e w'' => e = .returned (.bool true) ∧ Below w.heap.size w w'') := fun w6 hb => by
              have hB6 : Below w.heap.size w w6 := hb2.trans (hb.mono hs2)
              have e := same_any ao wo xs.length c wp wq xs xs w6 (h.later hB6) (hwas.later hb)
              rw [sameB_self] at e
              exact Calls.mono e (fun _ _ r => ⟨r.1, hB6.trans (r.2.mono hB6.size)⟩)
            clear hxl4 hwas4 hr4 hm4 hb5 hB4 hy hC4 hwas hb2
            rcases hm5 with rfl | ⟨g, rfl, hg, hS0⟩
            · have HE := hend w5 hC5
              clear hend
              go_wp2
              refine wp_loop_rounds 1 ?_
              rw [rounds_succ]
              go_wp2_with fail
              refine Calls.mono HE.out ?_
              rintro e w6 ⟨rfl, hb6⟩
              go_wp2
              go_ret
              exact ⟨rfl, hb6⟩
            · have hy8 : ys.length ≤ 8 := by
                rw [HY.out.1, nrm]
                by_cases hf : (allL xs).length ≤ 8
                · rw [if_pos hf]; exact hf
                · rw [if_neg hf]; simp
              go_wp2
              go_loopw [9] (fun i wr => ∃ k : Nat, ∃ d1 : Array Int, k ≤ ys.length ∧ i = .int .i64 k ∧ SW g q w5 wr d1 ∧ d1.size = ys.length) (fun i _ => ys.length - (intOf i).toNat)
              case atStart => exact ⟨0, ys.toArray, Nat.zero_le _, rfl, hS0, by simp⟩
              case round =>
                obtain ⟨k, d1, hk, rfl, hS, hd1⟩ := hrel
                by_cases hlt : k < ys.length
                · have c1 := hS.cell (j := k) (by omega)
                  have f1 := hS.free k
                  have HSw : Hid (∀ m, SW g q w5 ((wr.drewN m).setCell ⟨g, k, none⟩ (.int .u16 777)) (d1.setIfInBounds k 777)) := fun m => (hS.drewN m).set k 777
                  have HS1 : Hid (SW g q w5 (wr.setCell ⟨g, k, none⟩ (.int .u16 777)) (d1.setIfInBounds k 777)) := hS.set k 777
                  go_wp2
                  go_roundw
                  case rel => exact ⟨k + 1, d1.setIfInBounds k 777, by omega, by go_num, by first | exact HS1.out | exact HSw.out 1 | exact HSw.out _, by simpa using hd1⟩
                  case measure => simp only [intOf]; omega
                · have HE := hend wr (hS.below hC5 (by omega) hg)
                  clear hend
                  go_wp2_with fail
                  refine Calls.mono HE.out ?_
                  rintro e w6 ⟨rfl, hb6⟩
                  go_wp2
                  go_ret
                  exact ⟨rfl, hb6⟩
  · have g1 : decide ((40 : Int) < (xs.length : Int)) = true := by simp; omega
    go_wp2
    go_ret
    exact ⟨rfl, hb1⟩

end Go.Proofs.Ytgmodalpmicmnaa
