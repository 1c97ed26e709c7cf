/- The walk of the statements' own first question, 'begun'. -/
import Derived.Test.YtdeplfhkeneabaaR7
namespace Go.Proofs.Ytdeplfhkeneabaa
open Go.RowKit
set_option linter.unusedVariables false

def aV : Vl := (2, 0, ⟨#[97]⟩)
theorem aV_put : putL [aV] = [1, 2, 97, 0] := by decide +kernel
theorem aV_may : mayR [aV] = true := by decide +kernel
theorem aV_E : rowE [1, 2, 97, 0] = 0 := by decide +kernel
theorem aV_V : rowV [1, 2, 97, 0] = [aV] := by decide +kernel
theorem RdV.one {w : World} {g : Nat} {v : Vl} (h : Cv w g 0 v) : RdV w (some ⟨g, 0, none⟩) 1 1 [v] := by
  refine ⟨rfl, Nat.le_refl _, by omega, fun e => by simp at e, fun _ => ⟨g, 0, rfl, fun i hi => ?_⟩⟩
  obtain rfl : i = 0 := by omega
  exact h

set_option maxRecDepth 100000 in
set_option maxHeartbeats 1000000 in
theorem begun_any (w : World) : Calls Try.prog 6 #[] w fun e w' => e = .returned (.bool true) ∧ Below w.heap.size w w' := by
  have hs : Sized [aV] := fun v hv => by rw [List.mem_singleton] at hv; subst hv; decide
  have hf : Fit [aV] := fun v hv => by rw [List.mem_singleton] at hv; subst hv; decide
  have hL : RdV (w.alloc (.cells #[.int .i64 2, .int .i64 0, .string ⟨#[97]⟩] 35)) (some ⟨w.heap.size, 0, none⟩) 1 1 [aV] := RdV.one (Cv.new w aV)
  have hb0 : Below w.heap.size w (w.alloc (.cells #[.int .i64 2, .int .i64 0, .string ⟨#[97]⟩] 35)) := (Below.refl _ _).alloc (Nat.le_refl _) _
  have hu : U8 [1, 2, 97, 0] := by unfold U8; decide
  go_enter Try.func6, Try.ntmps6
  go_upto_region 2 with fail
  generalize w.alloc (.cells #[.int .i64 2, .int .i64 0, .string ⟨#[97]⟩] 35) = W at *
  have HP := put_any _ _ _ _ W hL hs hf
  rw [aV_put] at HP
  replace HP : Hid _ := HP
  go_wp2_with fail
  refine Calls.mono HP.out ?_
  rintro e w1 ⟨oo, p, q, rfl, hr, hb1⟩
  have HT := takeRow_any oo p q _ w1 hr hu
  rw [aV_E, aV_V] at HT
  replace HT : Hid _ := HT
  clear HP
  go_wp2_with fail
  refine Calls.mono HT.out ?_
  rintro e w2 ⟨oo2, p2, q2, rfl, hr2, hb2⟩
  clear HT
  have hb12 := Below.on hb1 hb2
  have HM := mayRow_any _ _ _ _ w2 (hL.later hb12) hs
  rw [aV_may] at HM
  replace HM : Hid _ := HM
  go_wp2_with fail
  refine Calls.mono HM.out ?_
  rintro e w3 ⟨rfl, hb3⟩
  have hb13 := Below.on hb12 hb3
  have hc := conv_all (hr.later (Below.on hb2 hb3))
  have HS := sameRow_any _ _ _ _ _ _ _ _ w3 (hr2.later hb3) (hL.later hb13)
  rw [decide_eq_true rfl] at HS
  replace HS : Hid _ := HS
  have e4 : strOfNums [1, 2, 97, 0] = ⟨#[1, 2, 97, 0]⟩ := rfl
  rw [e4] at hc
  have hB := Below.on hb0 hb13
  clear HM e4 hr hr2 hL
  go_wp2_with fail
  refine Calls.mono HS.out ?_
  rintro e w4 ⟨rfl, hb4⟩
  replace hB := Below.on hB hb4
  clear HS
  go_wp2
  go_ret
  exact ⟨rfl, hB⟩

end Go.Proofs.Ytdeplfhkeneabaa
