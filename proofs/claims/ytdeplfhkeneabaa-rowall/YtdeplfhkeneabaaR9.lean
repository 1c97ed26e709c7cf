/- The walk of RowAll. -/
import Derived.Test.YtdeplfhkeneabaaR8
namespace Go.Proofs.Ytdeplfhkeneabaa
open Go.RowKit
set_option linter.unusedVariables false

theorem light_sized {l : List Vl} (h : lightB l = true) : l.length ≤ 20 := (lightB_iff.1 h).1

set_option maxRecDepth 100000 in
set_option maxHeartbeats 4000000 in
theorem rowAll_any (ao : Option Addr) (n c : Nat) (vs : List Vl) (bo : Option Addr) (m d : Nat) (bs : List Int) (w : World) (h : RdV w ao n c vs) (hs : Sized vs) (hf : Fit vs) (k : Rd .u8 w bo m d bs) (hu : U8 bs) :
    Calls Try.prog 3 #[.slice ao n c, .slice bo m d] w fun e w' => e = .returned (.bool true) ∧ Below w.heap.size w w' := by
  have H0 : Hid _ := begun_any w
  have HG : Hid (∀ w', Below w.heap.size w w' → _) := fun w' hb => light_any ao n c vs w' (h.later hb) hs
  have hmd := k.cap
  have hdm := k.max
  go_enter Try.func3, Try.ntmps3
  go_wp2_with fail
  refine Calls.mono H0.out ?_
  rintro e w1 ⟨rfl, hb1⟩
  clear H0
  cases el : lightB vs with
  | false =>
    rw [el] at HG
    go_wp2_with fail
    refine Calls.mono (HG.out _ hb1) ?_
    rintro e w2 ⟨rfl, rfl⟩
    clear HG el h k
    go_wp2
    go_ret
    exact ⟨rfl, hb1⟩
  | true =>
    rw [el] at HG
    by_cases h500 : 500 < m
    · have g : decide ((500 : Int) < (m : Int)) = true := by simp; omega
      go_wp2_with fail
      refine Calls.mono (HG.out _ hb1) ?_
      rintro e w2 ⟨rfl, rfl⟩
      clear HG el h k
      go_wp2
      go_ret
      exact ⟨rfl, hb1⟩
    · have g : decide ((500 : Int) < (m : Int)) = false := by simp; omega
      have HT : Hid (∀ w', Below w.heap.size w w' → _) := fun w' hb => takeRow_any bo m d bs w' (k.later hb) hu
      have HR : Hid (∀ w', Below w.heap.size w w' → _) := fun w' hb => refTakeRow_any bo m d bs w' (k.later hb) hu
      have HM : Hid (∀ w', Below w.heap.size w w' → _) := fun w' hb => mayRow_any ao n c vs w' (h.later hb) hs
      have HM2 : Hid (∀ w', Below w.heap.size w w' → _) := fun w' hb => refMayRow_any ao n c vs w' (h.later hb) hs
      have HP : Hid (∀ w', Below w.heap.size w w' → _) := fun w' hb => put_any ao n c vs w' (h.later hb) hs hf
      have HP2 : Hid (∀ w', Below w.heap.size w w' → _) := fun w' hb => refPut_any ao n c vs w' (h.later hb) hs hf
      clear h k el hs hf hu
      generalize rowE bs = E at *
      generalize rowV bs = V at *
      generalize mayR vs = M at *
      generalize putL vs = L at *
      go_wp2_with fail
      refine Calls.mono (HG.out _ hb1) ?_
      rintro e w2 ⟨rfl, rfl⟩
      clear HG
      go_wp2_with fail
      refine Calls.mono (HT.out _ hb1) ?_
      rintro e w3 ⟨o3, p3, q3, rfl, hr3, hb3⟩
      have hB3 := Below.on hb1 hb3
      clear HT hb1
      go_wp2_with fail
      refine Calls.mono (HR.out _ hB3) ?_
      rintro e w4 ⟨o4, p4, q4, rfl, hr4, hb4⟩
      have hB4 := Below.on hB3 hb4
      replace hr3 := hr3.later hb4
      clear HR hB3 hb3 hb4
      go_wp2_with fail
      have hC : Below w4.heap.size w4 w4.drew := (Below.refl _ _).drew
      have HSm : Hid (∀ w', Below w4.heap.size w4 w' → _) := fun w' hb => sameRow_any o3 o4 p3 q3 p4 q4 V V w' (hr3.later hb) (hr4.later hb)
      rw [decide_eq_true rfl] at HSm
      have hN := hB4
      clear hr3 hr4
      go_region_held (fun w' => True) (trivial) (first
        | (go_at_call 10; refine Calls.mono (HM.out _ (Below.on hB4 hC)) ?_; rintro e y ⟨rfl, hby⟩; replace hC := Below.on hC hby)
        | (go_at_call 11; refine Calls.mono (HM2.out _ (Below.on hB4 hC)) ?_; rintro e y ⟨rfl, hby⟩; replace hC := Below.on hC hby)
        | (go_at_call 12; refine Calls.mono (HP.out _ (Below.on hB4 hC)) ?_; rintro e y ⟨oA, pA, qA, rfl, hrA, hby⟩; replace hC := Below.on hC hby; have cA := conv_all hrA)
        | (go_at_call 13; refine Calls.mono (HP2.out _ (Below.on hB4 hC)) ?_; rintro e y ⟨oB, pB, qB, rfl, hrB, hby⟩; replace hC := Below.on hC hby; have cB := conv_all hrB; have cA2 := conv_all (hrA.later hby))
        | (go_at_call 14; refine Calls.mono (HSm.out _ hC) ?_; rintro e y ⟨rfl, hby⟩; replace hC := Below.on hC hby))
      all_goals
        go_wp2
        go_ret
        exact ⟨rfl, Below.on hB4 hC⟩

end Go.Proofs.Ytdeplfhkeneabaa
