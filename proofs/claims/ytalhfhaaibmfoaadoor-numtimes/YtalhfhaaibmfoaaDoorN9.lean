/- The walk of NumTimes. -/
import Derived.Test.YtalhfhaaibmfoaaDoorN6
import Derived.Deep.CutBlock
import Derived.Deep.DeepCutAuto
namespace Go.Proofs.YtalhfhaaibmfoaaDoor
open Go.RowKit
set_option linter.unusedVariables false

/-- What runs over at fewer times runs over at more. -/
theorem times_over {a : Int} {j k : Nat} (h : ¬ Fits ((j : Int) * a)) (hk : j ≤ k) : ¬ Fits ((k : Int) * a) := by
  obtain ⟨d, rfl⟩ := Nat.exists_eq_add_of_le hk
  intro hf
  apply h
  have e : ((j + d : Nat) : Int) * a = (j : Int) * a + (d : Int) * a := by rw [Int.natCast_add, Int.add_mul]
  rw [e] at hf
  rcases Int.le_total 0 a with h0 | h0
  · have h1 : 0 ≤ (j : Int) * a := Int.mul_nonneg (by omega) h0
    have h2 : 0 ≤ (d : Int) * a := Int.mul_nonneg (by omega) h0
    unfold Fits at *
    omega
  · have h1 : (j : Int) * a ≤ 0 := Int.mul_nonpos_of_nonneg_of_nonpos (by omega) h0
    have h2 : (d : Int) * a ≤ 0 := Int.mul_nonpos_of_nonneg_of_nonpos (by omega) h0
    unfold Fits at *
    omega
theorem times_succ (a : Int) (j : Nat) : ((j + 1 : Nat) : Int) * a = (j : Int) * a + a := by rw [Int.natCast_add, Int.add_mul]; omega
theorem nV_in {z : Int} (h : Fits z) : nV z = z := by rw [nV, if_pos h]
theorem nV_out {z : Int} (h : ¬ Fits z) : nV z = 0 := by rw [nV, if_neg h]
theorem nE_in {z : Int} (h : Fits z) : nE z = 0 := by rw [nE, if_pos h]
theorem nE_out {z : Int} (h : ¬ Fits z) : nE z = 8 := by rw [nE, if_neg h]
theorem fits_none (a : Int) : Fits (((0 : Nat) : Int) * a) := by rw [show (((0 : Nat) : Int) * a) = 0 from by simp]; decide
/-- Does it run over? -/
def ovr (z : Int) : Bool := decide (¬ Fits z)
theorem ovr_in {z : Int} (h : Fits z) : ovr z = false := decide_eq_false fun k => k h
theorem ovr_out {z : Int} (h : ¬ Fits z) : ovr z = true := decide_eq_true h
theorem nE_ovr (z : Int) : (nE z != 0) = ovr z := by
  by_cases h : Fits z
  · rw [nE_in h, ovr_in h]; rfl
  · rw [nE_out h, ovr_out h]; rfl

set_option maxRecDepth 100000 in
set_option maxHeartbeats 1000000 in
theorem numTimes_any (B : Nat) (a n : Int) (ha : Fits a) (hn : 0 ≤ n ∧ n ≤ 255) (w : World) (hB : B ≤ w.heap.size) (ht : Tab B w) : Calls Tryd.prog 6 #[.int .i64 a, .int .u8 n] w fun e w' => e = .returned (.bool true) ∧ Below B w w' := by
  have H0 : Hid _ := begun_any B w hB ht
  obtain ⟨n1, n2⟩ := hn
  obtain ⟨K, hK⟩ : ∃ K : Nat, n % 100 = (K : Int) := ⟨(n % 100).toNat, by omega⟩
  have hK99 : K ≤ 99 := by omega
  have HA : Hid _ := ha
  clear ha ht
  go_enter Tryd.func6, Tryd.ntmps6
  go_wp2_with fail
  refine Calls.mono H0.out ?_
  rintro e w1 ⟨rfl, hb1⟩
  clear H0
  go_upto_block 0 with fail
  go_cut [6, 7, 8, 9, 10] (fun v6 v7 v8 v9 v10 w' => v6 = .int .i64 (nV ((K : Int) * a)) ∧ v7 = .bool (ovr ((K : Int) * a)) ∧ w' = w1)
  case first =>
    go_wp2_with fail
    go_loopw [6, 7, 8] (fun v6 v7 v8 wr => ∃ j : Nat, j ≤ K ∧ v8 = .int .i64 j ∧ v6 = .int .i64 (nV ((j : Int) * a)) ∧ v7 = .bool (ovr ((j : Int) * a)) ∧ wr = w1) (fun _ _ v8 _ => K - (intOf v8).toNat)
    case atStart => exact ⟨0, by omega, rfl, by rw [nV_in (fits_none a)]; simp, by rw [ovr_in (fits_none a)], rfl⟩
    case round =>
      obtain ⟨j, hj, rfl, rfl, rfl, rfl⟩ := hrel
      by_cases hf : Fits ((j : Int) * a)
      · rw [nV_in hf, ovr_in hf]
        by_cases hlt : j < K
        · have HAdd : Hid _ := Add_any ((j : Int) * a) a hf HA.out wr
          rw [← times_succ a j] at HAdd
          unfold nA at HAdd
          have ho : Hid _ := nE_ovr (((j + 1 : Nat) : Int) * a)
          have hK' : Hid _ := hK
          clear hf hK
          generalize hz : (j : Int) * a = z at *
          generalize hy : ((j + 1 : Nat) : Int) * a = y at *
          replace hz : Hid _ := hz
          replace hy : Hid _ := hy
          go_wp2_with fail
          refine Calls.mono HAdd.out ?_
          rintro e w2 ⟨rfl, rfl⟩
          clear HAdd
          go_wp2
          go_roundw
          case rel => exact ⟨j + 1, by omega, by go_num, by rw [hy.out], by rw [hy.out, ho.out], trivial⟩
          case measure => simp only [intOf]; omega
        · obtain rfl : j = K := by omega
          have hin : Hid _ := nV_in hf
          have hov : Hid _ := ovr_in hf
          have hK' : Hid _ := hK
          generalize hz : (j : Int) * a = z at *
          replace hz : Hid _ := hz
          clear hf hK
          go_wp2_with fail
          go_meet
          exact ⟨by rw [hin.out], by rw [hov.out], rfl⟩
      · have hk := times_over hf hj
        rw [nV_out hf, ovr_out hf]
        replace hk : Hid _ := hk
        have hK' : Hid _ := hK
        clear hf hK
        go_wp2_with fail
        all_goals go_meet
        all_goals exact ⟨by rw [nV_out hk.out], by rw [ovr_out hk.out], rfl⟩
  case rest =>
    obtain ⟨rfl, rfl, rfl⟩ := hcut
    have HM : Hid (∀ w, _) := fun w => Mul_any a K HA.out (by unfold Fits; omega) w
    have HM' : Hid (∀ w, _) := fun w => Mul_any a (-(K : Int)) HA.out (by unfold Fits; omega) w
    rw [Int.mul_comm a (K : Int)] at HM
    rw [Int.mul_neg, Int.mul_comm a (K : Int)] at HM'
    generalize (K : Int) * a = t at *
    by_cases hf : Fits t
    · rw [nV_in hf, ovr_in hf]
      rw [nA_in hf] at HM
      have HN : Hid (∀ w, _) := fun w => Neg_any t hf w
      by_cases hf' : Fits (-t)
      · rw [nA_in hf'] at HM' HN
        clear hf hf'
        go_wp2_with fail
        refine Calls.mono (HM.out _) ?_
        rintro e w2 ⟨rfl, rfl⟩
        go_wp2_with fail
        refine Calls.mono (HM'.out _) ?_
        rintro e w2 ⟨rfl, rfl⟩
        go_wp2_with fail
        refine Calls.mono (HN.out _) ?_
        rintro e w2 ⟨rfl, rfl⟩
        clear HM HM' HN
        go_wp2
        go_ret
        exact ⟨rfl, hb1⟩
      · rw [nA_out hf'] at HM' HN
        clear hf hf'
        go_wp2_with fail
        refine Calls.mono (HM.out _) ?_
        rintro e w2 ⟨rfl, rfl⟩
        go_wp2_with fail
        refine Calls.mono (HM'.out _) ?_
        rintro e w2 ⟨rfl, rfl⟩
        go_wp2_with fail
        refine Calls.mono (HN.out _) ?_
        rintro e w2 ⟨rfl, rfl⟩
        clear HM HM' HN
        go_wp2
        go_ret
        exact ⟨rfl, hb1⟩
    · rw [nV_out hf, ovr_out hf]
      rw [nA_out hf] at HM
      obtain ⟨x, y, exy⟩ : ∃ x y : Int, nA (-t) = .tuple #[.int .i64 x, .int .i64 y] := ⟨_, _, rfl⟩
      rw [exy] at HM'
      clear hf exy
      go_wp2_with fail
      refine Calls.mono (HM.out _) ?_
      rintro e w2 ⟨rfl, rfl⟩
      go_wp2_with fail
      refine Calls.mono (HM'.out _) ?_
      rintro e w2 ⟨rfl, rfl⟩
      clear HM HM'
      go_wp2
      go_ret
      exact ⟨rfl, hb1⟩
end Go.Proofs.YtalhfhaaibmfoaaDoor
