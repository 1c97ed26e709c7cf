import Derived.Test.YtmfoenhbldacfaaQbc
/- The walk of the library's partition, at tags. -/
namespace Go.Proofs.Ytmfoenhbldacfaa
open Go.RowKit
open Go.Sort (swp PermIn SortedIn ltInt)
set_option linter.unusedVariables false

set_option maxRecDepth 100000 in
set_option maxHeartbeats 8000000 in
theorem part_any (g cap n a b p : Nat) (d : Array Int) (w0 w : World) (h : SW g cap w0 w d) (hap : a ≤ p) (hpb : p < b) (hbn : b ≤ d.size) (hn : d.size = n) (hn2 : n ≤ 1000) :
    Calls Try.prog 80 #[.slice (some ⟨g, 0, none⟩) n cap, .int .i64 a, .int .i64 b, .int .i64 p] w fun e w' => ∃ q : Nat, ∃ t : Bool, e = .returned (.tuple #[.int .i64 q, .bool t]) ∧ a ≤ q ∧ q < b ∧ ∃ d' : Array Int, PS (fun x => x < d[p]!) (fun x => d[p]! ≤ x) a b (q + 1) q (swp d a p) d' ∧ SW g cap w0 w' (swp d' q a) := by
  subst hn
  have hab0 : a < b := by omega
  have ia : (a : Int) < (d.size : Int) := by omega
  have ip : (p : Int) < (d.size : Int) := by omega
  go_enter Try.func80, Try.ntmps80
  go_upto_region 1 with fail
  go_cut [8] (fun v w' => v = .int .i64 0 ∧ SW g cap w0 w' (swp d a p))
  case first =>
    have ca := h.cell (j := a) (by omega)
    have fa := h.free a
    by_cases e : p = a
    · subst e
      have HSw : Hid (∀ m, SW g cap w0 (((w.drewN m).setCell ⟨g, p, none⟩ (.int .u64 d[p]!)).setCell ⟨g, p, none⟩ (.int .u64 d[p]!)) (swp d p p)) := fun m => (h.drewN m).swap p p
      clear h
      go_region
      all_goals
        go_wp2_with fail
        go_meet
        exact ⟨rfl, by first | exact HSw.out 1 | exact HSw.out _⟩
    · have cp := h.cell (j := p) (by omega)
      have fp := h.free p
      have HSw : Hid (∀ m, SW g cap w0 (((w.drewN m).setCell ⟨g, a, none⟩ (.int .u64 d[p]!)).setCell ⟨g, p, none⟩ (.int .u64 d[a]!)) (swp d a p)) := fun m => (h.drewN m).swap a p
      have e2 : ¬ a = p := fun h => e h.symm
      clear h
      go_region
      all_goals
        go_wp2_with fail
        go_meet
        exact ⟨rfl, by first | exact HSw.out 1 | exact HSw.out _⟩
  case rest =>
    obtain ⟨rfl, hS0⟩ := hcut
    clear h
    have hv : (swp d a p)[a]! = d[p]! := by
      by_cases e : a = p
      · subst e; rw [Sort.swp_right _ _ _ (by omega)]
      · rw [Sort.swp_left _ _ _ (by omega) e]
    have hsz : (swp d a p).size = d.size := Sort.size_swp _ _ _
    obtain ⟨d1, HD⟩ : ∃ d1, Hid (d1 = swp d a p) := ⟨_, rfl⟩
    obtain ⟨v, HVV⟩ : ∃ v, Hid (v = d[p]!) := ⟨_, rfl⟩
    rw [← HD.out] at hS0 hv hsz
    rw [← HVV.out] at hv
    clear hap hpb ip
    have HP : Hid (PS (fun x => x < v) (fun x => v ≤ x) a b (a + 1) (b - 1) d1 d1) := PS.start hab0 (by omega)
    have hva : Hid (d1[a]! = v) := hv
    have h1 : a + 1 ≤ a + 1 := Nat.le_refl _
    have h2 : a + 1 ≤ b - 1 + 1 := by omega
    have h3 : b - 1 + 1 ≤ b := by omega
    have hS := hS0
    clear hS0 hv
    obtain ⟨bm, hbm⟩ : ∃ bm, bm = b - 1 := ⟨_, rfl⟩
    have hbi : (b : Int) - 1 = (bm : Int) := by omega
    rw [← hbm] at HP h2 h3
    have hbm2 : bm + 1 ≤ b := h3
    have hbm3 : b ≤ bm + 1 := by omega
    clear hbm
    go_upto_block 0 with fail
    go_cut [10] (fun iv w' => ∃ i2 : Nat, iv = .int .i64 i2 ∧ a + 1 ≤ i2 ∧ a + 1 ≤ i2 ∧ i2 ≤ bm + 1 ∧ (i2 ≤ bm → ¬ d1[i2]! < v) ∧ SW g cap w0 w' d1 ∧ Hid (PS (fun x => x < v) (fun x => v ≤ x) a b i2 (bm) d1 d1))
    case first =>
      go_wp2_with fail
      go_loopw [10] (fun iv wr => ∃ i2 : Nat, iv = .int .i64 i2 ∧ a + 1 ≤ i2 ∧ a + 1 ≤ i2 ∧ i2 ≤ bm + 1 ∧ SW g cap w0 wr d1 ∧ Hid (PS (fun x => x < v) (fun x => v ≤ x) a b i2 (bm) d1 d1)) (fun iv _ => bm + 1 - (intOf iv).toNat)
      case atStart => exact ⟨a + 1, by go_num, Nat.le_refl _, h1, h2, hS, HP⟩
      case round =>
        clear hS HP
        obtain ⟨i2, rfl, k0, k1, k2, hS, HP⟩ := hrel
        have ca := hS.cell (j := a) (by omega)
        rw [hva.out] at ca
        by_cases hiq : i2 ≤ bm
        · have ci := hS.cell (j := i2) (by omega)
          have ii : (i2 : Int) < (d.size : Int) := by omega
          have g1 : decide ((i2 : Int) ≤ (bm : Int)) = true := by simp; omega
          obtain ⟨x, hx⟩ : ∃ x, x = d1[i2]! := ⟨_, rfl⟩
          rw [← hx] at ci
          by_cases hvx : x < v
          · have HP2 : Hid (PS (fun x => x < v) (fun x => v ≤ x) a b (i2 + 1) (bm) d1 d1) := HP.out.up hiq (by rw [← hx]; exact hvx)
            have gd : decide (x < v) = true := by simp [hvx]
            clear hx
            go_wp2_with fail
            go_quiet ((go_at_call 78; exact Calls.quiet_of_same (less_any _ _ _)))
            go_wp2_with fail
            go_roundw
            case rel => exact ⟨i2 + 1, rfl, by omega, by omega, by omega, hS.drewN _, HP2⟩
            case measure => simp only [intOf]; omega
          · have HX : Hid (¬ d1[i2]! < v) := by rw [Hid, ← hx]; exact hvx
            clear hx
            have gd : decide (x < v) = false := by simp; omega
            go_wp2_with fail
            go_quiet ((go_at_call 78; exact Calls.quiet_of_same (less_any _ _ _)))
            go_wp2_with fail
            go_meet
            exact ⟨i2, rfl, k0, k1, k2, fun _ => HX.out, hS.drewN _, HP⟩
        · have g1 : decide ((i2 : Int) ≤ (bm : Int)) = false := by simp; omega
          go_wp2_with fail
          go_quiet ((go_at_call 78; exact Calls.quiet_of_same (less_any _ _ _)))
          go_wp2_with fail
          go_meet
          exact ⟨i2, rfl, k0, k1, k2, fun h => absurd h hiq, hS.drewN _, HP⟩
    case rest =>
      clear hS HP
      obtain ⟨i2, rfl, k0, k1, k2, hx2, hS, HP⟩ := hcut
      have HI : Hid (i2 ≤ bm → ¬ d1[i2]! < v) := hx2
      clear hx2
      obtain ⟨wo, rfl⟩ : ∃ wo : World, wo = wc := ⟨_, rfl⟩
      go_upto_block 2 with fail
      go_cut [11] (fun jv w' => ∃ q2 : Nat, jv = .int .i64 q2 ∧ q2 ≤ bm ∧ i2 ≤ q2 + 1 ∧ (i2 ≤ q2 → d1[q2]! < v) ∧ SW g cap w0 w' d1 ∧ Hid (PS (fun x => x < v) (fun x => v ≤ x) a b i2 q2 d1 d1))
      case first =>
        go_wp2_with fail
        go_loopw [11] (fun jv wr => ∃ q2 : Nat, jv = .int .i64 q2 ∧ q2 ≤ bm ∧ i2 ≤ q2 + 1 ∧ SW g cap w0 wr d1 ∧ Hid (PS (fun x => x < v) (fun x => v ≤ x) a b i2 q2 d1 d1)) (fun jv _ => (intOf jv).toNat)
        case atStart => exact ⟨bm, rfl, Nat.le_refl _, k2, hS, HP⟩
        case round =>
          clear hS HP
          obtain ⟨q2, rfl, l0, l1, hS, HP⟩ := hrel
          have ca := hS.cell (j := a) (by omega)
          rw [hva.out] at ca
          by_cases hiq : i2 ≤ q2
          · obtain ⟨r, rfl⟩ : ∃ r, q2 = r + 1 := ⟨q2 - 1, by omega⟩
            have ci := hS.cell (j := r + 1) (by omega)
            have ii : (r : Int) + 1 < (d.size : Int) := by omega
            have g1 : decide ((i2 : Int) ≤ (r : Int) + 1) = true := by simp; omega
            obtain ⟨x, hx⟩ : ∃ x, x = d1[r + 1]! := ⟨_, rfl⟩
            rw [← hx] at ci
            by_cases hvx : x < v
            · have HX : Hid (d1[r + 1]! < v) := by rw [Hid, ← hx]; exact hvx
              have gd : decide (x < v) = true := by simp [hvx]
              clear hx
              go_wp2_with fail
              go_quiet ((go_at_call 78; exact Calls.quiet_of_same (less_any _ _ _)))
              go_wp2_with fail
              go_meet
              exact ⟨r + 1, by go_num, l0, l1, fun _ => HX.out, hS.drewN _, HP⟩
            · have HP2 : Hid (PS (fun x => x < v) (fun x => v ≤ x) a b i2 r d1 d1) := HP.out.down hiq (by rw [← hx]; exact Int.not_lt.1 hvx)
              have gd : decide (x < v) = false := by simp; omega
              clear hx
              go_wp2_with fail
              go_quiet ((go_at_call 78; exact Calls.quiet_of_same (less_any _ _ _)))
              go_wp2_with fail
              go_roundw
              case rel => exact ⟨r, by go_num, by omega, by omega, hS.drewN _, HP2⟩
              case measure => simp only [intOf]; omega
          · have g1 : decide ((i2 : Int) ≤ (q2 : Int)) = false := by simp; omega
            go_wp2_with fail
            go_quiet ((go_at_call 78; exact Calls.quiet_of_same (less_any _ _ _)))
            go_wp2_with fail
            go_meet
            exact ⟨q2, rfl, l0, l1, fun h => absurd h hiq, hS.drewN _, HP⟩
      case rest =>
        clear hS HP
        obtain ⟨q2, rfl, l0, l1, hx2, hS, HP⟩ := hcut
        have HJ : Hid (i2 ≤ q2 → d1[q2]! < v) := hx2
        clear hx2
        obtain ⟨wp, rfl⟩ : ∃ wp : World, wp = wc := ⟨_, rfl⟩
        by_cases hiq : i2 ≤ q2
        · have hne : i2 ≠ q2 := fun e => by
            have := HI.out (by omega); have := HJ.out hiq; subst e; contradiction
          obtain ⟨r, rfl⟩ : ∃ r, q2 = r + 1 := ⟨q2 - 1, by omega⟩
          have HP2 : Hid (PS (fun x => x < v) (fun x => v ≤ x) a b (i2 + 1) r d1 (swp d1 i2 (r + 1))) := HP.out.swap (by omega) (Int.not_lt.1 (HI.out (by omega))) (HJ.out hiq)
          have HV2 : Hid ((swp d1 i2 (r + 1))[a]! = v) := by rw [Hid, Sort.swp_other _ _ _ _ (by omega) (by omega)]; exact hva.out
          have ci := hS.cell (j := i2) (by omega)
          have cq := hS.cell (j := r + 1) (by omega)
          have fi := hS.free i2
          have fq := hS.free (r + 1)
          have ii : (i2 : Int) < (d.size : Int) := by omega
          have iq : (r : Int) + 1 < (d.size : Int) := by omega
          have e1 : ¬ i2 = r + 1 := hne
          have e2 : ¬ r + 1 = i2 := fun h => hne h.symm
          have g1 : decide ((r : Int) + 1 < (i2 : Int)) = false := by simp; omega
          have HSw : Hid (∀ m, SW g cap w0 (((wp.drewN m).setCell ⟨g, i2, none⟩ (.int .u64 d1[r + 1]!)).setCell ⟨g, r + 1, none⟩ (.int .u64 d1[i2]!)) (swp d1 i2 (r + 1))) := fun m => (hS.drewN m).swap i2 (r + 1)
          clear hS HP hne
          go_wp2_with fail
          go_region
          all_goals
            go_wp2_with fail
            go_loopw [10, 11] (fun iv jv wr => ∃ i q : Nat, ∃ d2 : Array Int, iv = .int .i64 i ∧ jv = .int .i64 q ∧ a + 1 ≤ i ∧ i ≤ q + 1 ∧ q + 1 ≤ b ∧ SW g cap w0 wr d2 ∧ d2.size = d.size ∧ Hid (d2[a]! = v) ∧ Hid (PS (fun x => x < v) (fun x => v ≤ x) a b i q d1 d2)) (fun iv jv _ => ((intOf jv).toNat + 1 - (intOf iv).toNat))
            case atStart => exact ⟨i2 + 1, r, swp d1 i2 (r + 1), by go_num, by go_num, by omega, by omega, by omega, by first | exact HSw.out 1 | exact HSw.out _, by rw [swp_size]; exact hsz, HV2, HP2⟩
            case round =>
              clear HSw HV2 HP2 hva HI HJ hiq k0 k1 k2 l0 l1 ci cq fi fq ii iq e1 e2 g1
              clear h1 h2 h3
              obtain ⟨i, q, d2, rfl, rfl, h1, h2, h3, hS, hd2, hva, HP⟩ := hrel
              go_upto_block 6 with fail
              go_cut [10] (fun iv w' => ∃ i2 : Nat, iv = .int .i64 i2 ∧ i ≤ i2 ∧ a + 1 ≤ i2 ∧ i2 ≤ q + 1 ∧ (i2 ≤ q → ¬ d2[i2]! < v) ∧ SW g cap w0 w' d2 ∧ Hid (PS (fun x => x < v) (fun x => v ≤ x) a b i2 (q) d1 d2))
              case first =>
                go_wp2_with fail
                go_loopw [10] (fun iv wr => ∃ i2 : Nat, iv = .int .i64 i2 ∧ i ≤ i2 ∧ a + 1 ≤ i2 ∧ i2 ≤ q + 1 ∧ SW g cap w0 wr d2 ∧ Hid (PS (fun x => x < v) (fun x => v ≤ x) a b i2 (q) d1 d2)) (fun iv _ => q + 1 - (intOf iv).toNat)
                case atStart => exact ⟨i, rfl, Nat.le_refl _, h1, h2, hS, HP⟩
                case round =>
                  clear hS HP
                  obtain ⟨i2, rfl, k0, k1, k2, hS, HP⟩ := hrel
                  have ca := hS.cell (j := a) (by omega)
                  rw [hva.out] at ca
                  by_cases hiq : i2 ≤ q
                  · have ci := hS.cell (j := i2) (by omega)
                    have ii : (i2 : Int) < (d.size : Int) := by omega
                    have g1 : decide ((i2 : Int) ≤ (q : Int)) = true := by simp; omega
                    obtain ⟨x, hx⟩ : ∃ x, x = d2[i2]! := ⟨_, rfl⟩
                    rw [← hx] at ci
                    by_cases hvx : x < v
                    · have HP2 : Hid (PS (fun x => x < v) (fun x => v ≤ x) a b (i2 + 1) (q) d1 d2) := HP.out.up hiq (by rw [← hx]; exact hvx)
                      have gd : decide (x < v) = true := by simp [hvx]
                      clear hx
                      go_wp2_with fail
                      go_quiet ((go_at_call 78; exact Calls.quiet_of_same (less_any _ _ _)))
                      go_wp2_with fail
                      go_roundw
                      case rel => exact ⟨i2 + 1, rfl, by omega, by omega, by omega, hS.drewN _, HP2⟩
                      case measure => simp only [intOf]; omega
                    · have HX : Hid (¬ d2[i2]! < v) := by rw [Hid, ← hx]; exact hvx
                      clear hx
                      have gd : decide (x < v) = false := by simp; omega
                      go_wp2_with fail
                      go_quiet ((go_at_call 78; exact Calls.quiet_of_same (less_any _ _ _)))
                      go_wp2_with fail
                      go_meet
                      exact ⟨i2, rfl, k0, k1, k2, fun _ => HX.out, hS.drewN _, HP⟩
                  · have g1 : decide ((i2 : Int) ≤ (q : Int)) = false := by simp; omega
                    go_wp2_with fail
                    go_quiet ((go_at_call 78; exact Calls.quiet_of_same (less_any _ _ _)))
                    go_wp2_with fail
                    go_meet
                    exact ⟨i2, rfl, k0, k1, k2, fun h => absurd h hiq, hS.drewN _, HP⟩
              case rest =>
                clear hS HP
                obtain ⟨i2, rfl, k0, k1, k2, hx2, hS, HP⟩ := hcut
                have HI : Hid (i2 ≤ q → ¬ d2[i2]! < v) := hx2
                clear hx2
                obtain ⟨wo, rfl⟩ : ∃ wo : World, wo = wc := ⟨_, rfl⟩
                go_upto_block 8 with fail
                go_cut [11] (fun jv w' => ∃ q2 : Nat, jv = .int .i64 q2 ∧ q2 ≤ q ∧ i2 ≤ q2 + 1 ∧ (i2 ≤ q2 → d2[q2]! < v) ∧ SW g cap w0 w' d2 ∧ Hid (PS (fun x => x < v) (fun x => v ≤ x) a b i2 q2 d1 d2))
                case first =>
                  go_wp2_with fail
                  go_loopw [11] (fun jv wr => ∃ q2 : Nat, jv = .int .i64 q2 ∧ q2 ≤ q ∧ i2 ≤ q2 + 1 ∧ SW g cap w0 wr d2 ∧ Hid (PS (fun x => x < v) (fun x => v ≤ x) a b i2 q2 d1 d2)) (fun jv _ => (intOf jv).toNat)
                  case atStart => exact ⟨q, rfl, Nat.le_refl _, k2, hS, HP⟩
                  case round =>
                    clear hS HP
                    obtain ⟨q2, rfl, l0, l1, hS, HP⟩ := hrel
                    have ca := hS.cell (j := a) (by omega)
                    rw [hva.out] at ca
                    by_cases hiq : i2 ≤ q2
                    · obtain ⟨r, rfl⟩ : ∃ r, q2 = r + 1 := ⟨q2 - 1, by omega⟩
                      have ci := hS.cell (j := r + 1) (by omega)
                      have ii : (r : Int) + 1 < (d.size : Int) := by omega
                      have g1 : decide ((i2 : Int) ≤ (r : Int) + 1) = true := by simp; omega
                      obtain ⟨x, hx⟩ : ∃ x, x = d2[r + 1]! := ⟨_, rfl⟩
                      rw [← hx] at ci
                      by_cases hvx : x < v
                      · have HX : Hid (d2[r + 1]! < v) := by rw [Hid, ← hx]; exact hvx
                        have gd : decide (x < v) = true := by simp [hvx]
                        clear hx
                        go_wp2_with fail
                        go_quiet ((go_at_call 78; exact Calls.quiet_of_same (less_any _ _ _)))
                        go_wp2_with fail
                        go_meet
                        exact ⟨r + 1, by go_num, l0, l1, fun _ => HX.out, hS.drewN _, HP⟩
                      · have HP2 : Hid (PS (fun x => x < v) (fun x => v ≤ x) a b i2 r d1 d2) := HP.out.down hiq (by rw [← hx]; exact Int.not_lt.1 hvx)
                        have gd : decide (x < v) = false := by simp; omega
                        clear hx
                        go_wp2_with fail
                        go_quiet ((go_at_call 78; exact Calls.quiet_of_same (less_any _ _ _)))
                        go_wp2_with fail
                        go_roundw
                        case rel => exact ⟨r, by go_num, by omega, by omega, hS.drewN _, HP2⟩
                        case measure => simp only [intOf]; omega
                    · have g1 : decide ((i2 : Int) ≤ (q2 : Int)) = false := by simp; omega
                      go_wp2_with fail
                      go_quiet ((go_at_call 78; exact Calls.quiet_of_same (less_any _ _ _)))
                      go_wp2_with fail
                      go_meet
                      exact ⟨q2, rfl, l0, l1, fun h => absurd h hiq, hS.drewN _, HP⟩
                case rest =>
                  clear hS HP
                  obtain ⟨q2, rfl, l0, l1, hx2, hS, HP⟩ := hcut
                  have HJ : Hid (i2 ≤ q2 → d2[q2]! < v) := hx2
                  clear hx2
                  obtain ⟨wp, rfl⟩ : ∃ wp : World, wp = wc := ⟨_, rfl⟩
                  by_cases hiq : i2 ≤ q2
                  · have hne : i2 ≠ q2 := fun e => by
                      have := HI.out (by omega); have := HJ.out hiq; subst e; contradiction
                    obtain ⟨r, rfl⟩ : ∃ r, q2 = r + 1 := ⟨q2 - 1, by omega⟩
                    have HP2 : Hid (PS (fun x => x < v) (fun x => v ≤ x) a b (i2 + 1) r d1 (swp d2 i2 (r + 1))) := HP.out.swap (by omega) (Int.not_lt.1 (HI.out (by omega))) (HJ.out hiq)
                    have HV2 : Hid ((swp d2 i2 (r + 1))[a]! = v) := by rw [Hid, Sort.swp_other _ _ _ _ (by omega) (by omega)]; exact hva.out
                    have ci := hS.cell (j := i2) (by omega)
                    have cq := hS.cell (j := r + 1) (by omega)
                    have fi := hS.free i2
                    have fq := hS.free (r + 1)
                    have ii : (i2 : Int) < (d.size : Int) := by omega
                    have iq : (r : Int) + 1 < (d.size : Int) := by omega
                    have e1 : ¬ i2 = r + 1 := hne
                    have e2 : ¬ r + 1 = i2 := fun h => hne h.symm
                    have g1 : decide ((r : Int) + 1 < (i2 : Int)) = false := by simp; omega
                    have HSw : Hid (∀ m, SW g cap w0 (((wp.drewN m).setCell ⟨g, i2, none⟩ (.int .u64 d2[r + 1]!)).setCell ⟨g, r + 1, none⟩ (.int .u64 d2[i2]!)) (swp d2 i2 (r + 1))) := fun m => (hS.drewN m).swap i2 (r + 1)
                    clear hS HP hne
                    go_wp2_with fail
                    go_region
                    all_goals
                      go_wp2_with fail
                      go_roundw
                      case rel => exact ⟨i2 + 1, r, swp d2 i2 (r + 1), by go_num, by go_num, by omega, by omega, by omega, by first | exact HSw.out 1 | exact HSw.out _, by rw [swp_size]; exact hd2, HV2, HP2⟩
                      case measure => simp only [intOf]; omega
                  · have g1 : decide ((q2 : Int) < (i2 : Int)) = true := by simp; omega
                    have ca := hS.cell (j := a) (by omega)
                    have fa := hS.free a
                    have hq2 : q2 + 1 = i2 := by omega
                    have HPe : Hid (PS (fun x => x < v) (fun x => v ≤ x) a b (q2 + 1) q2 d1 d2) := by rw [hq2]; exact HP.out
                    have ha2 : a ≤ q2 := by omega
                    have hb2 : q2 < b := by omega
                    have e0 : ¬ i2 ≤ q2 := hiq
                    clear hq2 HP
                    by_cases e : q2 = a
                    · subst e
                      have HSw : Hid (∀ m, SW g cap w0 (((wp.drewN m).setCell ⟨g, q2, none⟩ (.int .u64 d2[q2]!)).setCell ⟨g, q2, none⟩ (.int .u64 d2[q2]!)) (swp d2 q2 q2)) := fun m => (hS.drewN m).swap q2 q2
                      clear hS
                      go_wp2_with fail
                      go_region
                      all_goals
                        go_wp2_with fail
                        go_ret2
                        exact ⟨q2, false, rfl, by omega, by omega, d2, by rw [← HD.out, ← HVV.out]; exact HPe.out, by first | exact HSw.out 1 | exact HSw.out _⟩
                    · have cq := hS.cell (j := q2) (by omega)
                      have fq := hS.free q2
                      have iq : (q2 : Int) < (d.size : Int) := by omega
                      have e2 : ¬ a = q2 := fun h => e h.symm
                      have HSw : Hid (∀ m, SW g cap w0 (((wp.drewN m).setCell ⟨g, q2, none⟩ (.int .u64 d2[a]!)).setCell ⟨g, a, none⟩ (.int .u64 d2[q2]!)) (swp d2 q2 a)) := fun m => (hS.drewN m).swap q2 a
                      clear hS
                      go_wp2_with fail
                      go_region
                      all_goals
                        go_wp2_with fail
                        go_ret2
                        exact ⟨q2, false, rfl, by omega, by omega, d2, by rw [← HD.out, ← HVV.out]; exact HPe.out, by first | exact HSw.out 1 | exact HSw.out _⟩
        · have g1 : decide ((q2 : Int) < (i2 : Int)) = true := by simp; omega
          have ca := hS.cell (j := a) (by omega)
          have fa := hS.free a
          have hq2 : q2 + 1 = i2 := by omega
          have HPe : Hid (PS (fun x => x < v) (fun x => v ≤ x) a b (q2 + 1) q2 d1 d1) := by rw [hq2]; exact HP.out
          have ha2 : a ≤ q2 := by omega
          have hb2 : q2 < b := by omega
          have e0 : ¬ i2 ≤ q2 := hiq
          clear hq2 HP
          by_cases e : q2 = a
          · subst e
            have HSw : Hid (∀ m, SW g cap w0 (((wp.drewN m).setCell ⟨g, q2, none⟩ (.int .u64 d1[q2]!)).setCell ⟨g, q2, none⟩ (.int .u64 d1[q2]!)) (swp d1 q2 q2)) := fun m => (hS.drewN m).swap q2 q2
            clear hS
            go_wp2_with fail
            go_region
            all_goals
              go_wp2_with fail
              go_ret2
              exact ⟨q2, true, rfl, by omega, by omega, d1, by rw [← HD.out, ← HVV.out]; exact HPe.out, by first | exact HSw.out 1 | exact HSw.out _⟩
          · have cq := hS.cell (j := q2) (by omega)
            have fq := hS.free q2
            have iq : (q2 : Int) < (d.size : Int) := by omega
            have e2 : ¬ a = q2 := fun h => e h.symm
            have HSw : Hid (∀ m, SW g cap w0 (((wp.drewN m).setCell ⟨g, q2, none⟩ (.int .u64 d1[a]!)).setCell ⟨g, a, none⟩ (.int .u64 d1[q2]!)) (swp d1 q2 a)) := fun m => (hS.drewN m).swap q2 a
            clear hS
            go_wp2_with fail
            go_region
            all_goals
              go_wp2_with fail
              go_ret2
              exact ⟨q2, true, rfl, by omega, by omega, d1, by rw [← HD.out, ← HVV.out]; exact HPe.out, by first | exact HSw.out 1 | exact HSw.out _⟩

end Go.Proofs.Ytmfoenhbldacfaa
