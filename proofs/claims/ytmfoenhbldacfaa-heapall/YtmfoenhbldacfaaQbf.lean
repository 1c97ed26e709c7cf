import Derived.Test.YtmfoenhbldacfaaQbe
/- The walks of the library's partialInsertionSort and reverseRange. -/
namespace Go.Proofs.Ytmfoenhbldacfaa
open Go.RowKit
open Go.Sort (swp PermIn SortedIn ltInt)
set_option linter.unusedVariables false

theorem BelowI.perm {a b : Nat} {d d' : Array Int} (h : BelowI a b d) (hp : PermIn a b d d') (hs : b ≤ d.size) : BelowI a b d' := by
  intro i h1 h2 h3
  rw [hp.2.1 (a - 1) (.inl (by omega))]
  exact Sort.permIn_all d d' a b (fun x => d[a - 1]! ≤ x) hs hp (fun k k1 k2 => h k k1 k2 h3) i h1 h2

theorem permSwp {a b i j : Nat} {d d1 : Array Int} (hp : PermIn a b d d1) (h1 : a ≤ i) (h2 : i < b) (h3 : a ≤ j) (h4 : j < b) (hs : b ≤ d1.size) : PermIn a b d (swp d1 i j) :=
  Sort.permIn_trans _ _ _ _ _ hp (Sort.swp_permIn _ _ _ _ _ h1 h2 h3 h4 hs)

theorem ins_begin {a q : Nat} {d : Array Int} (h : SortedIn ltInt a (q + 1) d) (hq : q + 1 < d.size) : Sort.Ins ltInt a q q (swp d (q + 1) q) := by
  refine ⟨fun p p' h1 h2 h3 h4 h5 => ?_, fun p h1 h2 => by omega⟩
  rw [Sort.swp_other _ _ _ _ (by omega) (by omega), Sort.swp_other _ _ _ _ (by omega) (by omega)]
  exact h p p' h1 h2 (by omega)

theorem sorted_swp {a b i j : Nat} {d : Array Int} (h : SortedIn ltInt a b d) (h1 : b ≤ i) (h2 : b ≤ j) : SortedIn ltInt a b (swp d i j) := by
  intro p p' h3 h4 h5
  rw [Sort.swp_other _ _ _ _ (by omega) (by omega), Sort.swp_other _ _ _ _ (by omega) (by omega)]
  exact h p p' h3 h4 h5

set_option maxRecDepth 100000 in
set_option maxHeartbeats 4000000 in
theorem rev_any (g cap n a b : Nat) (d : Array Int) (w0 w : World) (h : SW g cap w0 w d) (hab : a < b) (hbn : b ≤ d.size) (hn : d.size = n) (hn2 : n ≤ 1000) :
    Calls Try.prog 76 #[.slice (some ⟨g, 0, none⟩) n cap, .int .i64 a, .int .i64 b] w fun e w' => e = .returned (.tuple #[]) ∧ ∃ d' : Array Int, PermIn a b d d' ∧ SW g cap w0 w' d' := by
  subst hn
  obtain ⟨b, rfl⟩ : ∃ c, b = c + 1 := ⟨b - 1, by omega⟩
  go_enter Try.func76, Try.ntmps76
  go_wp2
  go_loopw [6, 7] (fun iv jv wr => ∃ i j : Nat, ∃ d1 : Array Int, iv = .int .i64 i ∧ jv = .int .i64 j ∧ a ≤ i ∧ j < b + 1 ∧ i ≤ j + 1 ∧ SW g cap w0 wr d1 ∧ d1.size = d.size ∧ Hid (PermIn a (b + 1) d d1)) (fun iv jv _ => (intOf jv).toNat + 1 - (intOf iv).toNat)
  case atStart => exact ⟨a, b, d, rfl, by go_num, Nat.le_refl _, by omega, by omega, h, rfl, Sort.permIn_refl _ _ _⟩
  case round =>
    obtain ⟨i, j, d1, rfl, rfl, h1, h2, h3, hS, hd1, HP⟩ := hrel
    clear h
    by_cases hij : i < j
    · obtain ⟨k, rfl⟩ : ∃ k, j = k + 1 := ⟨j - 1, by omega⟩
      have c1 := hS.cell (j := i) (by omega)
      have c0 := hS.cell (j := k + 1) (by omega)
      have f1 := hS.free i
      have f0 := hS.free (k + 1)
      have i1 : (i : Int) < (d.size : Int) := by omega
      have i0 : (k : Int) + 1 < (d.size : Int) := by omega
      have e1 : ¬ i = k + 1 := by omega
      have e2 : ¬ k + 1 = i := by omega
      have HSw : Hid (∀ m, SW g cap w0 (((wr.drewN m).setCell ⟨g, i, none⟩ (.int .u64 d1[k + 1]!)).setCell ⟨g, k + 1, none⟩ (.int .u64 d1[i]!)) (swp d1 i (k + 1))) := fun m => (hS.drewN m).swap i (k + 1)
      have HP2 : Hid (PermIn a (b + 1) d (swp d1 i (k + 1))) := permSwp HP.out h1 (by omega) (by omega) h2 (by omega)
      clear hS HP
      go_wp2_with fail
      go_region
      all_goals
        go_wp2_with fail
        go_roundw
        case rel => exact ⟨i + 1, k, swp d1 i (k + 1), by go_num, by go_num, by omega, by omega, by omega, by first | exact HSw.out 1 | exact HSw.out _, by rw [swp_size]; exact hd1, HP2⟩
        case measure => simp only [intOf]; omega
    · have g1 : decide ((i : Int) < (j : Int)) = false := by simp; omega
      go_wp2_with fail
      go_end0
      exact ⟨rfl, d1, HP.out, hS⟩

set_option maxRecDepth 100000 in
set_option maxHeartbeats 8000000 in
theorem partial_any (g cap n a b l : Nat) (d : Array Int) (w0 w : World) (h : SW g cap w0 w d) (hl : 1 ≤ l) (hl2 : l ≤ 200) (hb : b ≤ a + l) (hb2 : a + l ≤ b) (hbn : b ≤ d.size) (hn : d.size = n) (hn2 : n ≤ 1000) (hbe : BelowI a b d) :
    Calls Try.prog 77 #[.slice (some ⟨g, 0, none⟩) n cap, .int .i64 a, .int .i64 b] w fun e w' => ∃ t : Bool, ∃ d' : Array Int, e = .returned (.bool t) ∧ PermIn a b d d' ∧ (t = true → SortedIn ltInt a b d') ∧ SW g cap w0 w' d' := by
  subst hn
  have hba : (b : Int) - (a : Int) = (l : Int) := by omega
  have HB : Hid (BelowI a b d) := hbe
  clear hbe
  go_enter Try.func77, Try.ntmps77
  go_wp2
  go_loopw [7, 8] (fun iv jv wr => ∃ i jj : Nat, ∃ d1 : Array Int, a + 1 ≤ i ∧ i ≤ b ∧ jj ≤ 5 ∧ iv = .int .i64 i ∧ jv = .int .i64 jj ∧ SW g cap w0 wr d1 ∧ d1.size = d.size ∧ Hid (PermIn a b d d1) ∧ Hid (SortedIn ltInt a i d1)) (fun iv jv _ => 5 - (intOf jv).toNat)
  case atStart => exact ⟨a + 1, 0, d, Nat.le_refl _, by omega, by omega, by go_num, rfl, h, rfl, Sort.permIn_refl _ _ _, fun i j h1 h2 h3 => by omega⟩
  case round =>
    obtain ⟨i0, jj, d1, hi0, hi0b, hjj5, rfl, rfl, hS0, hd1, HP, HO0⟩ := hrel
    clear h
    by_cases hjj : jj < 5
    · have gj : decide ((jj : Int) < 5) = true := by simp; omega
      go_wp2
      go_loopw [7] (fun iv wr => ∃ i : Nat, a + 1 ≤ i ∧ i ≤ b ∧ iv = .int .i64 i ∧ SW g cap w0 wr d1 ∧ Hid (SortedIn ltInt a i d1)) (fun iv _ => b - (intOf iv).toNat)
      case atStart => exact ⟨i0, hi0, hi0b, rfl, hS0, HO0⟩
      case round =>
        clear hS0 HO0
        obtain ⟨i, hai, hib, rfl, hS, HO⟩ := hrel
        by_cases hlt : i < b
        · obtain ⟨q, rfl⟩ : ∃ q, i = q + 1 := ⟨i - 1, by omega⟩
          have c1 := hS.cell (j := q + 1) (by omega)
          have c0 := hS.cell (j := q) (by omega)
          have f1 := hS.free (q + 1)
          have f0 := hS.free q
          have g1 : decide ((q : Int) + 1 < (b : Int)) = true := by simp; omega
          have i1 : (q : Int) + 1 < (d.size : Int) := by omega
          have i0 : (q : Int) < (d.size : Int) := by omega
          obtain ⟨x, hx⟩ : ∃ x, x = d1[q + 1]! := ⟨_, rfl⟩
          obtain ⟨y, hy⟩ : ∃ y, y = d1[q]! := ⟨_, rfl⟩
          rw [← hx] at c1
          rw [← hy] at c0
          by_cases hxy : x < y
          · have hne : decide ((q : Int) + 1 = (b : Int)) = false := by simp; omega
            by_cases h50 : l < 50
            · have g50 : decide ((l : Int) < 50) = true := by simp; omega
              clear hx hy
              go_wp2
              go_quiet ((go_at_call 78; exact Calls.quiet_of_same (less_any _ _ _)))
              go_wp2
              go_ret
              exact ⟨false, d1, rfl, HP.out, fun h => absurd h (by simp), hS.drewN _⟩
            · have g50 : decide ((l : Int) < 50) = false := by simp; omega
              have HX : Hid (x = d1[q + 1]! ∧ y = d1[q]!) := ⟨hx, hy⟩
              clear hx hy
              go_wp2
              go_quiet ((go_at_call 78; exact Calls.quiet_of_same (less_any _ _ _)))
              go_upto_region 11 with fail
              generalize hW : wr.drewN nq = W
              have hSW : SW g cap w0 W d1 := by rw [← hW]; exact hS.drewN _
              have e1 : W.cell? ⟨g, q + 1, none⟩ = some (.int .u64 x) := by rw [← hW]; exact c1
              have e0 : W.cell? ⟨g, q, none⟩ = some (.int .u64 y) := by rw [← hW]; exact c0
              have e3 : W.frozen? ⟨g, q + 1, none⟩ = false := by rw [← hW]; exact f1
              have e4 : W.frozen? ⟨g, q, none⟩ = false := by rw [← hW]; exact f0
              have HSw : Hid (∀ m, SW g cap w0 (((W.drewN m).setCell ⟨g, q + 1, none⟩ (.int .u64 y)).setCell ⟨g, q, none⟩ (.int .u64 x)) (swp d1 (q + 1) q)) := fun m => by
                have := (hSW.drewN m).swap (q + 1) q
                rw [← HX.out.1, ← HX.out.2] at this
                exact this
              clear hW hS c1 c0 f1 f0 HX hSW
              go_cut [] (fun w' => SW g cap w0 w' (swp d1 (q + 1) q))
              case first =>
                go_region
                all_goals
                  go_wp2_with fail
                  go_meet
                  first | exact HSw.out 1 | exact HSw.out _
              case rest =>
                have hS2 := hcut
                clear hcut e1 e0 e3 e4 HSw
                obtain ⟨w1, rfl⟩ : ∃ w1 : World, w1 = wc := ⟨_, rfl⟩
                have hsz1 : (swp d1 (q + 1) q).size = d.size := by rw [swp_size]; exact hd1
                have HI0 : Hid (Sort.Ins ltInt a q q (swp d1 (q + 1) q)) := ins_begin HO.out (by omega)
                have HP1 : Hid (PermIn a b d (swp d1 (q + 1) q)) := permSwp HP.out (by omega) (by omega) (by omega) (by omega) (by omega)
                generalize swp d1 (q + 1) q = d2 at *
                clear HP HO hd1
                go_upto_if 61 with fail
                go_cut [] (fun w' => ∃ d3 : Array Int, SW g cap w0 w' d3 ∧ d3.size = d.size ∧ Hid (PermIn a b d d3) ∧ Hid (SortedIn ltInt a (q + 1) d3))
                case first =>
                  by_cases hq2 : a + 1 ≤ q
                  · have g2 : decide ((2 : Int) ≤ (q : Int) + 1 - (a : Int)) = true := by simp; omega
                    go_wp2_with fail
                    go_loopw [9] (fun jv wr => ∃ j : Nat, ∃ d3 : Array Int, jv = .int .i64 j ∧ a ≤ j ∧ j ≤ q ∧ SW g cap w0 wr d3 ∧ d3.size = d.size ∧ Hid (PermIn a b d d3) ∧ Hid (Sort.Ins ltInt a j q d3)) (fun jv _ => (intOf jv).toNat)
                    case atStart => exact ⟨q, d2, by go_num, by omega, Nat.le_refl _, hS2, hsz1, HP1, HI0⟩
                    case round =>
                      clear hS2
                      obtain ⟨j, d3, rfl, haj, hjq, hS, hd3, HP3, HI⟩ := hrel
                      by_cases hj0 : j = 0
                      · subst hj0
                        have g3 : decide ((1 : Int) ≤ ((0 : Nat) : Int)) = false := by simp
                        have HS3 : Hid (SortedIn ltInt a (q + 1) d3) := Sort.Ins.stop Sort.swo_ltInt HI.out (.inl (by omega))
                        go_wp2_with fail
                        go_meet
                        exact ⟨d3, hS, hd3, HP3, HS3⟩
                      · obtain ⟨r, rfl⟩ : ∃ r, j = r + 1 := ⟨j - 1, by omega⟩
                        have g3 : decide ((1 : Int) ≤ (r : Int) + 1) = true := by simp; omega
                        have c1 := hS.cell (j := r + 1) (by omega)
                        have c0 := hS.cell (j := r) (by omega)
                        have f1 := hS.free (r + 1)
                        have f0 := hS.free r
                        have i1 : (r : Int) + 1 < (d.size : Int) := by omega
                        have i0 : (r : Int) < (d.size : Int) := by omega
                        have HB3 : Hid (BelowI a b d3) := HB.out.perm HP3.out hbn
                        obtain ⟨x, hx⟩ : ∃ x, x = d3[r + 1]! := ⟨_, rfl⟩
                        obtain ⟨y, hy⟩ : ∃ y, y = d3[r]! := ⟨_, rfl⟩
                        rw [← hx] at c1
                        rw [← hy] at c0
                        by_cases hxy : x < y
                        · have har : a ≤ r := by
                            refine Nat.le_of_not_lt fun hlt => ?_
                            have e : r + 1 = a := by omega
                            have := HB3.out a (Nat.le_refl _) (by omega) (by omega)
                            rw [← e, Nat.add_sub_cancel] at this
                            omega
                          have HX : Hid (x = d3[r + 1]! ∧ y = d3[r]!) := ⟨hx, hy⟩
                          have HI2 : Hid (Sort.Ins ltInt a r q (swp d3 (r + 1) r)) := Sort.Ins.step HI.out (by simp only [ltInt, ← hx, ← hy]; simpa using hxy) har (by omega)
                          have HP4 : Hid (PermIn a b d (swp d3 (r + 1) r)) := permSwp HP3.out (by omega) (by omega) (by omega) (by omega) (by omega)
                          clear hx hy HI HP3 HB3
                          go_wp2
                          go_quiet ((go_at_call 78; exact Calls.quiet_of_same (less_any _ _ _)))
                          go_wp2
                          generalize hW : wr.drewN nq = W
                          have hSW : SW g cap w0 W d3 := by rw [← hW]; exact hS.drewN _
                          have e1 : W.cell? ⟨g, r + 1, none⟩ = some (.int .u64 x) := by rw [← hW]; exact c1
                          have e0 : W.cell? ⟨g, r, none⟩ = some (.int .u64 y) := by rw [← hW]; exact c0
                          have e3 : W.frozen? ⟨g, r + 1, none⟩ = false := by rw [← hW]; exact f1
                          have e4 : W.frozen? ⟨g, r, none⟩ = false := by rw [← hW]; exact f0
                          have HSw : Hid (∀ m, SW g cap w0 (((W.drewN m).setCell ⟨g, r + 1, none⟩ (.int .u64 y)).setCell ⟨g, r, none⟩ (.int .u64 x)) (swp d3 (r + 1) r)) := fun m => by
                            have := (hSW.drewN m).swap (r + 1) r
                            rw [← HX.out.1, ← HX.out.2] at this
                            exact this
                          clear hW hS c1 c0 f1 f0 HX hSW
                          go_region
                          all_goals
                            go_wp2
                            go_roundw
                            case rel => exact ⟨r, swp d3 (r + 1) r, by go_num, har, by omega, by first | exact HSw.out 1 | exact HSw.out _, by rw [swp_size]; exact hd3, HP4, HI2⟩
                            case measure => simp only [intOf]; omega
                        · have HS3 : Hid (SortedIn ltInt a (q + 1) d3) := Sort.Ins.stop Sort.swo_ltInt HI.out (.inr (by simp only [Nat.add_sub_cancel, ltInt, ← hx, ← hy]; simpa using hxy))
                          have hd : decide (x < y) = false := by simp; omega
                          clear hx hy HI HB3
                          go_wp2
                          go_quiet ((go_at_call 78; exact Calls.quiet_of_same (less_any _ _ _)))
                          go_wp2
                          go_meet
                          exact ⟨d3, hS.drewN _, hd3, HP3, HS3⟩
                  · have g2 : decide ((2 : Int) ≤ (q : Int) + 1 - (a : Int)) = false := by simp; omega
                    have HS3 : Hid (SortedIn ltInt a (q + 1) d2) := fun p p' h1 h2 h3 => by omega
                    go_wp2_with fail
                    go_meet
                    exact ⟨d2, hS2, hsz1, HP1, HS3⟩
                case rest =>
                  clear hS2 HI0 HP1 hsz1
                  obtain ⟨d3, hS3, hd3, HP3, HS3⟩ := hcut
                  obtain ⟨w2, rfl⟩ : ∃ w2 : World, w2 = wc := ⟨_, rfl⟩
                  by_cases hq2 : q + 3 ≤ b
                  · have g2 : decide ((2 : Int) ≤ (b : Int) - ((q : Int) + 1)) = true := by simp; omega
                    go_wp2_with fail
                    go_loopw [10] (fun jv wr => ∃ j : Nat, ∃ d4 : Array Int, jv = .int .i64 j ∧ q + 2 ≤ j ∧ j ≤ b ∧ SW g cap w0 wr d4 ∧ d4.size = d.size ∧ Hid (PermIn a b d d4) ∧ Hid (SortedIn ltInt a (q + 1) d4)) (fun jv _ => b - (intOf jv).toNat)
                    case atStart => exact ⟨q + 2, d3, by go_num, by omega, by omega, hS3, hd3, HP3, HS3⟩
                    case round =>
                      clear hS3 HP3 HS3 hd3
                      obtain ⟨j, d4, rfl, hj1, hjb, hS, hd4, HP4, HS4⟩ := hrel
                      by_cases hjlt : j < b
                      · obtain ⟨r, rfl⟩ : ∃ r, j = r + 1 := ⟨j - 1, by omega⟩
                        have g3 : decide ((r : Int) + 1 < (b : Int)) = true := by simp; omega
                        have c1 := hS.cell (j := r + 1) (by omega)
                        have c0 := hS.cell (j := r) (by omega)
                        have f1 := hS.free (r + 1)
                        have f0 := hS.free r
                        have i1 : (r : Int) + 1 < (d.size : Int) := by omega
                        have i0 : (r : Int) < (d.size : Int) := by omega
                        obtain ⟨x, hx⟩ : ∃ x, x = d4[r + 1]! := ⟨_, rfl⟩
                        obtain ⟨y, hy⟩ : ∃ y, y = d4[r]! := ⟨_, rfl⟩
                        rw [← hx] at c1
                        rw [← hy] at c0
                        by_cases hxy : x < y
                        · have HX : Hid (x = d4[r + 1]! ∧ y = d4[r]!) := ⟨hx, hy⟩
                          have HP5 : Hid (PermIn a b d (swp d4 (r + 1) r)) := permSwp HP4.out (by omega) (by omega) (by omega) (by omega) (by omega)
                          have HS5 : Hid (SortedIn ltInt a (q + 1) (swp d4 (r + 1) r)) := sorted_swp HS4.out (by omega) (by omega)
                          clear hx hy HP4 HS4
                          go_wp2
                          go_quiet ((go_at_call 78; exact Calls.quiet_of_same (less_any _ _ _)))
                          go_wp2
                          generalize hW : wr.drewN nq = W
                          have hSW : SW g cap w0 W d4 := by rw [← hW]; exact hS.drewN _
                          have e1 : W.cell? ⟨g, r + 1, none⟩ = some (.int .u64 x) := by rw [← hW]; exact c1
                          have e0 : W.cell? ⟨g, r, none⟩ = some (.int .u64 y) := by rw [← hW]; exact c0
                          have e3 : W.frozen? ⟨g, r + 1, none⟩ = false := by rw [← hW]; exact f1
                          have e4 : W.frozen? ⟨g, r, none⟩ = false := by rw [← hW]; exact f0
                          have HSw : Hid (∀ m, SW g cap w0 (((W.drewN m).setCell ⟨g, r + 1, none⟩ (.int .u64 y)).setCell ⟨g, r, none⟩ (.int .u64 x)) (swp d4 (r + 1) r)) := fun m => by
                            have := (hSW.drewN m).swap (r + 1) r
                            rw [← HX.out.1, ← HX.out.2] at this
                            exact this
                          clear hW hS c1 c0 f1 f0 HX hSW
                          go_region
                          all_goals
                            go_wp2
                            go_roundw
                            case rel => exact ⟨r + 1 + 1, swp d4 (r + 1) r, by go_num, by omega, by omega, by first | exact HSw.out 1 | exact HSw.out _, by rw [swp_size]; exact hd4, HP5, HS5⟩
                            case measure => simp only [intOf]; omega
                        · have hd : decide (x < y) = false := by simp; omega
                          clear hx hy
                          go_wp2
                          go_quiet ((go_at_call 78; exact Calls.quiet_of_same (less_any _ _ _)))
                          go_wp2
                          go_roundw
                          case rel => exact ⟨q + 1, jj + 1, d4, by omega, by omega, by omega, by go_num, by go_num, hS.drewN _, hd4, HP4, HS4⟩
                          case measure => simp only [intOf]; omega
                      · obtain rfl : j = b := by omega
                        have g3 : decide ((j : Int) < (j : Int)) = false := by simp
                        go_wp2
                        go_roundw
                        case rel => exact ⟨q + 1, jj + 1, d4, by omega, by omega, by omega, by go_num, by go_num, hS, hd4, HP4, HS4⟩
                        case measure => simp only [intOf]; omega
                  · have g2 : decide ((2 : Int) ≤ (b : Int) - ((q : Int) + 1)) = false := by simp; omega
                    go_wp2_with fail
                    go_roundw
                    case rel => exact ⟨q + 1, jj + 1, d3, by omega, by omega, by omega, by go_num, by go_num, hS3, hd3, HP3, HS3⟩
                    case measure => simp only [intOf]; omega
          · have HO2 : Hid (SortedIn ltInt a (q + 1 + 1) d1) := Sort.SortedIn.snoc Sort.swo_ltInt HO.out (by simp only [Nat.add_sub_cancel, ltInt, ← hx, ← hy]; simpa using hxy)
            have hd : decide (x < y) = false := by simp; omega
            clear hx hy HO
            go_wp2
            go_quiet ((go_at_call 78; exact Calls.quiet_of_same (less_any _ _ _)))
            go_wp2
            go_roundw
            case rel => exact ⟨q + 1 + 1, by omega, by omega, rfl, hS.drewN _, HO2⟩
            case measure => simp only [intOf]; omega
        · obtain rfl : i = b := by omega
          have g1 : decide ((i : Int) < (i : Int)) = false := by simp
          go_wp2
          go_quiet ((go_at_call 78; exact Calls.quiet_of_same (less_any _ _ _)))
          go_wp2
          go_ret
          exact ⟨true, d1, rfl, HP.out, fun _ => HO.out, hS.drewN _⟩
    · have gj : decide ((jj : Int) < 5) = false := by simp; omega
      go_wp2
      go_ret
      exact ⟨false, d1, rfl, HP.out, fun h => absurd h (by simp), hS0⟩

end Go.Proofs.Ytmfoenhbldacfaa
