import Derived.Test.YtmfoenhbldacfaaQbg
/- The walk of the library's pdqsort, at fewer than 50 tags. -/
namespace Go.Proofs.Ytmfoenhbldacfaa
open Go.RowKit
open Go.Sort (swp PermIn SortedIn ltInt)
set_option linter.unusedVariables false

/-- What a call of pdqsort comes to. -/
def PdqOk (g cap n a b lim : Nat) (d : Array Int) (w0 w : World) : Prop :=
  Calls Try.prog 63 #[.slice (some ⟨g, 0, none⟩) n cap, .int .i64 a, .int .i64 b, .int .i64 lim] w fun e w' => e = .returned (.tuple #[]) ∧ ∃ d' : Array Int, PermIn a b d d' ∧ SortedIn ltInt a b d' ∧ SW g cap w0 w' d'

set_option maxRecDepth 100000 in
set_option maxHeartbeats 8000000 in
theorem pdq_step (g cap n a b lim : Nat) (d : Array Int) (w0 w : World) (h : SW g cap w0 w d) (hab : a ≤ b) (hbn : b ≤ d.size) (hn : d.size = n) (hn2 : n ≤ 200) (hlim : lim ≤ 1000) (hbe : BelowI a b d)
    (IH : ∀ (a' b' lim' : Nat) (d' : Array Int) (w' : World), SW g cap w0 w' d' → a' ≤ b' → b' ≤ d'.size → d'.size = n → lim' ≤ 1000 → BelowI a' b' d' → b' - a' < b - a → PdqOk g cap n a' b' lim' d' w0 w') : PdqOk g cap n a b lim d w0 w := by
  rw [PdqOk]
  subst hn
  have HB : Hid (BelowI a b d) := hbe
  have HIH : Hid (∀ (a' b' lim' : Nat) (d' : Array Int) (w' : World), SW g cap w0 w' d' → a' ≤ b' → b' ≤ d'.size → d'.size = d.size → lim' ≤ 1000 → BelowI a' b' d' → b' - a' < b - a → PdqOk g cap d.size a' b' lim' d' w0 w') := IH
  clear hbe IH
  go_enter Try.func63, Try.ntmps63
  go_wp2_with fail
  go_loopw [1, 2, 3, 8, 9] (fun v1 v2 v3 v8 v9 wr => ∃ a1 b1 l1 : Nat, ∃ bal par : Bool, ∃ d1 : Array Int, v1 = .int .i64 a1 ∧ v2 = .int .i64 b1 ∧ v3 = .int .i64 l1 ∧ v8 = .bool bal ∧ v9 = .bool par ∧ a ≤ a1 ∧ a1 ≤ b1 ∧ b1 ≤ b ∧ l1 ≤ 1000 ∧ SW g cap w0 wr d1 ∧ d1.size = d.size ∧ Hid (PermIn a b d d1) ∧ Hid (OutS a b a1 b1 d1)) (fun v1 v2 _ _ _ _ => (intOf v2).toNat - (intOf v1).toNat)
  case atStart => exact ⟨a, b, lim, true, true, d, rfl, rfl, rfl, rfl, rfl, Nat.le_refl _, hab, Nat.le_refl _, hlim, h, rfl, Sort.permIn_refl _ _ _, OutS.start _ _ _⟩
  case round =>
    clear h
    obtain ⟨a1, b1, l1, bal, par, d1, rfl, rfl, rfl, rfl, rfl, ha, hab1, hb, hl1, hS, hd1, HP, HO⟩ := hrel
    obtain ⟨l, hl⟩ : ∃ l, l = b1 - a1 := ⟨_, rfl⟩
    have hle : b1 ≤ a1 + l := by omega
    have hge : a1 + l ≤ b1 := by omega
    have hba : (b1 : Int) - (a1 : Int) = (l : Int) := by omega
    clear hl
    by_cases h12 : l ≤ 12
    · have g1 : decide ((l : Int) ≤ 12) = true := by simp; omega
      go_wp2_with fail
      refine Calls.mono (ins_any g cap d.size a1 b1 d1 w0 _ hS hab1 (by omega) hd1 (by omega)) ?_
      rintro e w1 ⟨rfl, hS1⟩
      go_wp2_with fail
      refine bodyPost_ret (results_none rfl _ _ _) rfl ?_
      obtain ⟨q1, q2⟩ := Sort.insertionSort_holds Sort.swo_ltInt d1 a1 b1 hab1 (by omega)
      exact ⟨rfl, _, Sort.permIn_trans _ _ _ _ _ HP.out (permWiden q1 ha hb (by omega)), HO.out.done ha hab1 hb (by omega) q1 q2, hS1⟩
    · have g1 : decide ((l : Int) ≤ 12) = false := by simp; omega
      have hll : l ≤ 200 := by omega
      by_cases hl0 : l1 = 0
      · subst hl0
        go_wp2_with fail
        refine Calls.mono (heap_any g cap d.size a1 b1 l ((l - 1) / 2) d1 w0 _ hS (by omega) hle hge (by omega) rfl hd1 (by omega)) ?_
        rintro e w1 ⟨rfl, hS1⟩
        go_wp2_with fail
        refine bodyPost_ret (results_none rfl _ _ _) rfl ?_
        obtain ⟨q1, q2⟩ := Sort.heapSort_holds Sort.swo_ltInt d1 a1 b1 hab1 (by omega)
        exact ⟨rfl, _, Sort.permIn_trans _ _ _ _ _ HP.out (permWiden q1 ha hb (by omega)), HO.out.done ha hab1 hb (by omega) q1 q2, hS1⟩
      · have g2 : decide ((l1 : Int) = 0) = false := by simp; omega
        go_upto_if 35 with fail
        go_cut [3] (fun v3 w' => ∃ l2 : Nat, ∃ d2 : Array Int, v3 = .int .i64 l2 ∧ l2 ≤ 1000 ∧ SW g cap w0 w' d2 ∧ d2.size = d.size ∧ Hid (PermIn a1 b1 d1 d2))
        case first =>
          cases bal with
          | true =>
            go_wp2_with fail
            go_meet
            exact ⟨l1, d1, rfl, hl1, hS, hd1, Sort.permIn_refl _ _ _⟩
          | false =>
            go_wp2_with fail
            refine Calls.mono (break_any g cap d.size a1 b1 l d1 w0 _ hS (by omega) hll hle hge (by omega) hd1 (by omega)) ?_
            rintro e w1 ⟨rfl, d2, hp2, hS1⟩
            go_wp2_with fail
            go_meet
            exact ⟨l1 - 1, d2, by congr 1; omega, by omega, hS1, by rw [hp2.1]; exact hd1, hp2⟩
        case rest =>
          clear hS
          obtain ⟨l2, d2', rfl, hl2, hS, hd2', HQ'⟩ := hcut
          obtain ⟨wo, rfl⟩ : ∃ wo : World, wo = wc := ⟨_, rfl⟩
          clear g2 hl0 hl1
          go_wp2_with fail
          refine Calls.mono (pivot_any g cap d.size a1 b1 l d2' w0 _ hS (by omega) hll hle hge (by omega) hd2' (by omega)) ?_
          rintro e w1 ⟨p', t', rfl, hp1', hp2', ht', hS1⟩
          clear hS
          go_upto_if 50 with fail
          go_cut [11, 12] (fun v11 v12 w' => ∃ p : Nat, ∃ t : Int, ∃ d2 : Array Int, v11 = .int .i64 p ∧ v12 = .int .i64 t ∧ a1 ≤ p ∧ p < b1 ∧ (t = 0 ∨ t = 1) ∧ SW g cap w0 w' d2 ∧ d2.size = d.size ∧ Hid (PermIn a1 b1 d1 d2))
          case first =>
            by_cases h2 : t' = 2
            · subst h2
              clear HB HP HO ht'
              go_wp2_with fail
              refine Calls.mono (rev_any g cap d.size a1 b1 d2' w0 _ hS1 (by omega) (by omega) hd2' (by omega)) ?_
              rintro e w2 ⟨rfl, d2, hp3, hS2⟩
              go_wp2_with fail
              go_meet
              exact ⟨b1 - 1 - (p' - a1), 1, d2, by congr 1; omega, rfl, by omega, by omega, .inr rfl, hS2, by rw [hp3.1]; exact hd2', Sort.permIn_trans _ _ _ _ _ HQ'.out hp3⟩
            · have gt2 : decide (t' = 2) = false := by simp [h2]
              clear HB HP HO
              go_wp2_with fail
              go_meet
              exact ⟨p', t', d2', rfl, rfl, hp1', hp2', by omega, hS1, hd2', HQ'⟩
          case rest =>
            clear hS1 HQ' hd2' hp1' hp2' ht'
            obtain ⟨p, t, d2, rfl, rfl, hp1, hp2, ht, hS1, hd2, HQ⟩ := hcut
            obtain ⟨wy, rfl⟩ : ∃ wy : World, wy = wc := ⟨_, rfl⟩
            have HP2 : Hid (PermIn a b d d2) := Sort.permIn_trans _ _ _ _ _ HP.out (permWiden HQ.out ha hb (by omega))
            have HO2 : Hid (OutS a b a1 b1 d2) := HO.out.perm ha hab1 hb (by omega) HQ.out
            have HB2 : Hid (BelowI a1 b1 d2) := HO2.out.below HB.out HP2.out (by omega) ha hb
            clear HP HO HQ hd1
            go_upto_region 15 with fail
            go_cut [68] (fun v w' => ∃ tt : Bool, v = .bool tt ∧ SW g cap w0 w' d2)
            case first =>
              rcases ht with rfl | rfl <;> cases bal <;> cases par <;>
              · go_wp2_with fail
                go_meet
                exact ⟨_, rfl, hS1⟩
            case rest =>
              clear hS1
              obtain ⟨tt, rfl, hS⟩ := hcut
              obtain ⟨wp, rfl⟩ : ∃ wp : World, wp = wc := ⟨_, rfl⟩
              go_upto_if 68 with fail
              go_cut [68] (fun v w' => ∃ d3 : Array Int, SW g cap w0 w' d3 ∧ d3.size = d.size ∧ Hid (PermIn a1 b1 d2 d3))
              case first =>
                cases tt with
                | false =>
                  go_wp2_with fail
                  go_meet
                  exact ⟨d2, hS, hd2, Sort.permIn_refl _ _ _⟩
                | true =>
                  go_wp2_with fail
                  refine Calls.mono (partial_any g cap d.size a1 b1 l d2 w0 _ hS (by omega) hll hle hge (by omega) hd2 (by omega) HB2.out) ?_
                  rintro e w2 ⟨r, d3, rfl, hpr, hr, hS1⟩
                  cases r with
                  | false =>
                    go_wp2_with fail
                    go_meet
                    exact ⟨d3, hS1, by rw [hpr.1]; exact hd2, hpr⟩
                  | true =>
                    have HR : Hid (SortedIn ltInt a1 b1 d3) := hr rfl
                    have HQ : Hid (PermIn a1 b1 d2 d3) := hpr
                    clear hr hpr
                    go_wp2_with fail
                    refine bodyPost_ret (results_none rfl _ _ _) rfl ?_
                    exact ⟨rfl, d3, Sort.permIn_trans _ _ _ _ _ HP2.out (permWiden HQ.out ha hb (by omega)), HO2.out.done ha hab1 hb (by omega) HQ.out HR.out, hS1⟩
              case rest =>
                clear hS
                obtain ⟨d3, hS, hd3, HQ⟩ := hcut
                obtain ⟨wq, rfl⟩ : ∃ wq : World, wq = wc := ⟨_, rfl⟩
                have HP3 : Hid (PermIn a b d d3) := Sort.permIn_trans _ _ _ _ _ HP2.out (permWiden HQ.out ha hb (by omega))
                have HO3 : Hid (OutS a b a1 b1 d3) := HO2.out.perm ha hab1 hb (by omega) HQ.out
                clear HP2 HO2 HB2 HQ hd2
                obtain ⟨d2, rfl⟩ : ∃ d2, d2 = d3 := ⟨_, rfl⟩
                have HP2 := HP3
                have HO2 := HO3
                have hd2 := hd3
                have HB2 : Hid (BelowI a1 b1 d2) := HO2.out.below HB.out HP2.out (by omega) ha hb
                clear HP3 HO3 hd3
                go_upto_region 17 with fail
                go_cut [87] (fun v w' => v = .bool (decide (0 < a1 ∧ d2[p]! ≤ d2[a1 - 1]!)) ∧ SW g cap w0 w' d2)
                case first =>
                  by_cases h0 : a1 = 0
                  · have g3 : decide ((0 : Int) < (a1 : Int)) = false := by simp; omega
                    have g3n : decide (0 < a1) = false := by simp; omega
                    have HG : Hid (decide (0 < a1 ∧ d2[p]! ≤ d2[a1 - 1]!) = false) := by rw [Hid]; simp; omega
                    clear h0
                    go_quiet ((go_at_call 78; exact Calls.quiet_of_same (less_any _ _ _)))
                    go_wp2_with fail
                    go_meet
                    exact ⟨by rw [HG.out], hS.drewN _⟩
                  · obtain ⟨k, hk⟩ : ∃ k, k = a1 - 1 := ⟨_, rfl⟩
                    have g3 : decide ((0 : Int) < (a1 : Int)) = true := by simp; omega
                    have g3n : decide (0 < a1) = true := by simp; omega
                    have ek : (a1 : Int) - 1 = (k : Int) := by omega
                    have c1 := hS.cell (j := k) (by omega)
                    have c2 := hS.cell (j := p) (by omega)
                    have i1 : (k : Int) < (d.size : Int) := by omega
                    have i2 : (p : Int) < (d.size : Int) := by omega
                    obtain ⟨x, hx⟩ : ∃ x, x = d2[k]! := ⟨_, rfl⟩
                    obtain ⟨y, hy⟩ : ∃ y, y = d2[p]! := ⟨_, rfl⟩
                    have HG : Hid (decide (0 < a1 ∧ d2[p]! ≤ d2[a1 - 1]!) = !decide (x < y)) := by
                      rw [Hid, ← hk, ← hx, ← hy]
                      by_cases e : x < y
                      · rw [decide_eq_false (by omega), decide_eq_true e]; rfl
                      · rw [decide_eq_true (by omega), decide_eq_false e]; rfl
                    rw [← hx] at c1
                    rw [← hy] at c2
                    clear hx hy hk h0
                    go_quiet ((go_at_call 78; exact Calls.quiet_of_same (less_any _ _ _)))
                    go_wp2_with fail
                    go_meet
                    exact ⟨by rw [HG.out], hS.drewN _⟩
                case rest =>
                  clear hS
                  obtain ⟨rfl, hS⟩ := hcut
                  obtain ⟨wr2, rfl⟩ : ∃ wr2 : World, wr2 = wc := ⟨_, rfl⟩
                  by_cases hcond : 0 < a1 ∧ d2[p]! ≤ d2[a1 - 1]!
                  · have HC : Hid (0 < a1 ∧ d2[p]! ≤ d2[a1 - 1]!) := hcond
                    rw [decide_eq_true hcond]
                    clear hcond
                    go_wp2_with fail
                    refine Calls.mono (partEq_any g cap d.size a1 b1 p d2 w0 _ hS hp1 hp2 (by omega) hd2 (by omega)) ?_
                    rintro e w2 ⟨i, d3, rfl, hi1, hi2, hPS, hS1⟩
                    have HP3 : Hid (PermIn a b d d3) := Sort.permIn_trans _ _ _ _ _ HP2.out (permWiden (hPS.permAll hp1 hp2) ha hb (by omega))
                    have HO3 : Hid (OutS a b i b1 d3) := HO2.out.equal ha hb (by omega) hp1 hp2 HB2.out HC.out.1 HC.out.2 hi1 hi2 hPS
                    have hd3 : d3.size = d.size := by rw [hPS.size, swp_size]; exact hd2
                    clear hPS
                    go_wp2_with fail
                    go_roundw
                    case rel => exact ⟨i, b1, l2, bal, par, d3, rfl, rfl, rfl, rfl, rfl, by omega, hi2, hb, hl2, hS1, hd3, HP3, HO3⟩
                    case measure => simp only [intOf]; omega
                  · rw [decide_eq_false hcond]
                    clear hcond
                    go_wp2_with fail
                    refine Calls.mono (part_any g cap d.size a1 b1 p d2 w0 _ hS hp1 hp2 (by omega) hd2 (by omega)) ?_
                    rintro e w2 ⟨q, pt, rfl, hq1, hq2, d3, hPS, hS1⟩
                    obtain ⟨r1, r2, r3⟩ := hPS.parted hp1 hp2 hq1 hq2
                    clear hPS
                    have hd4 : (swp d3 q a1).size = d.size := by rw [r1.1]; exact hd2
                    generalize swp d3 q a1 = d4 at *
                    have HR : Hid (PermIn a1 b1 d2 d4 ∧ (∀ x, a1 ≤ x → x < q → d4[x]! < d4[q]!) ∧ (∀ x, q < x → x < b1 → d4[q]! ≤ d4[x]!)) := ⟨r1, r2, r3⟩
                    clear r1 r2 r3
                    have HP4 : Hid (PermIn a b d d4) := Sort.permIn_trans _ _ _ _ _ HP2.out (permWiden HR.out.1 ha hb (by omega))
                    by_cases hlr : q - a1 < b1 - q
                    · have g4 : decide ((q : Int) - (a1 : Int) < (b1 : Int) - (q : Int)) = true := by simp; omega
                      go_wp2_with fail
                      refine Calls.mono (HIH.out a1 q l2 d4 _ hS1 hq1 (by omega) hd4 hl2 (fun k k1 k2 k3 => ((HO2.out.perm ha hab1 hb (by omega) HR.out.1).below HB.out HP4.out (by omega) ha hb) k k1 (by omega) k3) (by omega)) ?_
                      rintro e w3 ⟨rfl, d5, s1, s2, hS2⟩
                      have HP5 : Hid (PermIn a b d d5) := Sort.permIn_trans _ _ _ _ _ HP4.out (permWiden s1 ha (by omega) (by omega))
                      have HO5 : Hid (OutS a b (q + 1) b1 d5) := HO2.out.leftDone ha hb (by omega) hq1 hq2 HR.out.1 HR.out.2.1 HR.out.2.2 s1 s2
                      have hd5 : d5.size = d.size := by rw [s1.1]; exact hd4
                      clear s1 s2
                      go_wp2_with fail
                      go_roundw
                      case rel => exact ⟨q + 1, b1, l2, _, pt, d5, rfl, rfl, rfl, rfl, rfl, by omega, by omega, hb, hl2, hS2, hd5, HP5, HO5⟩
                      case measure => simp only [intOf]; omega
                    · have g4 : decide ((q : Int) - (a1 : Int) < (b1 : Int) - (q : Int)) = false := by simp; omega
                      go_wp2_with fail
                      refine Calls.mono (HIH.out (q + 1) b1 l2 d4 _ hS1 (by omega) (by omega) hd4 hl2 (fun k k1 k2 k3 => by rw [Nat.add_sub_cancel]; exact HR.out.2.2 k (by omega) k2) (by omega)) ?_
                      rintro e w3 ⟨rfl, d5, s1, s2, hS2⟩
                      have HP5 : Hid (PermIn a b d d5) := Sort.permIn_trans _ _ _ _ _ HP4.out (permWiden s1 (by omega) hb (by omega))
                      have HO5 : Hid (OutS a b a1 q d5) := HO2.out.rightDone ha hb (by omega) hq1 hq2 HR.out.1 HR.out.2.1 HR.out.2.2 s1 s2
                      have hd5 : d5.size = d.size := by rw [s1.1]; exact hd4
                      clear s1 s2
                      go_wp2_with fail
                      go_roundw
                      case rel => exact ⟨a1, q, l2, _, pt, d5, rfl, rfl, rfl, rfl, rfl, ha, hq1, by omega, hl2, hS2, hd5, HP5, HO5⟩
                      case measure => simp only [intOf]; omega

end Go.Proofs.Ytmfoenhbldacfaa
/- The library's sort at fewer than 50 tags: the row holds the same tags, rising. -/
namespace Go.Proofs.Ytmfoenhbldacfaa
open Go.RowKit
open Go.Sort (swp PermIn SortedIn ltInt)
set_option linter.unusedVariables false

theorem pdq_all (g cap n : Nat) (w0 : World) (hn2 : n ≤ 200) : ∀ (N a b lim : Nat) (d : Array Int) (w : World), b - a < N → SW g cap w0 w d → a ≤ b → b ≤ d.size → d.size = n → lim ≤ 1000 → BelowI a b d → PdqOk g cap n a b lim d w0 w
  | 0, _, _, _, _, _, hN, _, _, _, _, _, _ => absurd hN (Nat.not_lt_zero _)
  | N + 1, a, b, lim, d, w, hN, h, hab, hbn, hn, hlim, hbe =>
    pdq_step g cap n a b lim d w0 w h hab hbn hn hn2 hlim hbe fun a' b' lim' d' w' h' hab' hbn' hn' hlim' hbe' hlt => pdq_all g cap n w0 hn2 N a' b' lim' d' w' (by omega) h' hab' hbn' hn' hlim' hbe'

theorem sort_many (g cap n : Nat) (d : Array Int) (w0 w : World) (h : SW g cap w0 w d) (hn : d.size = n) (hn2 : n ≤ 200) :
    Calls Try.prog 42 #[.slice (some ⟨g, 0, none⟩) n cap] w fun e w' => e = .returned (.tuple #[]) ∧ ∃ d' : Array Int, d'.size = n ∧ (∀ z, z ∈ d'.toList ↔ z ∈ d.toList) ∧ SortedIn ltInt 0 n d' ∧ SW g cap w0 w' d' := by
  have hu : (n : Int) % 18446744073709551616 = (n : Int) := by omega
  have hbl : Lib.bitLen n ≤ 8 := Lib.bitLen_le8 ⟨n, by omega⟩
  go_enter Try.func42, Try.ntmps42
  go_wp2_with (go_at_call 64; refine (len_any n (by omega) _).mono ?_; rintro e w' ⟨rfl, rfl⟩)
  refine Calls.mono (pdq_all g cap n w0 hn2 (n + 1) 0 n (Lib.bitLen n) d _ (by omega) h (Nat.zero_le _) (by omega) hn (by omega) (fun i h1 h2 h3 => absurd h3 (Nat.lt_irrefl _))) ?_
  rintro e w1 ⟨rfl, d', hp, hso, hS⟩
  go_wp2_with fail
  go_end0
  subst hn
  refine ⟨rfl, d', hp.1, fun z => ?_, hso, hS⟩
  have hq := hp.2.2
  rw [show d'.extract 0 d.size = d' from by rw [← hp.1]; simp, show d.extract 0 d.size = d from by simp] at hq
  exact hq.mem_iff

end Go.Proofs.Ytmfoenhbldacfaa
