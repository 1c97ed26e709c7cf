import Derived.Test.YtmfoenhbldacfaaQbb
import Derived.Deep.DeepCutAuto
import Derived.Deep.CutBlock
/- The walk of the library's heapSort, at tags. -/
namespace Go.Proofs.Ytmfoenhbldacfaa
open Go.RowKit
open Go.Sort (swp PermIn SortedIn ltInt)
set_option linter.unusedVariables false

theorem sift_size (hi f r : Nat) (d : Array Int) : (Sort.siftDown ltInt hi f r d).size = d.size := by
  fun_induction Sort.siftDown ltInt hi f r d <;> simp_all [swp_size]

set_option maxHeartbeats 2000000 in
theorem heap_any (g cap n a b hi m : Nat) (d : Array Int) (w0 w : World) (h : SW g cap w0 w d) (hhi : 0 < hi) (hb : b ≤ a + hi) (hb2 : a + hi ≤ b) (hbn : b ≤ d.size) (hm : m = (hi - 1) / 2) (hn : d.size = n) (hn2 : n ≤ 1000) :
    Calls Try.prog 73 #[.slice (some ⟨g, 0, none⟩) n cap, .int .i64 a, .int .i64 b] w fun e w' => e = .returned (.tuple #[]) ∧ SW g cap w0 w' (Sort.heapSort ltInt d a b) := by
  subst hn
  have HH : Hid (Sort.heapSort ltInt d a b = Sort.heapPop ltInt a hi (Sort.heapBuild ltInt hi a (m + 1) d)) := by
    rw [Hid, Sort.heapSort, hm]
    have : b - a = hi := by omega
    rw [this]
  have hba : (b : Int) - (a : Int) = (hi : Int) := by omega
  have HM : Hid (((hi : Int) - 1) / 2 = (m : Int)) := by rw [Hid]; omega
  have hm2 : m ≤ 1000 := by omega
  clear hm
  go_enter Try.func73, Try.ntmps73
  go_wp2
  go_loopw [9] (fun iv wr => ∃ k : Nat, ∃ d1 : Array Int, k ≤ m + 1 ∧ iv = .int .i64 ((k : Int) - 1) ∧ SW g cap w0 wr d1 ∧ d1.size = d.size ∧ Hid (Sort.heapBuild ltInt hi a (m + 1) d = Sort.heapBuild ltInt hi a k d1)) (fun iv _ => (intOf iv + 1).toNat)
  case atStart => exact ⟨m + 1, d, Nat.le_refl _, by rw [HM.out]; congr 1; omega, h, rfl, rfl⟩
  case round =>
    obtain ⟨k, d1, hk, rfl, hS, hd1, HE⟩ := hrel
    clear h
    cases k with
    | succ k =>
      have e1 : ((k + 1 : Nat) : Int) - 1 = (k : Int) := by omega
      rw [e1]
      have HE2 : Hid (Sort.heapBuild ltInt hi a (m + 1) d = Sort.heapBuild ltInt hi a k (Sort.siftDown ltInt hi a k d1)) := HE.out
      have hkk : k ≤ 1000 := by omega
      clear HE e1
      go_wp2_with fail
      refine Calls.mono (sift_any g cap d.size k hi a d1 w0 _ hS (by omega) hd1 hn2 hkk) ?_
      rintro e w1 ⟨rfl, hS1⟩
      go_wp2
      go_roundw
      case rel => exact ⟨k, _, by omega, by congr 1 <;> omega, hS1, by rw [sift_size]; exact hd1, HE2⟩
      case measure => simp only [intOf]; omega
    | zero =>
      have HE2 : Hid (Sort.heapSort ltInt d a b = Sort.heapPop ltInt a hi d1) := by rw [Hid, HH.out, HE.out]; rfl
      clear HE HH
      rw [show (((0 : Nat) : Int) - 1) = -1 from rfl]
      go_wp2
      go_loopw [10] (fun iv wr => ∃ k : Nat, ∃ d2 : Array Int, k ≤ hi ∧ iv = .int .i64 ((k : Int) - 1) ∧ SW g cap w0 wr d2 ∧ d2.size = d.size ∧ Hid (Sort.heapSort ltInt d a b = Sort.heapPop ltInt a k d2)) (fun iv _ => (intOf iv + 1).toNat)
      case atStart => exact ⟨hi, d1, Nat.le_refl _, rfl, hS, hd1, HE2⟩
      case round =>
        clear hS HE2
        obtain ⟨k, d2, hk, rfl, hS, hd2, HE⟩ := hrel
        cases k with
        | succ k =>
          have e1 : ((k + 1 : Nat) : Int) - 1 = (k : Int) := by omega
          rw [e1]
          have HE2 : Hid (Sort.heapSort ltInt d a b = Sort.heapPop ltInt a k (Sort.siftDown ltInt k a 0 (swp d2 a (a + k)))) := HE.out
          clear HE e1
          have a5 : (a : Int) < (d.size : Int) := by omega
          have z1 := hS.cell (j := a) (by omega)
          have y1 := hS.free a
          cases k with
          | zero =>
            have HSw : Hid (∀ m, SW g cap w0 (((wr.drewN m).setCell ⟨g, a, none⟩ (.int .u64 d2[a]!)).setCell ⟨g, a, none⟩ (.int .u64 d2[a]!)) (swp d2 a (a + 0))) := fun m => (hS.drewN m).swap a (a + 0)
            clear hS
            rw [show ((0 : Nat) : Int) = 0 from rfl]
            go_wp2
            go_region
            all_goals
              go_wp2_with fail
              refine Calls.mono (sift_any g cap d.size 0 0 a (swp d2 a (a + 0)) w0 _ (by first | exact HSw.out 1 | exact HSw.out _) (by rw [swp_size]; omega) (by rw [swp_size]; exact hd2) hn2 (by omega)) ?_
              rintro e w1 ⟨rfl, hS1⟩
              go_wp2
              go_roundw
              case rel => exact ⟨0, _, by omega, by congr 1 <;> omega, hS1, by rw [sift_size, swp_size]; exact hd2, HE2⟩
              case measure => simp only [intOf]; omega
          | succ k =>
            have a1 : IntKind.i64.wrap ((a : Int) + ((k : Int) + 1)) = (a : Int) + ((k : Int) + 1) := by rw [IntKind.wrap_i64]; omega
            have a2 : ((a : Int) + ((k : Int) + 1)).toNat = a + (k + 1) := by omega
            have a3 : (a : Int) + ((k : Int) + 1) < (d.size : Int) := by omega
            have a4 : (0 : Int) ≤ (a : Int) + ((k : Int) + 1) := by omega
            have z2 := hS.cell (j := a + (k + 1)) (by omega)
            have y2 := hS.free (a + (k + 1))
            have HSw : Hid (∀ m, SW g cap w0 (((wr.drewN m).setCell ⟨g, a, none⟩ (.int .u64 d2[a + (k + 1)]!)).setCell ⟨g, a + (k + 1), none⟩ (.int .u64 d2[a]!)) (swp d2 a (a + (k + 1)))) := fun m => (hS.drewN m).swap a (a + (k + 1))
            clear hS
            go_wp2
            go_region
            all_goals
              go_wp2_with fail
              refine Calls.mono (sift_any g cap d.size 0 (k + 1) a (swp d2 a (a + (k + 1))) w0 _ (by first | exact HSw.out 1 | exact HSw.out _) (by rw [swp_size]; omega) (by rw [swp_size]; exact hd2) hn2 (by omega)) ?_
              rintro e w1 ⟨rfl, hS1⟩
              go_wp2
              go_roundw
              case rel => exact ⟨k + 1, _, by omega, by congr 1 <;> omega, hS1, by rw [sift_size, swp_size]; exact hd2, HE2⟩
              case measure => simp only [intOf]; omega
        | zero =>
          go_wp2
          go_end0
          exact ⟨rfl, by rw [HE.out]; exact hS⟩

end Go.Proofs.Ytmfoenhbldacfaa
/- The walk of the library's partitionEqual, at tags. -/
namespace Go.Proofs.Ytmfoenhbldacfaa
open Go.RowKit
open Go.Sort (swp PermIn SortedIn ltInt)
set_option linter.unusedVariables false

/-- How far a partition has come: what was looked at on the left has L, on the right R. -/
structure PS (L R : Int → Prop) (a b i q : Nat) (d1 d2 : Array Int) : Prop where
  lo : a + 1 ≤ i
  mid : i ≤ q + 1
  hi : q + 1 ≤ b
  fits : b ≤ d1.size
  perm : PermIn (a + 1) b d1 d2
  left : ∀ x, a + 1 ≤ x → x < i → L d2[x]!
  right : ∀ x, q < x → x < b → R d2[x]!

theorem PS.size {L R : Int → Prop} {a b i q : Nat} {d1 d2 : Array Int} (h : PS L R a b i q d1 d2) : d2.size = d1.size := h.perm.1
theorem PS.head {L R : Int → Prop} {a b i q : Nat} {d1 d2 : Array Int} (h : PS L R a b i q d1 d2) : d2[a]! = d1[a]! := h.perm.2.1 a (.inl (by omega))

theorem PS.start {L R : Int → Prop} {a b : Nat} {d1 : Array Int} (hab : a < b) (hb : b ≤ d1.size) : PS L R a b (a + 1) (b - 1) d1 d1 :=
  ⟨Nat.le_refl _, by omega, by omega, hb, Sort.permIn_refl _ _ _, fun x h1 h2 => by omega, fun x h1 h2 => by omega⟩

theorem PS.up {L R : Int → Prop} {a b i q : Nat} {d1 d2 : Array Int} (h : PS L R a b i q d1 d2) (hiq : i ≤ q) (hl : L d2[i]!) : PS L R a b (i + 1) q d1 d2 :=
  ⟨by have := h.lo; omega, by omega, h.hi, h.fits, h.perm, fun x h1 h2 => by
    by_cases e : x = i
    · subst e; exact hl
    · exact h.left x h1 (by omega), h.right⟩

theorem PS.down {L R : Int → Prop} {a b i q : Nat} {d1 d2 : Array Int} (h : PS L R a b i (q + 1) d1 d2) (hiq : i ≤ q + 1) (hr : R d2[q + 1]!) : PS L R a b i q d1 d2 :=
  ⟨h.lo, hiq, by have := h.hi; omega, h.fits, h.perm, h.left, fun x h1 h2 => by
    by_cases e : x = q + 1
    · subst e; exact hr
    · exact h.right x (by omega) h2⟩

theorem PS.swap {L R : Int → Prop} {a b i q : Nat} {d1 d2 : Array Int} (h : PS L R a b i (q + 1) d1 d2) (hiq : i < q + 1) (hr : R d2[i]!) (hl : L d2[q + 1]!) : PS L R a b (i + 1) q d1 (swp d2 i (q + 1)) := by
  have h1 := h.lo; have h2 := h.hi; have h3 := h.fits; have h4 := h.size
  refine ⟨by omega, by omega, by omega, h.fits, Sort.permIn_trans _ _ _ _ _ h.perm (Sort.swp_permIn _ _ _ _ _ (by omega) (by omega) (by omega) (by omega) (by omega)), fun x hx1 hx2 => ?_, fun x hx1 hx2 => ?_⟩
  · by_cases e : x = i
    · subst e; rw [Sort.swp_left _ _ _ (by omega) (by omega)]; exact hl
    · rw [Sort.swp_other _ _ _ _ e (by omega)]; exact h.left x hx1 (by omega)
  · by_cases e : x = q + 1
    · subst e; rw [Sort.swp_right _ _ _ (by omega)]; exact hr
    · rw [Sort.swp_other _ _ _ _ (by omega) e]; exact h.right x (by omega) hx2

set_option maxRecDepth 100000 in
set_option maxHeartbeats 4000000 in
theorem partEq_any (g cap n a b p : Nat) (d : Array Int) (w0 w : World) (h : SW g cap w0 w d) (hap : a ≤ p) (hpb : p < b) (hbn : b ≤ d.size) (hn : d.size = n) (hn2 : n ≤ 1000) :
    Calls Try.prog 79 #[.slice (some ⟨g, 0, none⟩) n cap, .int .i64 a, .int .i64 b, .int .i64 p] w fun e w' => ∃ i : Nat, ∃ d' : Array Int, e = .returned (.int .i64 i) ∧ a < i ∧ i ≤ b ∧ PS (fun x => x ≤ d[p]!) (fun x => d[p]! < x) a b i (i - 1) (swp d a p) d' ∧ SW g cap w0 w' d' := by
  subst hn
  have hab0 : a < b := by omega
  have ia : (a : Int) < (d.size : Int) := by omega
  have ip : (p : Int) < (d.size : Int) := by omega
  go_enter Try.func79, Try.ntmps79
  go_upto_region 1 with fail
  go_cut [8] (fun v w' => v = .int .i64 0 ∧ SW g cap w0 w' (swp d a p))
  case first =>
    have ca := h.cell (j := a) (by omega)
    have fa := h.free a
    by_cases e : p = a
    · subst e
      have HSw : Hid (∀ m, SW g cap w0 (((w.drewN m).setCell ⟨g, p, none⟩ (.int .u64 d[p]!)).setCell ⟨g, p, none⟩ (.int .u64 d[p]!)) (swp d p p)) := fun m => (h.drewN m).swap p p
      clear h
      go_region
      all_goals
        go_wp2_with fail
        go_meet
        exact ⟨rfl, by first | exact HSw.out 1 | exact HSw.out _⟩
    · have cp := h.cell (j := p) (by omega)
      have fp := h.free p
      have HSw : Hid (∀ m, SW g cap w0 (((w.drewN m).setCell ⟨g, a, none⟩ (.int .u64 d[p]!)).setCell ⟨g, p, none⟩ (.int .u64 d[a]!)) (swp d a p)) := fun m => (h.drewN m).swap a p
      have e2 : ¬ a = p := fun h => e h.symm
      clear h
      go_region
      all_goals
        go_wp2_with fail
        go_meet
        exact ⟨rfl, by first | exact HSw.out 1 | exact HSw.out _⟩
  case rest =>
    obtain ⟨rfl, hS0⟩ := hcut
    clear h
    have hv : (swp d a p)[a]! = d[p]! := by
      by_cases e : a = p
      · subst e; rw [Sort.swp_right _ _ _ (by omega)]
      · rw [Sort.swp_left _ _ _ (by omega) e]
    have hsz : (swp d a p).size = d.size := Sort.size_swp _ _ _
    obtain ⟨d1, HD⟩ : ∃ d1, Hid (d1 = swp d a p) := ⟨_, rfl⟩
    obtain ⟨v, HVV⟩ : ∃ v, Hid (v = d[p]!) := ⟨_, rfl⟩
    rw [← HD.out] at hS0 hv hsz
    rw [← HVV.out] at hv
    clear hap hpb ip
    have L1 : Hid (PS (fun x => x ≤ v) (fun x => v < x) a b (a + 1) (b - 1) d1 d1) := PS.start hab0 (by omega)
    go_wp2
    go_loopw [9, 10] (fun iv jv wr => ∃ i q : Nat, ∃ d2 : Array Int, iv = .int .i64 i ∧ jv = .int .i64 q ∧ a + 1 ≤ i ∧ i ≤ q + 1 ∧ q + 1 ≤ b ∧ SW g cap w0 wr d2 ∧ d2.size = d.size ∧ Hid (d2[a]! = v) ∧ Hid (PS (fun x => x ≤ v) (fun x => v < x) a b i q d1 d2)) (fun iv jv _ => ((intOf jv).toNat + 1 - (intOf iv).toNat))
    case atStart => exact ⟨a + 1, b - 1, d1, rfl, by congr 1; omega, by omega, by omega, by omega, hS0, hsz, hv, L1⟩
    case round =>
      clear hS0 L1 hv
      obtain ⟨i, q, d2, rfl, rfl, h1, h2, h3, hS, hd2, hva, HP⟩ := hrel
      go_upto_block 2 with fail
      go_cut [9] (fun iv w' => ∃ i2 : Nat, iv = .int .i64 i2 ∧ i ≤ i2 ∧ a + 1 ≤ i2 ∧ i2 ≤ q + 1 ∧ (i2 ≤ q → v < d2[i2]!) ∧ SW g cap w0 w' d2 ∧ Hid (PS (fun x => x ≤ v) (fun x => v < x) a b i2 q d1 d2))
      case first =>
        go_wp2_with fail
        go_loopw [9] (fun iv wr => ∃ i2 : Nat, iv = .int .i64 i2 ∧ i ≤ i2 ∧ a + 1 ≤ i2 ∧ i2 ≤ q + 1 ∧ SW g cap w0 wr d2 ∧ Hid (PS (fun x => x ≤ v) (fun x => v < x) a b i2 q d1 d2)) (fun iv _ => q + 1 - (intOf iv).toNat)
        case atStart => exact ⟨i, rfl, Nat.le_refl _, h1, h2, hS, HP⟩
        case round =>
          clear hS HP
          obtain ⟨i2, rfl, k0, k1, k2, hS, HP⟩ := hrel
          have ca := hS.cell (j := a) (by omega)
          rw [hva.out] at ca
          by_cases hiq : i2 ≤ q
          · have ci := hS.cell (j := i2) (by omega)
            have ii : (i2 : Int) < (d.size : Int) := by omega
            have g1 : decide ((i2 : Int) ≤ (q : Int)) = true := by simp; omega
            obtain ⟨x, hx⟩ : ∃ x, x = d2[i2]! := ⟨_, rfl⟩
            rw [← hx] at ci
            by_cases hvx : v < x
            · have HX : Hid (v < d2[i2]!) := by rw [Hid, ← hx]; exact hvx
              clear hx
              have gd : decide (v < x) = true := by simp [hvx]
              go_wp2_with fail
              go_quiet ((go_at_call 78; exact Calls.quiet_of_same (less_any _ _ _)))
              go_wp2_with fail
              go_meet
              exact ⟨i2, rfl, k0, k1, k2, fun _ => HX.out, hS.drewN _, HP⟩
            · have HP2 : Hid (PS (fun x => x ≤ v) (fun x => v < x) a b (i2 + 1) q d1 d2) := HP.out.up hiq (by rw [← hx]; exact Int.not_lt.1 hvx)
              have gd : decide (v < x) = false := by simp; omega
              clear hx
              go_wp2_with fail
              go_quiet ((go_at_call 78; exact Calls.quiet_of_same (less_any _ _ _)))
              go_wp2_with fail
              go_roundw
              case rel => exact ⟨i2 + 1, rfl, by omega, by omega, by omega, hS.drewN _, HP2⟩
              case measure => simp only [intOf]; omega
          · have g1 : decide ((i2 : Int) ≤ (q : Int)) = false := by simp; omega
            go_wp2_with fail
            go_quiet ((go_at_call 78; exact Calls.quiet_of_same (less_any _ _ _)))
            go_wp2_with fail
            go_meet
            exact ⟨i2, rfl, k0, k1, k2, fun h => absurd h hiq, hS.drewN _, HP⟩
      case rest =>
        clear hS HP
        obtain ⟨i2, rfl, k0, k1, k2, hx2, hS, HP⟩ := hcut
        have HI : Hid (i2 ≤ q → v < d2[i2]!) := hx2
        clear hx2
        obtain ⟨wo, rfl⟩ : ∃ wo : World, wo = wc := ⟨_, rfl⟩
        go_upto_block 4 with fail
        go_cut [10] (fun jv w' => ∃ q2 : Nat, jv = .int .i64 q2 ∧ q2 ≤ q ∧ i2 ≤ q2 + 1 ∧ (i2 ≤ q2 → ¬ v < d2[q2]!) ∧ SW g cap w0 w' d2 ∧ Hid (PS (fun x => x ≤ v) (fun x => v < x) a b i2 q2 d1 d2))
        case first =>
          go_wp2_with fail
          go_loopw [10] (fun jv wr => ∃ q2 : Nat, jv = .int .i64 q2 ∧ q2 ≤ q ∧ i2 ≤ q2 + 1 ∧ SW g cap w0 wr d2 ∧ Hid (PS (fun x => x ≤ v) (fun x => v < x) a b i2 q2 d1 d2)) (fun jv _ => (intOf jv).toNat)
          case atStart => exact ⟨q, rfl, Nat.le_refl _, k2, hS, HP⟩
          case round =>
            clear hS HP
            obtain ⟨q2, rfl, l0, l1, hS, HP⟩ := hrel
            have ca := hS.cell (j := a) (by omega)
            rw [hva.out] at ca
            by_cases hiq : i2 ≤ q2
            · obtain ⟨r, rfl⟩ : ∃ r, q2 = r + 1 := ⟨q2 - 1, by omega⟩
              have ci := hS.cell (j := r + 1) (by omega)
              have ii : (r : Int) + 1 < (d.size : Int) := by omega
              have g1 : decide ((i2 : Int) ≤ (r : Int) + 1) = true := by simp; omega
              obtain ⟨x, hx⟩ : ∃ x, x = d2[r + 1]! := ⟨_, rfl⟩
              rw [← hx] at ci
              by_cases hvx : v < x
              · have HP2 : Hid (PS (fun x => x ≤ v) (fun x => v < x) a b i2 r d1 d2) := HP.out.down hiq (by rw [← hx]; exact hvx)
                have gd : decide (v < x) = true := by simp [hvx]
                clear hx
                go_wp2_with fail
                go_quiet ((go_at_call 78; exact Calls.quiet_of_same (less_any _ _ _)))
                go_wp2_with fail
                go_roundw
                case rel => exact ⟨r, by go_num, by omega, by omega, hS.drewN _, HP2⟩
                case measure => simp only [intOf]; omega
              · have HX : Hid (¬ v < d2[r + 1]!) := by rw [Hid, ← hx]; exact hvx
                have gd : decide (v < x) = false := by simp; omega
                clear hx
                go_wp2_with fail
                go_quiet ((go_at_call 78; exact Calls.quiet_of_same (less_any _ _ _)))
                go_wp2_with fail
                go_meet
                exact ⟨r + 1, by go_num, l0, l1, fun _ => HX.out, hS.drewN _, HP⟩
            · have g1 : decide ((i2 : Int) ≤ (q2 : Int)) = false := by simp; omega
              go_wp2_with fail
              go_quiet ((go_at_call 78; exact Calls.quiet_of_same (less_any _ _ _)))
              go_wp2_with fail
              go_meet
              exact ⟨q2, rfl, l0, l1, fun h => absurd h hiq, hS.drewN _, HP⟩
        case rest =>
          clear hS HP
          obtain ⟨q2, rfl, l0, l1, hx2, hS, HP⟩ := hcut
          have HJ : Hid (i2 ≤ q2 → ¬ v < d2[q2]!) := hx2
          clear hx2
          obtain ⟨wp, rfl⟩ : ∃ wp : World, wp = wc := ⟨_, rfl⟩
          by_cases hiq : i2 ≤ q2
          · have hne : i2 ≠ q2 := fun e => by
              have := HI.out (by omega); have := HJ.out hiq; subst e; contradiction
            obtain ⟨r, rfl⟩ : ∃ r, q2 = r + 1 := ⟨q2 - 1, by omega⟩
            have HP2 : Hid (PS (fun x => x ≤ v) (fun x => v < x) a b (i2 + 1) r d1 (swp d2 i2 (r + 1))) := HP.out.swap (by omega) (HI.out (by omega)) (Int.not_lt.1 (HJ.out hiq))
            have HV2 : Hid ((swp d2 i2 (r + 1))[a]! = v) := by rw [Hid, Sort.swp_other _ _ _ _ (by omega) (by omega)]; exact hva.out
            have ci := hS.cell (j := i2) (by omega)
            have cq := hS.cell (j := r + 1) (by omega)
            have fi := hS.free i2
            have fq := hS.free (r + 1)
            have ii : (i2 : Int) < (d.size : Int) := by omega
            have iq : (r : Int) + 1 < (d.size : Int) := by omega
            have e1 : ¬ i2 = r + 1 := hne
            have e2 : ¬ r + 1 = i2 := fun h => hne h.symm
            have g1 : decide ((r : Int) + 1 < (i2 : Int)) = false := by simp; omega
            have HSw : Hid (∀ m, SW g cap w0 (((wp.drewN m).setCell ⟨g, i2, none⟩ (.int .u64 d2[r + 1]!)).setCell ⟨g, r + 1, none⟩ (.int .u64 d2[i2]!)) (swp d2 i2 (r + 1))) := fun m => (hS.drewN m).swap i2 (r + 1)
            clear hS HP hne
            go_wp2_with fail
            go_region
            all_goals
              go_wp2_with fail
              go_roundw
              case rel => exact ⟨i2 + 1, r, swp d2 i2 (r + 1), by go_num, by go_num, by omega, by omega, by omega, by first | exact HSw.out 1 | exact HSw.out _, by rw [swp_size]; exact hd2, HV2, HP2⟩
              case measure => simp only [intOf]; omega
          · have g1 : decide ((q2 : Int) < (i2 : Int)) = true := by simp; omega
            go_wp2_with fail
            go_ret
            exact ⟨i2, rfl, by omega, by omega, d2, by rw [show i2 - 1 = q2 by omega, ← HD.out, ← HVV.out]; exact HP.out, hS⟩

end Go.Proofs.Ytmfoenhbldacfaa
