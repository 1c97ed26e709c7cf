/- The walk of the library's breakPatterns, at fewer than 50 tags: a permutation, whatever it draws. -/
import Derived.Test.YtghifjiohgninaaS9
namespace Go.Proofs.Ytghifjiohgninaa
open Go.RowKit
open Go.Sort (swp PermIn SortedIn ltInt)
set_option linter.unusedVariables false

theorem SC.swap {ik : IntKind} {t : TypeId} {g cap : Nat} {w0 w : World} {d : Array Int} {s : Nat} {v : Int} (h : SC ik t g cap w0 w d s v) (i j : Nat) : SC ik t g cap w0 ((w.setCell ⟨g, i, none⟩ (.int .u16 d[j]!)).setCell ⟨g, j, none⟩ (.int .u16 d[i]!)) (swp d i j) s v :=
  ⟨h.sw.swap i j, h.ne, h.new, by rw [Below.heap_setCell _ _ _ _ h.ne, Below.heap_setCell _ _ _ _ h.ne]; exact h.box⟩

set_option maxRecDepth 100000 in
set_option maxHeartbeats 4000000 in
theorem break_any (g cap n a b l : Nat) (d : Array Int) (w0 w : World) (h : SW g cap w0 w d) (hl : 8 ≤ l) (hl2 : l < 50) (hb : b ≤ a + l) (hb2 : a + l ≤ b) (hbn : b ≤ d.size) (hn : d.size = n) (hn2 : n ≤ 1000) :
    Calls Try.prog 34 #[.slice (some ⟨g, 0, none⟩) n cap, .int .i64 a, .int .i64 b] w fun e w' => e = .returned (.tuple #[]) ∧ ∃ d' : Array Int, PermIn a b d d' ∧ SW g cap w0 w' d' := by
  subst hn
  have hba : (b : Int) - (a : Int) = (l : Int) := by omega
  obtain ⟨m, hm⟩ : ∃ m, m = l / 4 := ⟨_, rfl⟩
  have hq : (l : Int) / 4 = (m : Int) := by omega
  have hm1 : 2 ≤ m := by omega
  have hm2 : m * 4 ≤ l := by omega
  clear hm
  obtain ⟨p1, -, p3⟩ := pow_small l (by omega) hl
  obtain ⟨M, hM⟩ : ∃ M, 2 ^ Lib.bitLen l = M + 1 := ⟨2 ^ Lib.bitLen l - 1, by omega⟩
  have HN : Hid (∀ w, Calls Try.prog 44 #[.int .i64 l] w fun e w' => e = .returned (.int .u64 (M + 1 : Nat)) ∧ w' = w) := fun w => by
    have := next_any l hl (by omega) w
    rw [hM] at this
    exact this
  rw [hM] at p1 p3
  clear hM
  go_enter Try.func34, Try.ntmps34
  go_wp2_with fail
  have h1 := SC.make (ik := .u64) (t := 63) (v := (l : Int)) h
  have hle : (l : Int) % 18446744073709551616 = (l : Int) := by omega
  refine Calls.mono (HN.out _) ?_
  rintro e w1 ⟨rfl, rfl⟩
  generalize hs : w.heap.size = s at *
  generalize hW : World.alloc w _ = W at *
  clear hW h hs
  go_wp2_with fail
  go_loopw [9] (fun iv wr => ∃ j : Nat, ∃ d1 : Array Int, ∃ y : Int, iv = .int .i64 j ∧ a + m * 2 ≤ j + 1 ∧ j ≤ a + m * 2 + 2 ∧ SC .u64 63 g cap w0 wr d1 s y ∧ d1.size = d.size ∧ Hid (PermIn a b d d1)) (fun iv _ => a + m * 2 + 2 - (intOf iv).toNat)
  case atStart => exact ⟨a + m * 2 - 1, d, l, by congr 1; omega, by omega, by omega, h1, rfl, Sort.permIn_refl _ _ _⟩
  case round =>
    clear h1
    obtain ⟨j, d1, y, rfl, hj1, hj2, hS, hd1, HP⟩ := hrel
    by_cases hlt : j ≤ a + m * 2 + 1
    · have g1 : decide ((j : Int) ≤ (a : Int) + (m : Int) * 2 + 1) = true := by simp; omega
      go_wp2_with fail
      refine Calls.mono (rnd_any g cap s y d1 w0 _ hS) ?_
      rintro e w2 ⟨y2, rfl, hy0, hy1, h2⟩
      clear hS
      obtain ⟨o, ho⟩ : ∃ o : Nat, bits .and .u64 y2 (M : Int) = (o : Int) := ⟨(bits .and .u64 y2 (M : Int)).toNat, by have := and_range y2 (M : Int); omega⟩
      have hoM : o ≤ M := by have := and_le y2 M (by omega); omega
      have cj := h2.sw.cell (j := j) (by omega)
      have fj := h2.sw.free j
      have ij : (j : Int) < (d.size : Int) := by omega
      by_cases hol : l ≤ o
      · obtain ⟨r, rfl⟩ : ∃ r, o = l + r := ⟨o - l, by omega⟩
        have g2 : decide ((l : Int) ≤ (l : Int) + (r : Int)) = true := by simp; omega
        have er : (l : Int) + (r : Int) - (l : Int) = (r : Int) := by omega
        by_cases hal : a + r = j
        · have HSw : Hid (∀ m, SC .u64 63 g cap w0 (((w2.drewN m).setCell ⟨g, j, none⟩ (.int .u16 d1[j]!)).setCell ⟨g, j, none⟩ (.int .u16 d1[j]!)) (swp d1 j j) s y2) := fun m => (h2.drewN m).swap j j
          have HPm : Hid (PermIn a b d (swp d1 j j)) := Sort.permIn_trans _ _ _ _ _ HP.out (Sort.swp_permIn _ _ _ _ _ (by omega) (by omega) (by omega) (by omega) (by omega))
          have es : (a : Int) + (r : Int) = (j : Int) := by omega
          clear h2 HP
          go_wp2_with fail
          go_region
          all_goals
            go_wp2_with fail
            go_roundw
            case rel => exact ⟨j + 1, swp d1 j j, y2, by go_num, by omega, by omega, by first | exact HSw.out 1 | exact HSw.out _, by rw [swp_size]; exact hd1, HPm⟩
            case measure => simp only [intOf]; omega
        · have ct := h2.sw.cell (j := a + r) (by omega)
          have ft := h2.sw.free (a + r)
          have it : (a : Int) + (r : Int) < (d.size : Int) := by omega
          have it0 : (0 : Int) ≤ (a : Int) + (r : Int) := by omega
          have itn : ((a : Int) + (r : Int)).toNat = a + r := by omega
          have itw : IntKind.i64.wrap ((a : Int) + (r : Int)) = (a : Int) + (r : Int) := by rw [IntKind.wrap_i64]; omega
          have e1 : ¬ j = a + r := fun h => hal h.symm
          have HSw : Hid (∀ m, SC .u64 63 g cap w0 (((w2.drewN m).setCell ⟨g, j, none⟩ (.int .u16 d1[a + r]!)).setCell ⟨g, a + r, none⟩ (.int .u16 d1[j]!)) (swp d1 j (a + r)) s y2) := fun m => (h2.drewN m).swap j (a + r)
          have HPm : Hid (PermIn a b d (swp d1 j (a + r))) := Sort.permIn_trans _ _ _ _ _ HP.out (Sort.swp_permIn _ _ _ _ _ (by omega) (by omega) (by omega) (by omega) (by omega))
          clear h2 HP
          go_wp2_with fail
          go_region
          all_goals
            go_wp2_with fail
            go_roundw
            case rel => exact ⟨j + 1, swp d1 j (a + r), y2, by go_num, by omega, by omega, by first | exact HSw.out 1 | exact HSw.out _, by rw [swp_size]; exact hd1, HPm⟩
            case measure => simp only [intOf]; omega
      · have g2 : decide ((l : Int) ≤ (o : Int)) = false := by simp; omega
        by_cases hal : a + o = j
        · have HSw : Hid (∀ m, SC .u64 63 g cap w0 (((w2.drewN m).setCell ⟨g, j, none⟩ (.int .u16 d1[j]!)).setCell ⟨g, j, none⟩ (.int .u16 d1[j]!)) (swp d1 j j) s y2) := fun m => (h2.drewN m).swap j j
          have HPm : Hid (PermIn a b d (swp d1 j j)) := Sort.permIn_trans _ _ _ _ _ HP.out (Sort.swp_permIn _ _ _ _ _ (by omega) (by omega) (by omega) (by omega) (by omega))
          have es : (a : Int) + (o : Int) = (j : Int) := by omega
          clear h2 HP
          go_wp2_with fail
          go_region
          all_goals
            go_wp2_with fail
            go_roundw
            case rel => exact ⟨j + 1, swp d1 j j, y2, by go_num, by omega, by omega, by first | exact HSw.out 1 | exact HSw.out _, by rw [swp_size]; exact hd1, HPm⟩
            case measure => simp only [intOf]; omega
        · have ct := h2.sw.cell (j := a + o) (by omega)
          have ft := h2.sw.free (a + o)
          have it : (a : Int) + (o : Int) < (d.size : Int) := by omega
          have it0 : (0 : Int) ≤ (a : Int) + (o : Int) := by omega
          have itn : ((a : Int) + (o : Int)).toNat = a + o := by omega
          have itw : IntKind.i64.wrap ((a : Int) + (o : Int)) = (a : Int) + (o : Int) := by rw [IntKind.wrap_i64]; omega
          have e1 : ¬ j = a + o := fun h => hal h.symm
          have HSw : Hid (∀ m, SC .u64 63 g cap w0 (((w2.drewN m).setCell ⟨g, j, none⟩ (.int .u16 d1[a + o]!)).setCell ⟨g, a + o, none⟩ (.int .u16 d1[j]!)) (swp d1 j (a + o)) s y2) := fun m => (h2.drewN m).swap j (a + o)
          have HPm : Hid (PermIn a b d (swp d1 j (a + o))) := Sort.permIn_trans _ _ _ _ _ HP.out (Sort.swp_permIn _ _ _ _ _ (by omega) (by omega) (by omega) (by omega) (by omega))
          clear h2 HP
          go_wp2_with fail
          go_region
          all_goals
            go_wp2_with fail
            go_roundw
            case rel => exact ⟨j + 1, swp d1 j (a + o), y2, by go_num, by omega, by omega, by first | exact HSw.out 1 | exact HSw.out _, by rw [swp_size]; exact hd1, HPm⟩
            case measure => simp only [intOf]; omega
    · have g1 : decide ((j : Int) ≤ (a : Int) + (m : Int) * 2 + 1) = false := by simp; omega
      go_wp2_with fail
      go_end0
      exact ⟨rfl, d1, HP.out, hS.sw⟩

end Go.Proofs.Ytghifjiohgninaa
