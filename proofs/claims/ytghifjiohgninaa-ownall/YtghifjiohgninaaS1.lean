/- The walk of the library's insertion sort, at tags. -/
import Derived.Test.YtghifjiohgninaaSw
namespace Go.Proofs.Ytghifjiohgninaa
open Go.RowKit
open Go.Sort (swp PermIn SortedIn ltInt)
set_option linter.unusedVariables false

theorem outer_go {lt : Int → Int → Bool} {a b i : Nat} {d : Array Int} (h : i < b) : Sort.insOuter lt a b i d = Sort.insOuter lt a b (i + 1) (Sort.insInner lt a i d) := by
  rw [Sort.insOuter, if_pos h]
theorem outer_end {lt : Int → Int → Bool} {a b i : Nat} {d : Array Int} (h : ¬ i < b) : Sort.insOuter lt a b i d = d := by
  rw [Sort.insOuter, if_neg h]
theorem inner_go {a q : Nat} {d : Array Int} (h : a < q + 1) (h2 : d[q + 1]! < d[q]!) : Sort.insInner ltInt a (q + 1) d = Sort.insInner ltInt a q (swp d (q + 1) q) := by
  rw [Sort.insInner, if_pos]; simp [ltInt, h, h2]
theorem inner_stop {a q : Nat} {d : Array Int} (h : ¬ d[q + 1]! < d[q]!) : Sort.insInner ltInt a (q + 1) d = d := by
  rw [Sort.insInner, if_neg]; simp [ltInt, h]
theorem inner_end {a : Nat} {d : Array Int} : Sort.insInner ltInt a a d = d := by
  cases a with
  | zero => rfl
  | succ a => rw [Sort.insInner, if_neg]; simp
theorem swp_size (d : Array Int) (i j : Nat) : (swp d i j).size = d.size := by simp [swp]

set_option maxHeartbeats 2000000 in
theorem ins_any (g cap n a b : Nat) (d : Array Int) (w0 w : World) (h : SW g cap w0 w d) (hab : a ≤ b) (hbn : b ≤ d.size) (hn : d.size = n) (hn2 : n ≤ 4611686018427387904) :
    Calls Try.prog 32 #[.slice (some ⟨g, 0, none⟩) n cap, .int .i64 a, .int .i64 b] w fun e w' => e = .returned (.tuple #[]) ∧ SW g cap w0 w' (Sort.insertionSort ltInt d a b) := by
  subst hn
  go_enter Try.func32, Try.ntmps32
  go_wp2
  go_loopw [6] (fun i wr => ∃ k : Nat, ∃ d1 : Array Int, a + 1 ≤ k ∧ (k ≤ b ∨ k = a + 1) ∧ i = .int .i64 k ∧ SW g cap w0 wr d1 ∧ d1.size = d.size ∧ Hid (Sort.insertionSort ltInt d a b = Sort.insOuter ltInt a b k d1)) (fun i _ => b - (intOf i).toNat)
  case atStart => exact ⟨a + 1, d, Nat.le_refl _, .inr rfl, by go_num, h, rfl, rfl⟩
  case round =>
    obtain ⟨k, d1, hk, hkb, rfl, hS, hd1, HE⟩ := hrel
    by_cases hlt : k < b
    · have HE2 : Hid (Sort.insertionSort ltInt d a b = Sort.insOuter ltInt a b (k + 1) (Sort.insInner ltInt a k d1)) := by rw [Hid, HE.out, outer_go hlt]
      obtain ⟨wo, hwo⟩ : ∃ wo : World, wo = wr := ⟨_, rfl⟩
      subst hwo
      clear HE h
      go_wp2
      go_loopw [7] (fun jv wr => ∃ j : Nat, ∃ d2 : Array Int, a ≤ j ∧ j ≤ k ∧ jv = .int .i64 j ∧ SW g cap w0 wr d2 ∧ d2.size = d.size ∧ Hid (Sort.insInner ltInt a k d1 = Sort.insInner ltInt a j d2)) (fun jv _ => (intOf jv).toNat)
      case atStart => exact ⟨k, d1, by omega, Nat.le_refl _, rfl, hS, hd1, rfl⟩
      case round =>
        clear hS
        obtain ⟨j, d2, haj, hjk, rfl, hS, hd2, HI⟩ := hrel
        by_cases hja : a < j
        · obtain ⟨q, rfl⟩ : ∃ q, j = q + 1 := ⟨j - 1, by omega⟩
          have c1 := hS.cell (j := q + 1) (by omega)
          have c0 := hS.cell (j := q) (by omega)
          have f1 := hS.free (q + 1)
          have f0 := hS.free q
          have g1 : decide ((a : Int) < (q : Int) + 1) = true := by simp; omega
          have i1 : (q : Int) + 1 < (d.size : Int) := by omega
          have i0 : (q : Int) < (d.size : Int) := by omega
          obtain ⟨x, hx⟩ : ∃ x, x = d2[q + 1]! := ⟨_, rfl⟩
          obtain ⟨y, hy⟩ : ∃ y, y = d2[q]! := ⟨_, rfl⟩
          rw [← hx] at c1
          rw [← hy] at c0
          by_cases hxy : x < y
          · have HI2 : Hid (Sort.insInner ltInt a k d1 = Sort.insInner ltInt a q (swp d2 (q + 1) q)) := by rw [Hid, HI.out, inner_go (by omega) (by rw [← hx, ← hy]; exact hxy)]
            have HX : Hid (x = d2[q + 1]! ∧ y = d2[q]!) := ⟨hx, hy⟩
            clear HI hx hy
            go_wp2
            go_quiet ((go_at_call 38; exact Calls.quiet_of_same (less_any _ _ _)))
            go_wp2
            generalize hW : wr.drewN nq = W
            have hSW : SW g cap w0 W d2 := by rw [← hW]; exact hS.drewN _
            have e1 : W.cell? ⟨g, q + 1, none⟩ = some (.int .u16 x) := by rw [← hW]; exact c1
            have e0 : W.cell? ⟨g, q, none⟩ = some (.int .u16 y) := by rw [← hW]; exact c0
            have e3 : W.frozen? ⟨g, q + 1, none⟩ = false := by rw [← hW]; exact f1
            have e4 : W.frozen? ⟨g, q, none⟩ = false := by rw [← hW]; exact f0
            have HSw : Hid (∀ m, SW g cap w0 (((W.drewN m).setCell ⟨g, q + 1, none⟩ (.int .u16 y)).setCell ⟨g, q, none⟩ (.int .u16 x)) (swp d2 (q + 1) q)) := fun m => by
              have := (hSW.drewN m).swap (q + 1) q
              rw [← HX.out.1, ← HX.out.2] at this
              exact this
            clear hW hS c1 c0 f1 f0
            go_region
            all_goals
              go_wp2
              go_roundw
              case rel => exact ⟨q, swp d2 (q + 1) q, by omega, by omega, by go_num, by first | exact HSw.out 1 | exact HSw.out _, by rw [swp_size]; exact hd2, HI2⟩
              case measure => simp only [intOf]; omega
          · have HI2 : Hid (Sort.insInner ltInt a k d1 = d2) := by rw [Hid, HI.out, inner_stop (by rw [← hx, ← hy]; exact hxy)]
            clear HI hx hy
            go_wp2
            go_quiet ((go_at_call 38; exact Calls.quiet_of_same (less_any _ _ _)))
            go_wp2
            go_roundw
            case rel => exact ⟨k + 1, d2, by omega, .inl (by omega), by go_num, hS.drewN _, hd2, by rw [← HI2.out]; exact HE2⟩
            case measure => simp only [intOf]; omega
        · obtain rfl : j = a := by omega
          have HI2 : Hid (Sort.insInner ltInt j k d1 = d2) := by rw [Hid, HI.out, inner_end]
          have g1 : decide ((j : Int) < (j : Int)) = false := by simp
          clear HI
          go_wp2
          go_quiet ((go_at_call 38; exact Calls.quiet_of_same (less_any _ _ _)))
          go_wp2
          go_roundw
          case rel => exact ⟨k + 1, d2, by omega, .inl (by omega), by go_num, hS.drewN _, hd2, by rw [← HI2.out]; exact HE2⟩
          case measure => simp only [intOf]; omega
    · go_wp2
      go_end0
      exact ⟨rfl, by rw [HE.out, outer_end hlt]; exact hS⟩

end Go.Proofs.Ytghifjiohgninaa
