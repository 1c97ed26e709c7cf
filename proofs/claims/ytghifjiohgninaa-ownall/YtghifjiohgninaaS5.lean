/- The walk of the library's partialInsertionSort, at fewer than 50 tags: it turns nothing. -/
import Derived.Test.YtghifjiohgninaaS1
namespace Go.Proofs.Ytghifjiohgninaa
open Go.RowKit
open Go.Sort (swp PermIn SortedIn ltInt)
set_option linter.unusedVariables false

set_option maxRecDepth 100000 in
set_option maxHeartbeats 2000000 in
theorem partial_any (g cap n a b l : Nat) (d : Array Int) (w0 w : World) (h : SW g cap w0 w d) (hl : 1 ≤ l) (hl2 : l < 50) (hb : b ≤ a + l) (hb2 : a + l ≤ b) (hbn : b ≤ d.size) (hn : d.size = n) (hn2 : n ≤ 1000) :
    Calls Try.prog 37 #[.slice (some ⟨g, 0, none⟩) n cap, .int .i64 a, .int .i64 b] w fun e w' => ∃ t : Bool, e = .returned (.bool t) ∧ (t = true → SortedIn ltInt a b d) ∧ SW g cap w0 w' d := by
  subst hn
  have hba : (b : Int) - (a : Int) = (l : Int) := by omega
  go_enter Try.func37, Try.ntmps37
  go_wp2
  go_loopw [7, 8] (fun iv jv wr => iv = .int .i64 ((a : Int) + 1) ∧ jv = .int .i64 0 ∧ SW g cap w0 wr d) (fun iv jv _ => 0)
  case atStart => exact ⟨rfl, rfl, h⟩
  case round =>
    obtain ⟨rfl, rfl, hS0⟩ := hrel
    clear h
    go_wp2
    go_loopw [7] (fun iv wr => ∃ i : Nat, a + 1 ≤ i ∧ i ≤ b ∧ iv = .int .i64 i ∧ SW g cap w0 wr d ∧ Hid (SortedIn ltInt a i d)) (fun iv _ => b - (intOf iv).toNat)
    case atStart => exact ⟨a + 1, Nat.le_refl _, by omega, rfl, hS0, fun i j h1 h2 h3 => by omega⟩
    case round =>
      clear hS0
      obtain ⟨i, hai, hib, rfl, hS, HO⟩ := hrel
      by_cases hlt : i < b
      · obtain ⟨q, rfl⟩ : ∃ q, i = q + 1 := ⟨i - 1, by omega⟩
        have c1 := hS.cell (j := q + 1) (by omega)
        have c0 := hS.cell (j := q) (by omega)
        have g1 : decide ((q : Int) + 1 < (b : Int)) = true := by simp; omega
        have i1 : (q : Int) + 1 < (d.size : Int) := by omega
        have i0 : (q : Int) < (d.size : Int) := by omega
        obtain ⟨x, hx⟩ : ∃ x, x = d[q + 1]! := ⟨_, rfl⟩
        obtain ⟨y, hy⟩ : ∃ y, y = d[q]! := ⟨_, rfl⟩
        rw [← hx] at c1
        rw [← hy] at c0
        by_cases hxy : x < y
        · have hne : decide ((q : Int) + 1 = (b : Int)) = false := by simp; omega
          clear hx hy
          go_wp2
          go_quiet ((go_at_call 38; exact Calls.quiet_of_same (less_any _ _ _)))
          go_wp2
          all_goals first
            | (exfalso; omega)
            | (go_ret; exact ⟨false, rfl, fun h => absurd h (by simp), hS.drewN _⟩)
        · have HO2 : Hid (SortedIn ltInt a (q + 1 + 1) d) := Sort.SortedIn.snoc Sort.swo_ltInt HO.out (by simp only [Nat.add_sub_cancel, ltInt, ← hx, ← hy]; simpa using hxy)
          have hd : decide (x < y) = false := by simp; omega
          clear hx hy HO
          go_wp2
          go_quiet ((go_at_call 38; exact Calls.quiet_of_same (less_any _ _ _)))
          go_wp2
          go_roundw
          case rel => exact ⟨q + 1 + 1, by omega, by omega, rfl, hS.drewN _, HO2⟩
          case measure => simp only [intOf]; omega
      · obtain rfl : i = b := by omega
        have g1 : decide ((i : Int) < (i : Int)) = false := by simp
        go_wp2
        go_quiet ((go_at_call 38; exact Calls.quiet_of_same (less_any _ _ _)))
        go_wp2
        go_ret
        exact ⟨true, rfl, fun _ => HO.out, hS.drewN _⟩

end Go.Proofs.Ytghifjiohgninaa
