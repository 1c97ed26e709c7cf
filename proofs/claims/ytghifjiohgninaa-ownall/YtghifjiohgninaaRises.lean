/- The walks of 'label.rises', 'quarantineref1.May', 'label.May' and of 'label.ordered' at tags that rise: they tell whether the tags rise and are few enough, and turn nothing. -/
import Derived.Test.YtghifjiohgninaaBase
namespace Go.Proofs.Ytghifjiohgninaa
open Go.RowKit
set_option linter.unusedVariables false

set_option maxHeartbeats 400000 in
theorem rises_any (ao : Option Addr) (n c : Nat) (xs : List Int) (w : World) (h : Rd .u16 w ao n c xs) :
    Calls Try.prog 26 #[.slice ao n c] w fun e w' => e = .returned (.bool (risesB xs)) ∧ Below w.heap.size w w' := by
  have hcap := h.cap
  have hmax := h.max
  have hlen := h.len
  by_cases hn : n ≤ 1
  · have hr : risesB xs = true := risesB_upTo (k := 1) (fun i hi => by omega) (by omega)
    rw [hr]; clear hr
    go_enter Try.func26, Try.ntmps26
    go_wp2
    refine wp_loop_rounds 1 ?_
    rw [rounds_succ]
    go_wp2
    go_ret
    exact ⟨rfl, Below.refl _ _⟩
  · obtain ⟨b, o, rfl, hc⟩ := h.cells (by omega)
    clear h
    go_enter Try.func26, Try.ntmps26
    go_wp2
    go_loopw [3] (fun i wr => ∃ k : Nat, 1 ≤ k ∧ k ≤ n ∧ i = .int .i64 k ∧ upTo xs k ∧ Below w.heap.size w wr) (fun i _ => n - (intOf i).toNat)
    case atStart => exact ⟨1, by omega, by omega, rfl, fun i hi => by omega, Below.refl _ _⟩
    case round =>
      obtain ⟨k, hk1, hk, rfl, hup, hb⟩ := hrel
      have HU : Hid (upTo xs k) := hup
      clear hup
      by_cases hlt : k < n
      · have hc1 := cell_later hb (hc (k - 1) (by omega))
        have hc2 := cell_later hb (hc k hlt)
        have hcmp : nth xs k ≤ nth xs (k - 1) ∨ nth xs (k - 1) < nth xs k := by omega
        rcases hcmp with hcmp | hcmp
        · go_wp2
          go_quiet (fail)
          go_wp2
          go_ret
          exact ⟨by rw [risesB_fault hk1 (by omega) hcmp]; rfl, below_drewN hb _⟩
        · go_wp2
          go_quiet (fail)
          go_wp2
          go_roundw
          case rel => exact ⟨k + 1, by omega, by omega, by go_num, upTo_step HU.out hcmp hk1, below_drewN hb _⟩
          case measure => simp only [intOf]; omega
      · go_wp2
        go_ret
        exact ⟨by rw [risesB_upTo HU.out (by omega)]; rfl, hb⟩

set_option maxHeartbeats 400000 in
theorem refMay_any (ao : Option Addr) (n c : Nat) (xs : List Int) (w : World) (h : Rd .u16 w ao n c xs) :
    Calls Try.prog 7 #[.slice ao n c] w fun e w' => e = .returned (.bool (risesB xs && decide (xs.length ≤ 8))) ∧ Below w.heap.size w w' := by
  have hcap := h.cap
  have hmax := h.max
  have hlen := h.len
  by_cases hn : n ≤ 1
  · have hr : risesB xs = true := risesB_upTo (k := 1) (fun i hi => by omega) (by omega)
    rw [hr, hlen, Bool.true_and]; clear hr
    go_enter Try.func7, Try.ntmps7
    go_wp2
    refine wp_loop_rounds 1 ?_
    rw [rounds_succ]
    go_wp2
    go_ret
    exact ⟨ret_bool (le8 n), Below.refl _ _⟩
  · obtain ⟨b, o, rfl, hc⟩ := h.cells (by omega)
    clear h
    go_enter Try.func7, Try.ntmps7
    go_wp2
    go_loopw [3] (fun i wr => ∃ k : Nat, 1 ≤ k ∧ k ≤ n ∧ i = .int .i64 k ∧ upTo xs k ∧ Below w.heap.size w wr) (fun i _ => n - (intOf i).toNat)
    case atStart => exact ⟨1, by omega, by omega, rfl, fun i hi => by omega, Below.refl _ _⟩
    case round =>
      obtain ⟨k, hk1, hk, rfl, hup, hb⟩ := hrel
      have HU : Hid (upTo xs k) := hup
      clear hup
      by_cases hlt : k < n
      · have hc1 := cell_later hb (hc (k - 1) (by omega))
        have hc2 := cell_later hb (hc k hlt)
        have hcmp : nth xs k ≤ nth xs (k - 1) ∨ nth xs (k - 1) < nth xs k := by omega
        rcases hcmp with hcmp | hcmp
        · go_wp2
          go_quiet (fail)
          go_wp2
          go_ret
          exact ⟨by rw [risesB_fault hk1 (by omega) hcmp]; rfl, below_drewN hb _⟩
        · go_wp2
          go_quiet (fail)
          go_wp2
          go_roundw
          case rel => exact ⟨k + 1, by omega, by omega, by go_num, upTo_step HU.out hcmp hk1, below_drewN hb _⟩
          case measure => simp only [intOf]; omega
      · go_wp2
        go_ret
        exact ⟨by rw [risesB_upTo HU.out (by omega), hlen, Bool.true_and]; exact ret_bool (le8 n), hb⟩


set_option maxHeartbeats 400000 in
theorem ordered_same (ao : Option Addr) (n c : Nat) (xs : List Int) (w : World) (h : Rd .u16 w ao n c xs) (hr : risesB xs = true) :
    Calls Try.prog 24 #[.slice ao n c] w fun e w' => e = .returned (.slice ao n c) ∧ Below w.heap.size w w' := by
  go_enter Try.func24, Try.ntmps24
  go_wp2_with (go_at_call 26; refine (rises_any ao n c xs w h).mono ?_; rintro e w' ⟨rfl, hb⟩)
  go_ret
  exact ⟨rfl, hb⟩

end Go.Proofs.Ytghifjiohgninaa
