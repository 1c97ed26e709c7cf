/- The walks of value's mayByte, mayText, May and of the document's MayValue. -/
import Derived.Test.YtdeplfhkeneabaaV3
namespace Go.Proofs.Ytdeplfhkeneabaa
open Go.RowKit
set_option linter.unusedVariables false

theorem mayByte_any (x : Int) (w : World) : Calls Try.prog 33 #[.int .u8 x] w fun e w' => e = .returned (.bool (okB x)) ∧ w' = w := by
  by_cases h : 32 ≤ x
  · have e : okB x = decide (x ≤ 126) := by simp [okB, h]
    rw [e]
    have h1 : decide ((32 : Int) ≤ x) = true := by simpa using h
    clear e
    go_enter Try.func33, Try.ntmps33
    go_wp2
    go_ret
    exact ⟨rfl, rfl⟩
  · have e : okB x = false := by simp [okB, h]
    rw [e]
    have h1 : decide ((32 : Int) ≤ x) = false := by simpa using h
    clear e
    go_enter Try.func33, Try.ntmps33
    go_wp2
    go_ret
    exact ⟨rfl, rfl⟩

theorem all_step {l : List Int} {k : Nat} (hk : k < l.length) (h : (l.take k).all okB = true) (hx : okB (nth l k) = true) : (l.take (k + 1)).all okB = true := by
  rw [List.take_add_one, List.all_append, h, List.getElem?_eq_getElem hk]
  rw [nth, List.getElem?_eq_getElem hk] at hx
  simpa using hx
theorem all_fault {l : List Int} {k : Nat} (hk : k < l.length) (hx : okB (nth l k) = false) : l.all okB = false := by
  cases e : l.all okB with
  | false => rfl
  | true =>
    have := List.all_eq_true.1 e _ (nth_mem hk)
    rw [hx] at this; cases this
theorem all_end {l : List Int} {k : Nat} (hk : l.length ≤ k) (h : (l.take k).all okB = true) : l.all okB = true := by rwa [List.take_of_length_le hk] at h

set_option maxRecDepth 100000 in
theorem mayText_any (s : ByteArray) (hs : s.size ≤ 9223372036854775807) (w : World) : Calls Try.prog 30 #[.string s] w fun e w' => e = .returned (.bool (mayT (nums s))) ∧ w' = w := by
  have hlen := nums_len s
  by_cases h30 : 30 < s.size
  · have e : mayT (nums s) = false := by rw [mayT, hlen]; simp; omega
    rw [e]
    clear e hlen
    go_enter Try.func30, Try.ntmps30
    go_wp2
    go_ret
    exact ⟨rfl, rfl⟩
  · have e : mayT (nums s) = (nums s).all okB := by rw [mayT, hlen]; simp; omega
    rw [e]
    clear e
    replace hlen : Hid _ := hlen
    go_enter Try.func30, Try.ntmps30
    go_wp2
    go_loopw [3] (fun i wr => ∃ k : Nat, k ≤ s.size ∧ i = .int .i64 k ∧ Hid (((nums s).take k).all okB = true) ∧ wr = w) (fun i _ => s.size - (intOf i).toNat)
    case atStart => exact ⟨0, by omega, rfl, by simp [Hid], rfl⟩
    case round =>
      obtain ⟨k, hk, rfl, HD, rfl⟩ := hrel
      by_cases hlt : k < s.size
      · have hat : Hid _ := nums_nth s k hlt
        have HM := mayByte_any ((s[k].toNat : Int)) wr
        cases hx : okB ((s[k].toNat : Int)) with
        | true =>
          rw [hx] at HM
          replace HM : Hid _ := HM
          replace hx : Hid _ := hx
          go_wp2_with fail
          refine Calls.mono HM.out ?_
          rintro e w1 ⟨rfl, rfl⟩
          clear HM
          go_wp2
          go_roundw
          case rel => exact ⟨k + 1, by omega, by go_num, all_step (by rw [hlen.out]; exact hlt) HD.out (by rw [hat.out]; exact hx.out), trivial⟩
          case measure => simp only [intOf]; omega
        | false =>
          rw [hx] at HM
          replace HM : Hid _ := HM
          replace hx : Hid _ := hx
          go_wp2_with fail
          refine Calls.mono HM.out ?_
          rintro e w1 ⟨rfl, rfl⟩
          clear HM
          go_wp2
          go_ret
          exact ⟨ret_bool (all_fault (k := k) (by rw [hlen.out]; exact hlt) (by rw [hat.out]; exact hx.out)).symm, rfl⟩
      · go_wp2
        go_ret
        exact ⟨ret_bool (all_end (by rw [hlen.out]; omega) HD.out).symm, rfl⟩

theorem empty_nums (s : ByteArray) : s.toList.isEmpty = decide (nums s = []) := by
  rw [ByteArray.toList_eq, nums]
  cases s.data.toList <;> simp

set_option maxRecDepth 100000 in
theorem may_any (k n : Int) (s : ByteArray) (hs : s.size ≤ 9223372036854775807) (w : World) : Calls Try.prog 23 #[.agg #[.int .i64 k, .int .i64 n, .string s]] w fun e w' => e = .returned (.bool (mayV k n (nums s))) ∧ Below w.heap.size w w' := by
  have hb : Below w.heap.size w (w.alloc (.cells #[.int .i64 k, .int .i64 n, .string s] 35)) := (Below.refl _ _).alloc (Nat.le_refl _) _
  by_cases h1 : k = 1
  · subst h1
    have e : mayV 1 n (nums s) = s.toList.isEmpty := by rw [mayV, if_pos rfl, empty_nums]
    rw [e]
    clear e
    go_enter Try.func23, Try.ntmps23
    go_wp2
    go_ret
    exact ⟨rfl, hb⟩
  have g1 : (k == 1) = false := by simpa using h1
  by_cases h2 : k = 2
  · subst h2
    by_cases h0 : n = 0
    · subst h0
      have e : mayV 2 0 (nums s) = mayT (nums s) := by simp [mayV]
      rw [e]
      have HM : Hid (∀ w, _) := fun w => mayText_any s hs w
      clear e
      go_enter Try.func23, Try.ntmps23
      go_wp2_with fail
      refine Calls.mono (HM.out _) ?_
      rintro e w1 ⟨rfl, rfl⟩
      go_wp2
      go_ret
      exact ⟨rfl, hb⟩
    · have e : mayV 2 n (nums s) = false := by simp [mayV, h0]
      have g0 : (n == 0) = false := by simpa using h0
      rw [e]
      clear e
      go_enter Try.func23, Try.ntmps23
      go_wp2
      go_ret
      exact ⟨rfl, hb⟩
  · have g2 : (k == 2) = false := by simpa using h2
    have e : mayV k n (nums s) = false := by simp [mayV, h1, h2]
    rw [e]
    clear e
    go_enter Try.func23, Try.ntmps23
    go_wp2
    go_ret
    exact ⟨rfl, hb⟩

theorem okB_at {s : ByteArray} {k : Nat} (hk : k < s.size) {x : Int} (hx : (s[k].toNat : Int) = x) : okB (nth (nums s) k) = okB x := by rw [nums_nth s k hk, hx]

set_option maxRecDepth 100000 in
theorem refMay_any (k n : Int) (s : ByteArray) (hs : s.size ≤ 9223372036854775807) (w : World) : Calls Try.prog 16 #[.agg #[.int .i64 k, .int .i64 n, .string s]] w fun e w' => e = .returned (.bool (mayV k n (nums s))) ∧ Below w.heap.size w w' := by
  have hb : Below w.heap.size w (w.alloc (.cells #[.int .i64 k, .int .i64 n, .string s] 35)) := (Below.refl _ _).alloc (Nat.le_refl _) _
  by_cases h1 : k = 1
  · subst h1
    have e : mayV 1 n (nums s) = s.toList.isEmpty := by rw [mayV, if_pos rfl, empty_nums]
    rw [e]
    clear e
    go_enter Try.func16, Try.ntmps16
    go_wp2
    go_ret
    exact ⟨rfl, hb⟩
  have g1 : (k == 1) = false := by simpa using h1
  by_cases h2 : k = 2
  · subst h2
    by_cases h0 : n = 0
    · subst h0
      have e : mayV 2 0 (nums s) = mayT (nums s) := by simp [mayV]
      rw [e]
      clear e g1
      have hlen := nums_len s
      by_cases h30 : 30 < s.size
      · have e : mayT (nums s) = false := by rw [mayT, hlen]; simp; omega
        rw [e]
        clear e hlen
        go_enter Try.func16, Try.ntmps16
        go_wp2
        go_ret
        exact ⟨rfl, hb⟩
      · have e : mayT (nums s) = (nums s).all okB := by rw [mayT, hlen]; simp; omega
        rw [e]
        clear e
        replace hlen : Hid _ := hlen
        go_enter Try.func16, Try.ntmps16
        go_wp2
        go_loopw [3] (fun i wr => ∃ k : Nat, k ≤ s.size ∧ i = .int .i64 k ∧ Hid (((nums s).take k).all okB = true) ∧ wr = w.alloc (.cells #[.int .i64 2, .int .i64 0, .string s] 35)) (fun i _ => s.size - (intOf i).toNat)
        case atStart => exact ⟨0, by omega, rfl, by simp [Hid], rfl⟩
        case round =>
          obtain ⟨k, hk, rfl, HD, rfl⟩ := hrel
          by_cases hlt : k < s.size
          · have hat : Hid _ := nums_nth s k hlt
            cases hx : okB ((s[k].toNat : Int)) with
            | true =>
              have f := okB_iff.1 hx
              have f1 : decide (((s[k]).toNat : Int) < 32) = false := by simp; omega
              have f2 : decide (126 < ((s[k]).toNat : Int)) = false := by simp; omega
              replace hx : Hid _ := hx
              clear f
              go_wp2
              go_roundw
              case rel => exact ⟨k + 1, by omega, by go_num, all_step (by rw [hlen.out]; exact hlt) HD.out (by rw [hat.out]; exact hx.out), trivial⟩
              case measure => simp only [intOf]; omega
            | false =>
              have HF : Hid _ := all_fault (l := nums s) (k := k) (by rw [hlen.out]; exact hlt) (by rw [hat.out]; exact hx)
              clear hat
              by_cases hlo : ((s[k]).toNat : Int) < 32
              · have f1 : decide (((s[k]).toNat : Int) < 32) = true := by simpa using hlo
                clear hx
                go_wp2
                go_ret
                exact ⟨ret_bool HF.out.symm, hb⟩
              · have f1 : decide (((s[k]).toNat : Int) < 32) = false := by simpa using hlo
                have f2 : decide (126 < ((s[k]).toNat : Int)) = true := by
                  rw [okB, Bool.and_eq_false_iff, decide_eq_false_iff_not, decide_eq_false_iff_not] at hx
                  simp; omega
                clear hx
                go_wp2
                go_ret
                exact ⟨ret_bool HF.out.symm, hb⟩
          · go_wp2
            go_ret
            exact ⟨ret_bool (all_end (by rw [hlen.out]; omega) HD.out).symm, hb⟩
    · have e : mayV 2 n (nums s) = false := by simp [mayV, h0]
      have g0 : (n == 0) = false := by simpa using h0
      rw [e]
      clear e
      go_enter Try.func16, Try.ntmps16
      go_wp2
      go_ret
      exact ⟨rfl, hb⟩
  · have g2 : (k == 2) = false := by simpa using h2
    have e : mayV k n (nums s) = false := by simp [mayV, h1, h2]
    rw [e]
    clear e
    go_enter Try.func16, Try.ntmps16
    go_wp2
    go_ret
    exact ⟨rfl, hb⟩

end Go.Proofs.Ytdeplfhkeneabaa
