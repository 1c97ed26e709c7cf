/- The document's slots: put, set. -/
import Derived.Test.YtbnikjjcjjabjaaG6
namespace Go.Proofs.Ytbnikjjcjjabjaa
open Go.RowKit
set_option linter.unusedVariables false

theorem layE_def {R : List (List Int)} {s : Nat} {b : List Int} (h0 : b ≠ []) (h1 : b.length ≤ 200) : layE R s b = if 0 ≤ freeR (setR R s b) then 0 else 25 := by
  rw [layE, if_neg (by intro h; rcases h with h | h; exact h0 h; omega)]
  by_cases e : 0 ≤ freeR (setR R s b)
  · rw [if_pos e, if_neg (by omega)]
  · rw [if_neg e, if_pos (by omega)]
theorem layR_def {R : List (List Int)} {s : Nat} {b : List Int} (h0 : b ≠ []) (h1 : b.length ≤ 200) : layR R s b = if 0 ≤ freeR (setR R s b) then setR R s b else R := by
  rw [layR, layE_def h0 h1]
  by_cases e : 0 ≤ freeR (setR R s b)
  · rw [if_pos e, if_pos rfl, if_pos e]
  · rw [if_neg e, if_neg (by decide), if_neg e]
theorem layR_long {R : List (List Int)} {s : Nat} {b : List Int} (h : b.length = 0 ∨ 200 < b.length) : layR R s b = R := by rw [layR, layE_long h, if_neg (by decide)]

set_option maxRecDepth 100000 in
set_option maxHeartbeats 1000000 in
theorem putS_any {W w : World} {q x n : Nat} {R : List (List Int)} {bad : Nat → Prop} {b : List Int} (h : Sl W.heap.size W w q R bad) (hR : R.length ≤ 62) (hRb : ∀ i, i < R.length → (rc R i).length ≤ 200)
    (hx : Bx8 W w x b) (hnx : ¬ bad x) (hbl : b.length = n) (hn : n ≤ 300) :
    Calls Try.prog 10 #[.pointer (some ⟨q, 0, none⟩), .slice (some ⟨x, 0, none⟩) n n] w fun e w' => e = .returned (.tuple #[.int .i64 (putS R b), .int .i64 (layE R (vac R) b)]) ∧ Sl W.heap.size W w' q (layR R (vac R) b) bad ∧ Rest q w w' := by
  by_cases hlong : n = 0 ∨ 200 < n
  · have e1 : layE R (vac R) b = 7 := layE_long (by omega)
    rw [putS, layR_long (by omega), e1, if_neg (by decide)]
    clear hRb hx
    rcases hlong with rfl | h2
    · go_enter Try.func10, Try.ntmps10
      go_wp2
      go_ret2
      exact ⟨rfl, h, Rest.refl q w⟩
    · have d0 : decide ((n : Int) = 0) = false := decide_eq_false (by omega)
      have d1 : ((n : Int) == 0) = false := by simp; omega
      have d2 : decide ((200 : Int) < (n : Int)) = true := decide_eq_true (by omega)
      have d3 : (200 : Int) < (n : Int) := by omega
      go_enter Try.func10, Try.ntmps10
      go_wp2
      go_ret2
      exact ⟨rfl, h, Rest.refl q w⟩
  · have hb0 : b ≠ [] := fun e => by rw [e] at hbl; simp at hbl; omega
    rw [putS, layE_def hb0 (by omega), layR_def hb0 (by omega)]
    have HT : Hid _ := tryS_any h hR hRb (vac_le R) hx hnx hb0 hbl (by omega)
    have hvn := vac_lt R
    have hvo := vac_out R
    have hvl := vac_le R
    obtain ⟨v, hv⟩ : ∃ v, vac R = v := ⟨_, rfl⟩
    rw [hv] at HT hvn hvo hvl ⊢
    obtain ⟨R5, hR5e⟩ : ∃ R5, setR R v b = R5 := ⟨_, rfl⟩
    rw [hR5e] at HT ⊢
    obtain ⟨f, hfe⟩ : ∃ f, freeR R5 = f := ⟨_, rfl⟩
    rw [hfe] at HT ⊢
    clear hv hR5e hfe
    obtain ⟨ao, c, hc, -, -, hlc, hcm, hcell⟩ := h.cells
    obtain ⟨m, hm⟩ : ∃ m, R.length = m := ⟨_, rfl⟩
    rw [hm] at hc hlc hcell hvl hR
    replace hcell : Hid _ := hcell
    replace hvn : Hid _ := hvn
    replace hvo : Hid _ := hvo
    have d0 : decide ((n : Int) = 0) = false := decide_eq_false (by omega)
    have d1 : ((n : Int) == 0) = false := by simp; omega
    have d2 : decide ((200 : Int) < (n : Int)) = false := decide_eq_false (by omega)
    have d3 : ¬ (200 : Int) < (n : Int) := by omega
    clear hm h hx hRb
    go_enter Try.func10, Try.ntmps10
    go_wp2
    go_loop [6] (fun i => ∃ k : Nat, k ≤ v ∧ i = .int .i64 (k : Int)) (fun i => v - (intOf i).toNat)
    case atStart => exact ⟨0, by omega, rfl⟩
    case round =>
      obtain ⟨k, hk, rfl⟩ := hrel
      by_cases hkv : k < v
      · obtain ⟨r, rfl, hr⟩ := hcell.out (by omega)
        obtain ⟨u, hu, hbv⟩ := hr k (by omega)
        have hne := hvn.out k hkv
        rcases hbv with ⟨e, -⟩ | ⟨-, y, rfl, -, -⟩
        · exact absurd e hne
        · have d4 : decide ((k : Int) < (m : Int)) = true := decide_eq_true (by omega)
          have d5 : (k : Int) < (m : Int) := by omega
          clear hr hne
          go_wp2
          go_round
          case rel => exact ⟨k + 1, by omega, by go_num⟩
          case measure => simp [intOf]; omega
      · obtain rfl : k = v := by omega
        have hgo : Hid (∀ w' : World, w' = w → Calls Try.prog 25 #[.pointer (some ⟨q, 0, none⟩), .int .i64 (k : Int), .slice (some ⟨x, 0, none⟩) n n] w' fun e w' => e = .returned (.bool (decide (0 ≤ f))) ∧ Sl W.heap.size W w' q (if 0 ≤ f then R5 else R) bad ∧ Rest q w w') := fun w' e => e ▸ HT.out
        clear HT hvn
        by_cases hkm : k < m
        · obtain ⟨r, rfl, hr⟩ := hcell.out (by omega)
          obtain ⟨u, hu, hbv⟩ := hr k (by omega)
          rcases hbv with ⟨-, rfl⟩ | ⟨e, -⟩
          · have d4 : decide ((k : Int) < (m : Int)) = true := decide_eq_true (by omega)
            have d5 : (k : Int) < (m : Int) := by omega
            clear hr hcell
            go_wp2_with fail
            refine Calls.mono (hgo.out _ rfl) ?_
            rintro e w' ⟨rfl, hsl, hre⟩
            by_cases h0 : 0 ≤ f
            · have d6 : decide (0 ≤ f) = true := decide_eq_true h0
              rw [if_pos h0] at hsl
              replace hsl : Hid _ := hsl
              go_wp2
              go_ret2
              exact ⟨by simp, by first | exact hsl.out | (rw [if_pos h0]; exact hsl.out), hre⟩
            · have d6 : decide (0 ≤ f) = false := decide_eq_false h0
              rw [if_neg h0] at hsl
              replace hsl : Hid _ := hsl
              go_wp2
              go_ret2
              exact ⟨by simp, by first | exact hsl.out | (rw [if_neg (by omega)]; exact hsl.out), hre⟩
          · exact absurd hvo.out e
        · have d4 : decide ((k : Int) < (m : Int)) = false := decide_eq_false (by omega)
          have d5 : ¬ (k : Int) < (m : Int) := by omega
          clear hcell
          go_wp2_with fail
          refine Calls.mono (hgo.out _ rfl) ?_
          rintro e w' ⟨rfl, hsl, hre⟩
          by_cases h0 : 0 ≤ f
          · have d6 : decide (0 ≤ f) = true := decide_eq_true h0
            rw [if_pos h0] at hsl
            replace hsl : Hid _ := hsl
            go_wp2
            go_ret2
            exact ⟨by simp, by first | exact hsl.out | (rw [if_pos h0]; exact hsl.out), hre⟩
          · have d6 : decide (0 ≤ f) = false := decide_eq_false h0
            rw [if_neg h0] at hsl
            replace hsl : Hid _ := hsl
            go_wp2
            go_ret2
            exact ⟨by simp, by first | exact hsl.out | (rw [if_neg (by omega)]; exact hsl.out), hre⟩

theorem setS_any {W w : World} {q x n s : Nat} {R : List (List Int)} {bad : Nat → Prop} {b : List Int} (h : Sl W.heap.size W w q R bad) (hR : R.length ≤ 62) (hRb : ∀ i, i < R.length → (rc R i).length ≤ 200)
    (hs : rc R s ≠ []) (hx : Bx8 W w x b) (hnx : ¬ bad x) (hbl : b.length = n) (hn : n ≤ 300) :
    Calls Try.prog 15 #[.pointer (some ⟨q, 0, none⟩), .int .i64 (s : Int), .slice (some ⟨x, 0, none⟩) n n] w fun e w' => e = .returned (.int .i64 (layE R s b)) ∧ Sl W.heap.size W w' q (layR R s b) bad ∧ Rest q w w' := by
  have HH := hasS_any h (s : Int)
  rw [hasZ_nat, show (!(rc R s).isEmpty) = true from by simpa using hs] at HH
  replace HH : Hid _ := HH
  by_cases hlong : n = 0 ∨ 200 < n
  · have e1 : layE R s b = 7 := layE_long (by omega)
    rw [layR_long (by omega), e1]
    clear hRb hx
    rcases hlong with rfl | h2
    · go_enter Try.func15, Try.ntmps15
      go_wp2_with fail
      refine Calls.mono HH.out ?_
      rintro e w1 ⟨rfl, rfl⟩
      go_wp2
      go_ret
      exact ⟨rfl, h, Rest.refl q _⟩
    · have d0 : decide ((n : Int) = 0) = false := decide_eq_false (by omega)
      have d1 : ((n : Int) == 0) = false := by simp; omega
      have d2 : decide ((200 : Int) < (n : Int)) = true := decide_eq_true (by omega)
      have d3 : (200 : Int) < (n : Int) := by omega
      go_enter Try.func15, Try.ntmps15
      go_wp2_with fail
      refine Calls.mono HH.out ?_
      rintro e w1 ⟨rfl, rfl⟩
      go_wp2
      go_ret
      exact ⟨rfl, h, Rest.refl q _⟩
  · have hb0 : b ≠ [] := fun e => by rw [e] at hbl; simp at hbl; omega
    rw [layE_def hb0 (by omega), layR_def hb0 (by omega)]
    have HT : Hid _ := tryS_any h hR hRb (Nat.le_of_lt (rc_lt hs)) hx hnx hb0 hbl (by omega)
    obtain ⟨R5, hR5e⟩ : ∃ R5, setR R s b = R5 := ⟨_, rfl⟩
    rw [hR5e] at HT ⊢
    obtain ⟨f, hfe⟩ : ∃ f, freeR R5 = f := ⟨_, rfl⟩
    rw [hfe] at HT ⊢
    have d0 : decide ((n : Int) = 0) = false := decide_eq_false (by omega)
    have d1 : ((n : Int) == 0) = false := by simp; omega
    have d2 : decide ((200 : Int) < (n : Int)) = false := decide_eq_false (by omega)
    have d3 : ¬ (200 : Int) < (n : Int) := by omega
    clear hR5e hfe hx hRb h hs
    go_enter Try.func15, Try.ntmps15
    go_wp2_with fail
    refine Calls.mono HH.out ?_
    rintro e w1 ⟨rfl, rfl⟩
    clear HH
    go_wp2_with fail
    refine Calls.mono HT.out ?_
    rintro e w' ⟨rfl, hsl, hre⟩
    by_cases h0 : 0 ≤ f
    · have d6 : decide (0 ≤ f) = true := decide_eq_true h0
      rw [if_pos h0] at hsl
      replace hsl : Hid _ := hsl
      go_wp2
      go_ret
      exact ⟨by simp, by first | exact hsl.out | (rw [if_pos h0]; exact hsl.out), hre⟩
    · have d6 : decide (0 ≤ f) = false := decide_eq_false h0
      rw [if_neg h0] at hsl
      replace hsl : Hid _ := hsl
      go_wp2
      go_ret
      exact ⟨by simp, by first | exact hsl.out | (rw [if_neg (by omega)]; exact hsl.out), hre⟩
theorem setS_no {W w : World} {q : Nat} {R : List (List Int)} {bad : Nat → Prop} {z : Int} (h : Sl W.heap.size W w q R bad) (hz : hasZ R z = false) (v : Value) : Calls Try.prog 15 #[.pointer (some ⟨q, 0, none⟩), .int .i64 z, v] w fun e w' => e = .returned (.int .i64 22) ∧ w' = w := by
  have HH := hasS_any h z
  rw [hz] at HH
  replace HH : Hid _ := HH
  go_enter Try.func15, Try.ntmps15
  go_wp2_with fail
  refine Calls.mono HH.out ?_
  rintro e w1 ⟨rfl, rfl⟩
  go_wp2
  go_ret
  exact ⟨rfl, rfl⟩

end Go.Proofs.Ytbnikjjcjjabjaa
