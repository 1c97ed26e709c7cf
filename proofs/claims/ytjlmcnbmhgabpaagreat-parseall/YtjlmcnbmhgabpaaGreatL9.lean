/- The walk of the reader's word. -/
import Derived.Test.YtjlmcnbmhgabpaaGreatL8
namespace Go.Proofs.YtjlmcnbmhgabpaaGreat
open Go.RowKit
set_option linter.unusedVariables false

theorem oneW_name {s : ByteArray} {j : Nat} (h : got isL s j = true) : oneW s j = nameW s j := by rw [oneW, if_pos h]
theorem oneW_num {s : ByteArray} {j : Nat} (h : got isL s j = false) (h2 : got isDig s j = true) : oneW s j = numW s j := by rw [oneW, if_neg (by rw [h]; simp), if_pos h2]
theorem oneW_quo {s : ByteArray} {j : Nat} (h : got isL s j = false) (h2 : got isDig s j = false) (h3 : got (isB 39) s j = true) : oneW s j = quoW s j := by rw [oneW, if_neg (by rw [h]; simp), if_neg (by rw [h2]; simp), if_pos h3]
theorem oneW_sgn {s : ByteArray} {j : Nat} (h : got isL s j = false) (h2 : got isDig s j = false) (h3 : got (isB 39) s j = false) : oneW s j = sgnW s j := by rw [oneW, if_neg (by rw [h]; simp), if_neg (by rw [h2]; simp), if_neg (by rw [h3]; simp)]

set_option maxRecDepth 100000 in
set_option maxHeartbeats 2000000 in
theorem word_any' {g : Nat} {s : ByteArray} {k : Nat} {w : World} (h : Rr w g s k) (hs : s.size ≤ 400) (hk : k ≤ s.size) :
    Calls Tryz.prog 35 #[.pointer (some ⟨g, 0, none⟩)] w fun e w' => e = .returned (wrA (wordW s k)) ∧ But g w w' ∧ ((wordW s k).er = 0 → Rr w' g s (wordW s k).nx) := by
  have hgl := h.lt
  have hge := till_ge (isB 32) s k
  have hle := till_le (p := isB 32) hk
  have h0 := h.alloc (.cells #[.int .i64 0, .string ⟨#[]⟩, .int .i64 0, .int .i64 0] 45)
  have z0 := Zr.new w
  have HI : Hid (∀ n w', _) := fun n w' => is_any n w'
  have HK : Hid (∀ (v : Value) (w' : World), Rr w' g s k → Such g (isB 32) w' v → _) := fun v w' hr hv => skip_any hr (by omega) hk hv
  have HX : Hid (∀ (p : UInt8 → Bool) (v : Value) (w' : World), Rr w' g s (till (isB 32) s k) → Such g p w' v → _) := fun p v w' hr hv => next_any hr (by omega) hle hv
  unfold wordW
  generalize till (isB 32) s k = j at *
  have hwj : IntKind.i64.wrap (j : Int) = j := by rw [IntKind.wrap_i64]; omega
  by_cases hjs : j = s.size
  · rw [show endW s j = wrd (6, ⟨#[]⟩, 0, j) j from by rw [endW, if_pos hjs]]
    have gj : ((j : Int) == (s.size : Int)) = true := by simp; omega
    clear HX
    replace hjs : Hid _ := hjs
    go_enter Tryz.func35, Tryz.ntmps35
    go_wp2_with fail
    refine Calls.mono (HI.out 32 _) ?_
    rintro e w1 ⟨v1, rfl, hv1, hb1⟩
    have hr1 := h0.later hb1
    have z1 := z0.later hb1
    have hb : But g w w1 := (But.of hb1).behind
    replace hv1 := hv1 g (by simp; omega)
    clear hb1 h z0 h0
    go_wp2_with fail
    refine Calls.mono (HK.out v1 w1 hr1 hv1) ?_
    rintro e w2 ⟨rfl, hr2, hb2⟩
    have z2 := z1.but hb2 (by omega)
    replace hb := hb.trans hb2
    have k0 := hr2.c0
    have k1 := hr2.c1
    clear hb2 hr1 z1 hv1 HK
    go_wp2
    go_quiet (fail)
    have hr3 := hr2.drewN nq
    have z3 : Zr (w2.drewN nq) w.heap.size := ⟨z2.row⟩
    replace hb := hb.rdrew nq
    clear k0 k1 hr2 z2
    generalize w2.drewN nq = w3 at *
    have k1 := hr3.c1
    obtain ⟨c0, c1, c2, c3⟩ := z3.cells
    obtain ⟨f0, f1, f2, f3⟩ := z3.free
    go_wp2
    all_goals refine bodyPost_ret (v := wrA (wrd (6, ⟨#[]⟩, 0, j) j)) (by simp [results, Tryz.results35, go_sem, c0, c1, c2, c3, wrA, tkA, wrd]) rfl ⟨rfl, hb.new4 (Nat.le_refl _) _ _ _ _, fun _ => hr3.other4 (by omega) _ _ _ _⟩
  rw [show endW s j = oneW s j from by rw [endW, if_neg hjs]]
  have gj : ((j : Int) == (s.size : Int)) = false := by simp; omega
  have hjl : j < s.size := by omega
  replace hjs : Hid _ := hjs
  cases g1 : got isL s j with
  | true =>
    rw [oneW_name g1]
    go_enter Tryz.func35, Tryz.ntmps35
    go_wp2_with fail
    refine Calls.mono (HI.out 32 _) ?_
    rintro e w1 ⟨v1, rfl, hv1, hb1⟩
    have hr1 := h0.later hb1
    have z1 := z0.later hb1
    have hb : But g w w1 := (But.of hb1).behind
    replace hv1 := hv1 g (by simp; omega)
    clear hb1 h z0 h0
    go_wp2_with fail
    refine Calls.mono (HK.out v1 w1 hr1 hv1) ?_
    rintro e w2 ⟨rfl, hr2, hb2⟩
    have z2 := z1.but hb2 (by omega)
    replace hb := hb.trans hb2
    have k0 := hr2.c0
    have k1 := hr2.c1
    clear hb2 hr1 z1 hv1 HK
    go_wp2
    go_quiet (fail)
    have hr3 := hr2.drewN nq
    have z3 : Zr (w2.drewN nq) w.heap.size := ⟨z2.row⟩
    replace hb := hb.rdrew nq
    clear k0 k1 hr2 z2
    generalize w2.drewN nq = w3 at *
    go_wp2_with fail
    refine Calls.mono (HX.out _ _ w3 hr3 (such_letter g _)) ?_
    rw [g1]
    rintro e w4 ⟨rfl, hb4⟩
    have hr4 := hr3.later hb4
    have z4 := z3.later hb4
    replace hb := hb.trans (But.of hb4)
    clear hb4 hr3 z3
    have HS : Hid _ := name_any hr4 hs hle
    rw [wrA, tkA] at HS
    clear HX HI
    go_wp2_with fail
    refine Calls.mono HS.out ?_
    rintro e w5 ⟨rfl, hb5, hr5⟩
    have z5 := z4.but hb5 (by omega)
    replace hb := hb.trans hb5
    obtain ⟨c0, c1, c2, c3⟩ := z5.cells
    obtain ⟨f0, f1, f2, f3⟩ := z5.free
    clear hb5 hr4 z4 HS
    go_wp2
    all_goals refine bodyPost_ret (v := wrA (nameW s j)) (by simp [results, Tryz.results35, go_sem, c0, c1, c2, c3, wrA, tkA]) rfl ⟨rfl, hb.new4 (Nat.le_refl _) _ _ _ _, fun k => (hr5 k).other4 (by omega) _ _ _ _⟩
  | false =>
  cases g2 : got isDig s j with
  | true =>
    rw [oneW_num g1 g2]
    go_enter Tryz.func35, Tryz.ntmps35
    go_wp2_with fail
    refine Calls.mono (HI.out 32 _) ?_
    rintro e w1 ⟨v1, rfl, hv1, hb1⟩
    have hr1 := h0.later hb1
    have z1 := z0.later hb1
    have hb : But g w w1 := (But.of hb1).behind
    replace hv1 := hv1 g (by simp; omega)
    clear hb1 h z0 h0
    go_wp2_with fail
    refine Calls.mono (HK.out v1 w1 hr1 hv1) ?_
    rintro e w2 ⟨rfl, hr2, hb2⟩
    have z2 := z1.but hb2 (by omega)
    replace hb := hb.trans hb2
    have k0 := hr2.c0
    have k1 := hr2.c1
    clear hb2 hr1 z1 hv1 HK
    go_wp2
    go_quiet (fail)
    have hr3 := hr2.drewN nq
    have z3 : Zr (w2.drewN nq) w.heap.size := ⟨z2.row⟩
    replace hb := hb.rdrew nq
    clear k0 k1 hr2 z2
    generalize w2.drewN nq = w3 at *
    go_wp2_with fail
    refine Calls.mono (HX.out _ _ w3 hr3 (such_letter g _)) ?_
    rw [g1]
    rintro e w4 ⟨rfl, hb4⟩
    have hr4 := hr3.later hb4
    have z4 := z3.later hb4
    replace hb := hb.trans (But.of hb4)
    clear hb4 hr3 z3
    go_wp2_with fail
    refine Calls.mono (HX.out _ _ w4 hr4 (such_digit g _)) ?_
    rw [g2]
    rintro e w5 ⟨rfl, hb5⟩
    have hr5 := hr4.later hb5
    have z5 := z4.later hb5
    replace hb := hb.trans (But.of hb5)
    clear hb5 hr4 z4
    have HS : Hid _ := number_any hr5 hs hle g2
    rw [wrA, tkA] at HS
    clear HX HI
    go_wp2_with fail
    refine Calls.mono HS.out ?_
    rintro e w6 ⟨rfl, hb6, hr6⟩
    have z6 := z5.but hb6 (by omega)
    replace hb := hb.trans hb6
    obtain ⟨c0, c1, c2, c3⟩ := z6.cells
    obtain ⟨f0, f1, f2, f3⟩ := z6.free
    clear hb6 hr5 z5 HS
    go_wp2
    all_goals refine bodyPost_ret (v := wrA (numW s j)) (by simp [results, Tryz.results35, go_sem, c0, c1, c2, c3, wrA, tkA]) rfl ⟨rfl, hb.new4 (Nat.le_refl _) _ _ _ _, fun k => (hr6 k).other4 (by omega) _ _ _ _⟩
  | false =>
  cases g3 : got (isB 39) s j with
  | true =>
    rw [oneW_quo g1 g2 g3]
    go_enter Tryz.func35, Tryz.ntmps35
    go_wp2_with fail
    refine Calls.mono (HI.out 32 _) ?_
    rintro e w1 ⟨v1, rfl, hv1, hb1⟩
    have hr1 := h0.later hb1
    have z1 := z0.later hb1
    have hb : But g w w1 := (But.of hb1).behind
    replace hv1 := hv1 g (by simp; omega)
    clear hb1 h z0 h0
    go_wp2_with fail
    refine Calls.mono (HK.out v1 w1 hr1 hv1) ?_
    rintro e w2 ⟨rfl, hr2, hb2⟩
    have z2 := z1.but hb2 (by omega)
    replace hb := hb.trans hb2
    have k0 := hr2.c0
    have k1 := hr2.c1
    clear hb2 hr1 z1 hv1 HK
    go_wp2
    go_quiet (fail)
    have hr3 := hr2.drewN nq
    have z3 : Zr (w2.drewN nq) w.heap.size := ⟨z2.row⟩
    replace hb := hb.rdrew nq
    clear k0 k1 hr2 z2
    generalize w2.drewN nq = w3 at *
    go_wp2_with fail
    refine Calls.mono (HX.out _ _ w3 hr3 (such_letter g _)) ?_
    rw [g1]
    rintro e w4 ⟨rfl, hb4⟩
    have hr4 := hr3.later hb4
    have z4 := z3.later hb4
    replace hb := hb.trans (But.of hb4)
    clear hb4 hr3 z3
    go_wp2_with fail
    refine Calls.mono (HX.out _ _ w4 hr4 (such_digit g _)) ?_
    rw [g2]
    rintro e w5 ⟨rfl, hb5⟩
    have hr5 := hr4.later hb5
    have z5 := z4.later hb5
    replace hb := hb.trans (But.of hb5)
    clear hb5 hr4 z4
    go_wp2_with fail
    refine Calls.mono (HI.out 39 _) ?_
    rintro e w6 ⟨v6, rfl, hv, hb6⟩
    have hr6 := hr5.later hb6
    have z6 := z5.later hb6
    replace hb := hb.trans (But.of hb6)
    replace hv := hv g hr5.lt
    clear hb6 hr5 z5
    go_wp2_with fail
    refine Calls.mono (HX.out _ _ w6 hr6 hv) ?_
    rw [g3]
    rintro e w7 ⟨rfl, hb7⟩
    have hr7 := hr6.later hb7
    have z7 := z6.later hb7
    replace hb := hb.trans (But.of hb7)
    clear hb7 hr6 z6
    clear hv
    have HS : Hid _ := quoted_any hr7 hs hjl
    rw [wrA, tkA] at HS
    clear HX HI
    go_wp2_with fail
    refine Calls.mono HS.out ?_
    rintro e w8 ⟨rfl, hb8, hr8⟩
    have z8 := z7.but hb8 (by omega)
    replace hb := hb.trans hb8
    obtain ⟨c0, c1, c2, c3⟩ := z8.cells
    obtain ⟨f0, f1, f2, f3⟩ := z8.free
    clear hb8 hr7 z7 HS
    go_wp2
    all_goals refine bodyPost_ret (v := wrA (quoW s j)) (by simp [results, Tryz.results35, go_sem, c0, c1, c2, c3, wrA, tkA]) rfl ⟨rfl, hb.new4 (Nat.le_refl _) _ _ _ _, fun k => (hr8 k).other4 (by omega) _ _ _ _⟩
  | false =>
    rw [oneW_sgn g1 g2 g3]
    go_enter Tryz.func35, Tryz.ntmps35
    go_wp2_with fail
    refine Calls.mono (HI.out 32 _) ?_
    rintro e w1 ⟨v1, rfl, hv1, hb1⟩
    have hr1 := h0.later hb1
    have z1 := z0.later hb1
    have hb : But g w w1 := (But.of hb1).behind
    replace hv1 := hv1 g (by simp; omega)
    clear hb1 h z0 h0
    go_wp2_with fail
    refine Calls.mono (HK.out v1 w1 hr1 hv1) ?_
    rintro e w2 ⟨rfl, hr2, hb2⟩
    have z2 := z1.but hb2 (by omega)
    replace hb := hb.trans hb2
    have k0 := hr2.c0
    have k1 := hr2.c1
    clear hb2 hr1 z1 hv1 HK
    go_wp2
    go_quiet (fail)
    have hr3 := hr2.drewN nq
    have z3 : Zr (w2.drewN nq) w.heap.size := ⟨z2.row⟩
    replace hb := hb.rdrew nq
    clear k0 k1 hr2 z2
    generalize w2.drewN nq = w3 at *
    go_wp2_with fail
    refine Calls.mono (HX.out _ _ w3 hr3 (such_letter g _)) ?_
    rw [g1]
    rintro e w4 ⟨rfl, hb4⟩
    have hr4 := hr3.later hb4
    have z4 := z3.later hb4
    replace hb := hb.trans (But.of hb4)
    clear hb4 hr3 z3
    go_wp2_with fail
    refine Calls.mono (HX.out _ _ w4 hr4 (such_digit g _)) ?_
    rw [g2]
    rintro e w5 ⟨rfl, hb5⟩
    have hr5 := hr4.later hb5
    have z5 := z4.later hb5
    replace hb := hb.trans (But.of hb5)
    clear hb5 hr4 z4
    go_wp2_with fail
    refine Calls.mono (HI.out 39 _) ?_
    rintro e w6 ⟨v6, rfl, hv, hb6⟩
    have hr6 := hr5.later hb6
    have z6 := z5.later hb6
    replace hb := hb.trans (But.of hb6)
    replace hv := hv g hr5.lt
    clear hb6 hr5 z5
    go_wp2_with fail
    refine Calls.mono (HX.out _ _ w6 hr6 hv) ?_
    rw [g3]
    rintro e w7 ⟨rfl, hb7⟩
    have hr7 := hr6.later hb7
    have z7 := z6.later hb7
    replace hb := hb.trans (But.of hb7)
    clear hb7 hr6 z6
    clear hv
    have HS : Hid _ := sign_any hr7 hs hle
    rw [wrA, tkA] at HS
    clear HX HI
    go_wp2_with fail
    refine Calls.mono HS.out ?_
    rintro e w8 ⟨rfl, hb8, hr8⟩
    have z8 := z7.but hb8 (by omega)
    replace hb := hb.trans hb8
    obtain ⟨c0, c1, c2, c3⟩ := z8.cells
    obtain ⟨f0, f1, f2, f3⟩ := z8.free
    clear hb8 hr7 z7 HS
    go_wp2
    all_goals refine bodyPost_ret (v := wrA (sgnW s j)) (by simp [results, Tryz.results35, go_sem, c0, c1, c2, c3, wrA, tkA]) rfl ⟨rfl, hb.new4 (Nat.le_refl _) _ _ _ _, fun k => (hr8 k).other4 (by omega) _ _ _ _⟩

end Go.Proofs.YtjlmcnbmhgabpaaGreat
