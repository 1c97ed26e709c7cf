/- The walks of the reader's number and closed. -/
import Derived.Test.YtjlmcnbmhgabpaaGreatL5
namespace Go.Proofs.YtjlmcnbmhgabpaaGreat
open Go.RowKit
set_option linter.unusedVariables false

theorem bs_extract (s : ByteArray) (a b : Nat) : bs (s.extract a b) = ((bs s).drop a).take (b - a) := by
  rw [bs, bs, ByteArray.data_extract, Array.toList_extract, List.extract_eq_take_drop]
theorem bs_till (p : UInt8 → Bool) (s : ByteArray) (j : Nat) : bs (s.extract j (till p s j)) = ((bs s).drop j).takeWhile p := by
  rw [bs_extract, till, Nat.add_sub_cancel_left]
  exact (List.prefix_iff_eq_take.1 (List.takeWhile_prefix p)).symm
theorem all_till (p : UInt8 → Bool) (s : ByteArray) (j : Nat) : (bs (s.extract j (till p s j))).all p = true := by
  rw [bs_till]
  exact List.all_takeWhile
theorem pA_till {s : ByteArray} {j : Nat} (h : got isDig s j = true) : pA (bs (s.extract j (till isDig s j))) = nA (numV s j (till isDig s j)) := by
  have h1 := all_till isDig s j
  have h2 := till_lt h
  have h3 := till_le (p := isDig) (Nat.le_of_lt (got_lt h))
  have hl : 0 < (bs (s.extract j (till isDig s j))).length := by rw [bs_length, ByteArray.size_extract]; omega
  rw [pA, isNum, h1, Bool.and_true, decide_eq_true hl, if_pos rfl, numV]

set_option maxRecDepth 100000 in
set_option maxHeartbeats 1000000 in
theorem number_any {g : Nat} {s : ByteArray} {j : Nat} {w : World} (h : Rr w g s j) (hs : s.size ≤ 400) (hj : j ≤ s.size) (hd : got isDig s j = true) :
    Calls Tryz.prog 74 #[.pointer (some ⟨g, 0, none⟩)] w fun e w' => e = .returned (wrA (numW s j)) ∧ But g w w' ∧ ((numW s j).er = 0 → Rr w' g s (numW s j).nx) := by
  have hge := till_ge isDig s j
  have hle := till_le (p := isDig) hj
  have hgl := h.lt
  have h0 := h.alloc (.cells #[.int .i64 0, .string ⟨#[]⟩, .int .i64 0, .int .i64 0] 45)
  have c0 := h0.c1
  have HK : Hid _ := skip_any h0 (by omega) hj (such_digit g _)
  have HX : Hid (∀ w', Rr w' g s (till isDig s j) → _) := fun w' hr => next_any hr (by omega) hle (such_letter g w')
  have HP : Hid (∀ w', _) := fun w' => Parse_any (s.extract j (till isDig s j)) (by have := extract_size s j (till isDig s j); omega) w'
  rw [pA_till hd] at HP
  have z0 := Zr.new w
  have HA : Hid (got isL s (till isDig s j) = true → numW s j = flt (till isDig s j) 4) := fun k => by rw [numW, if_pos k]
  have HB : Hid (got isL s (till isDig s j) = false → Fits (numV s j (till isDig s j)) → numW s j = wrd (3, ⟨#[]⟩, numV s j (till isDig s j), j) (till isDig s j)) := fun k f => by rw [numW, if_neg (by rw [k]; simp), if_pos f]
  have HC : Hid (got isL s (till isDig s j) = false → ¬ Fits (numV s j (till isDig s j)) → numW s j = flt j 8) := fun k f => by rw [numW, if_neg (by rw [k]; simp), if_neg f]
  generalize numW s j = RR at *
  generalize till isDig s j = m at *
  generalize numV s j m = V at *
  clear h hd
  go_enter Tryz.func74, Tryz.ntmps74
  go_wp2_with fail
  refine Calls.mono HK.out ?_
  rintro e w1 ⟨rfl, hr1, hb1⟩
  have z1 := z0.but hb1 (by omega)
  have hb := hb1.behind
  clear HK c0 hb1
  go_wp2_with fail
  refine Calls.mono (HX.out w1 hr1) ?_
  rintro e w2 ⟨rfl, hb2⟩
  have hr2 := hr1.later hb2
  have z2 := z1.later hb2
  replace hb := hb.trans (But.of hb2)
  obtain ⟨c0, c1, c2, c3⟩ := z2.cells
  obtain ⟨f0, f1, f2, f3⟩ := z2.free
  have k0 := hr2.c0
  have k1 := hr2.c1
  have hne : ¬ w.heap.size = g := by omega
  have hne' : ¬ g = w.heap.size := by omega
  clear HX hb2 hr1 z1
  cases hg : got isL s m with
  | true =>
    have hR := HA.out hg
    subst hR
    clear HP HA HB HC
    go_wp2
    go_region
    all_goals go_wp2
    all_goals refine bodyPost_ret (v := wrA (flt m 4)) (by simp [results, Tryz.results74, go_sem, c0, c1, c2, c3, wrA, tkA, flt]) rfl ⟨rfl, ?_, fun k => by simp [flt] at k⟩
    all_goals exact (hb.new4 (Nat.le_refl _) _ _ _ _).rdrew 1
  | false =>
    replace HB : Hid _ := HB.out hg
    replace HC : Hid _ := HC.out hg
    clear HA
    by_cases hf : Fits (V : Int)
    · have hR := HB.out hf
      subst hR
      rw [nA_in hf] at HP
      clear HB HC
      go_wp2
      go_quiet ((go_at_call 109; exact Calls.quiet_of_same (HP.out _)))
      clear HP
      go_wp2
      refine bodyPost_ret (v := wrA (wrd (3, ⟨#[]⟩, V, j) m)) (by simp [results, Tryz.results74, go_sem, c0, c1, c2, c3, wrA, tkA, wrd]) rfl ⟨rfl, ?_, fun k => ?_⟩
      · exact (hb.new4 (Nat.le_refl _) _ _ _ _).rdrew nq
      · exact (hr2.other4 (by omega) _ _ _ _).drewN nq
    · have hR := HC.out hf
      subst hR
      rw [nA_out hf] at HP
      clear HB HC
      go_wp2
      go_quiet ((go_at_call 109; exact Calls.quiet_of_same (HP.out _)))
      clear HP
      go_wp2
      refine bodyPost_ret (v := wrA (flt j 8)) (by simp [results, Tryz.results74, go_sem, c0, c1, c2, c3, wrA, tkA, flt]) rfl ⟨rfl, ?_, fun k => by simp [flt] at k⟩
      · exact (hb.new4 (Nat.le_refl _) _ _ _ _).rdrew nq

/-- Behind a mark: does it end the text value? -/
theorem closed_any {g : Nat} {s : ByteArray} {k : Nat} {w : World} (h : Rr w g s k) (hs : s.size ≤ 400) (hk : k ≤ s.size) :
    Calls Tryz.prog 110 #[.pointer (some ⟨g, 0, none⟩)] w fun e w' => e = .returned (.bool (got (isB 39) s k && !got (isB 39) s (k + 1))) ∧ Rr w' g s (if got (isB 39) s k then k + 1 else k) ∧ But g w w' := by
  have hgl := h.lt
  have HI : Hid (∀ n w', _) := fun n w' => is_any n w'
  have HT : Hid (∀ (p : UInt8 → Bool) (v : Value) (w' : World), Rr w' g s k → Such g p w' v → _) := fun p v w' hr hv => take_any hr (by omega) hk hv
  cases hg : got (isB 39) s k with
  | true =>
    have hlt := got_lt hg
    have HX : Hid (∀ (p : UInt8 → Bool) (v : Value) (w' : World), Rr w' g s (k + 1) → Such g p w' v → _) := fun p v w' hr hv => next_any hr (by omega) hlt hv
    rw [Bool.true_and, if_pos rfl]
    go_enter Tryz.func110, Tryz.ntmps110
    go_wp2_with fail
    refine Calls.mono (HI.out 39 _) ?_
    rintro e w1 ⟨v1, rfl, hv1, hb1⟩
    have hr1 := h.later hb1
    have hb : But g w w1 := But.of hb1
    replace hv1 := hv1 g hgl
    clear hb1
    go_wp2_with fail
    refine Calls.mono (HT.out _ v1 w1 hr1 hv1) ?_
    rw [hg, if_pos rfl]
    rintro e w2 ⟨rfl, hr2, hb2⟩
    replace hb := hb.trans hb2
    clear hb2 hr1 hv1
    go_wp2_with fail
    refine Calls.mono (HI.out 39 _) ?_
    rintro e w3 ⟨v3, rfl, hv3, hb3⟩
    have hr3 := hr2.later hb3
    replace hv3 := hv3 g hr2.lt
    replace hb := hb.trans (But.of hb3)
    clear hb3 hr2
    go_wp2_with fail
    refine Calls.mono (HX.out _ v3 w3 hr3 hv3) ?_
    rintro e w4 ⟨rfl, hb4⟩
    have hr4 := hr3.later hb4
    replace hb := hb.trans (But.of hb4)
    clear hb4 hr3 hv3 HI HT HX
    go_wp2
    go_ret
    exact ⟨rfl, hr4, hb⟩
  | false =>
    rw [Bool.false_and, if_neg (by simp)]
    go_enter Tryz.func110, Tryz.ntmps110
    go_wp2_with fail
    refine Calls.mono (HI.out 39 _) ?_
    rintro e w1 ⟨v1, rfl, hv1, hb1⟩
    have hr1 := h.later hb1
    have hb : But g w w1 := But.of hb1
    replace hv1 := hv1 g hgl
    clear hb1
    go_wp2_with fail
    refine Calls.mono (HT.out _ v1 w1 hr1 hv1) ?_
    rw [hg, if_neg (by simp)]
    rintro e w2 ⟨rfl, hr2, hb2⟩
    replace hb := hb.trans hb2
    clear hb2 hr1 hv1 HI HT
    go_wp2
    go_ret
    exact ⟨rfl, hr2, hb⟩

end Go.Proofs.YtjlmcnbmhgabpaaGreat
