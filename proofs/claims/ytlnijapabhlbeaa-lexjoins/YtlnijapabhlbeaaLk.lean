/- The walks of the document's one: a text value, a sign. -/
import Derived.Test.YtlnijapabhlbeaaLj
namespace Go.Proofs.Ytlnijapabhlbeaa
open Go.RowKit
set_option linter.unusedVariables false

set_option maxRecDepth 100000 in
set_option maxHeartbeats 2000000 in
theorem one_quo (s : ByteArray) (hs : s.size ≤ 400) (j : Nat) (hj : j < s.size) (hg1 : got isL s j = false) (hg2 : got isDig s j = false) (hg : got (isB 39) s j = true) (w : World) : Calls Try.prog 16 #[.string s, .int .i64 (j : Int)] w fun e w' => Ones (quoW s j) e ∧ Below w.heap.size w w' := by
  have HQ : Hid (∀ w, _) := fun w => letters_any s hs j hj w
  rw [got_at hj] at hg hg1 hg2
  have g3 : ((s[j].toNat : Int) == 39) = true := by
    rw [isB, decide_eq_true_iff] at hg
    simp; omega
  generalize quoW s j = RR at *
  have hL := refLetter_any s[j] ((w.alloc (.cells #[.int .i64 0, .string ⟨#[]⟩, .int .i64 0, .int .i64 0] 30)).alloc (.cells #[.int .i64 0, .string ⟨#[]⟩, .int .i64 0, .int .i64 (j : Int)] 30))
  rw [hg1] at hL
  replace hL := hid hL
  have hD := refDigit_any s[j] ((w.alloc (.cells #[.int .i64 0, .string ⟨#[]⟩, .int .i64 0, .int .i64 0] 30)).alloc (.cells #[.int .i64 0, .string ⟨#[]⟩, .int .i64 0, .int .i64 (j : Int)] 30))
  rw [hg2] at hD
  replace hD := hid hD
  clear hg hg1 hg2
  go_enter Try.func16, Try.ntmps16
  go_wp2_with fail
  refine Calls.mono hL.out ?_
  rintro e w1 ⟨rfl, rfl⟩
  clear hL
  go_wp2_with fail
  refine Calls.mono hD.out ?_
  rintro e w1 ⟨rfl, rfl⟩
  clear hD
  go_wp2_with fail
  refine Calls.mono (HQ.out _) ?_
  rintro e w3 ⟨⟨t, x, b, rfl, hO1, hO2⟩, hb3⟩
  have z3 : Zr w3 w.heap.size := (two_z w (0, ⟨#[]⟩, 0, (j : Int))).later hb3
  have b3 : Below w.heap.size w w3 := Below.on (two_b w (0, ⟨#[]⟩, 0, (j : Int))) hb3
  have hO : Ones RR (.returned (.tuple #[tkA t, .int .i64 x, .int .i64 b, .int .i64 RR.er])) := ⟨t, x, b, rfl, hO1, hO2⟩
  replace hO := hid hO
  clear HQ hb3 hO1 hO2
  unfold tkA
  obtain ⟨c0, c1, c2, c3⟩ := z3.cells
  obtain ⟨f0, f1, f2, f3⟩ := z3.free
  go_wp2
  all_goals refine bodyPost_ret (v := .tuple #[tkA t, .int .i64 x, .int .i64 b, .int .i64 RR.er]) (by simp [results, Try.results16, go_sem, c0, c1, c2, c3, tkA]) rfl ⟨hO.out, below4 b3 _ _ _ _⟩

/-- The longest sign, as the document says it. -/
theorem sgn_two {s : ByteArray} {j : Nat} (hj : j + 1 < s.size) (h : two2 s[j] s[j + 1] = true) : sgn s j = 2 := by
  have h0 : j < s.size := by omega
  simp only [two2, Bool.or_eq_true, Bool.and_eq_true, decide_eq_true_eq] at h
  rw [sgn, got_at h0, got_at h0]
  rcases h with ⟨h1, h2⟩ | ⟨h1, h2⟩
  · rw [if_pos (by simp [isB, h1]), got_at hj, if_pos (by simp [is2]; omega)]
  · rw [if_neg (by simp [isB, h1]), if_pos (by simp [isB, h1]), got_at hj, if_pos (by simp [isB, h2])]
theorem isO_sl (c : UInt8) : sl.contains c = (decide (c.toNat = 60) || decide (c.toNat = 62) || isO c) := by
  have h : ∀ n, n < 256 → sl.contains (UInt8.ofNat n) = (decide ((UInt8.ofNat n).toNat = 60) || decide ((UInt8.ofNat n).toNat = 62) || isO (UInt8.ofNat n)) := by decide +kernel
  have := h c.toNat (UInt8.toNat_lt c)
  rwa [UInt8.ofNat_toNat] at this
theorem sgn_one {s : ByteArray} {j : Nat} (hj : j < s.size) (h : ∀ h1 : j + 1 < s.size, two2 s[j] s[j + 1] = false) : sgn s j = if sl.contains s[j] then 1 else 0 := by
  rw [isO_sl, sgn, got_at hj, got_at hj, got_at hj]
  have hn : ∀ p : UInt8 → Bool, (∀ h1 : j + 1 < s.size, p s[j + 1] = false) → got p s (j + 1) = false := fun p hp => by
    cases Nat.lt_or_ge (j + 1) s.size with
    | inl h1 => rw [got_at h1]; exact hp h1
    | inr h1 => exact got_end h1
  by_cases h60 : s[j].toNat = 60
  · rw [if_pos (by simp [isB, h60]), if_neg, if_pos (by simp [h60])]
    rw [hn _ (fun h1 => by have := h h1; simp [two2, h60] at this; simp [is2]; omega)]
    simp
  · rw [if_neg (by simp [isB, h60])]
    by_cases h62 : s[j].toNat = 62
    · rw [if_pos (by simp [isB, h62]), if_neg, if_pos (by simp [h62])]
      rw [hn _ (fun h1 => by have := h h1; simp [two2, h62] at this; simp [isB]; omega)]
      simp
    · rw [if_neg (by simp [isB, h62])]
      simp only [h60, h62, decide_false, Bool.false_or]
theorem str_two (s : ByteArray) (hs : s.size ≤ 400) (k : Nat) (h : k + 1 < s.size) (w : World) : (Instr.slice 9 (.string s) (some (.int .i64 (k : Int))) (some (.int .i64 ((k : Int) + 2))) none).run Try.prog w = .ok (.string ⟨#[s[k], s[k + 1]]⟩) w := by
  have e : s.extract k (k + 2) = ⟨#[s[k], s[k + 1]]⟩ := by
    apply ByteArray.ext
    apply Array.toList_inj.1
    have := bs_extract s k (k + 2)
    rw [bs, Nat.add_sub_cancel_left, drop_at (by omega), drop_at h] at this
    exact this
  rw [← e]
  obtain ⟨m, hm⟩ : ∃ m, m = k + 2 := ⟨_, rfl⟩
  have hm2 : (k : Int) + 2 = (m : Int) := by omega
  rw [hm2, ← hm]
  have h1 : k ≤ m := by omega
  have h2 : m ≤ s.size := by omega
  clear hm hm2 e h
  go_simp
theorem ext_two (s : ByteArray) (k : Nat) (h : k + 1 < s.size) : s.extract k (k + 2) = ⟨#[s[k], s[k + 1]]⟩ := by
  apply ByteArray.ext
  apply Array.toList_inj.1
  have := bs_extract s k (k + 2)
  rw [bs, Nat.add_sub_cancel_left, drop_at (by omega), drop_at h] at this
  exact this
theorem ext_one (s : ByteArray) (k : Nat) (h : k < s.size) : s.extract k (k + 1) = ⟨#[s[k]]⟩ := by
  apply ByteArray.ext
  apply Array.toList_inj.1
  have := bs_extract s k (k + 1)
  rw [bs, Nat.add_sub_cancel_left, drop_at h] at this
  exact this
theorem two_list (a b x y : UInt8) : ((⟨#[a, b]⟩ : ByteArray).toList == [x, y]) = (decide (a.toNat = x.toNat) && decide (b.toNat = y.toNat)) := by
  rw [Bool.eq_iff_iff]
  simp only [beq_iff_eq, Bool.and_eq_true, decide_eq_true_eq, ByteArray.toList_eq]
  constructor
  · intro h; cases h; exact ⟨rfl, rfl⟩
  · rintro ⟨h1, h2⟩
    rw [UInt8.toNat_inj.1 h1, UInt8.toNat_inj.1 h2]

set_option maxRecDepth 100000 in
set_option maxHeartbeats 4000000 in
theorem one_sgn (s : ByteArray) (hs : s.size ≤ 400) (j : Nat) (hj : j < s.size) (hg1 : got isL s j = false) (hg2 : got isDig s j = false) (hg : got (isB 39) s j = false) (w : World) : Calls Try.prog 16 #[.string s, .int .i64 (j : Int)] w fun e w' => Ones (sgnW s j) e ∧ Below w.heap.size w w' := by
  rw [got_at hj] at hg hg1 hg2
  have g3 : ((s[j].toNat : Int) == 39) = false := by
    rw [isB, decide_eq_false_iff_not] at hg
    simp; omega
  have hL := refLetter_any s[j] ((w.alloc (.cells #[.int .i64 0, .string ⟨#[]⟩, .int .i64 0, .int .i64 0] 30)).alloc (.cells #[.int .i64 0, .string ⟨#[]⟩, .int .i64 0, .int .i64 (j : Int)] 30))
  rw [hg1] at hL
  replace hL := hid hL
  have hD := refDigit_any s[j] ((w.alloc (.cells #[.int .i64 0, .string ⟨#[]⟩, .int .i64 0, .int .i64 0] 30)).alloc (.cells #[.int .i64 0, .string ⟨#[]⟩, .int .i64 0, .int .i64 (j : Int)] 30))
  rw [hg2] at hD
  replace hD := hid hD
  have hwj : IntKind.i64.wrap ((j : Int) + 1) = j + 1 := by rw [IntKind.wrap_i64]; omega
  have hwj2 : IntKind.i64.wrap ((j : Int) + 2) = j + 2 := by rw [IntKind.wrap_i64]; omega
  clear hg hg1 hg2
  by_cases hj1 : j + 1 < s.size
  · have hsl := str_two s hs j hj1
    have g4 : decide ((j : Int) + 1 < (s.size : Int)) = true := by simp; omega
    have e1 := two_list s[j] s[j + 1] 60 62
    have e2 := two_list s[j] s[j + 1] 60 61
    have e3 := two_list s[j] s[j + 1] 62 61
    cases hT : two2 s[j] s[j + 1] with
    | true =>
      have h2 := sgn_two hj1 hT
      have hR : sgnW s j = wrd (5, ⟨#[s[j], s[j + 1]]⟩, 0, j) (j + 2) := by rw [sgnW, h2, if_neg (by omega), ext_two s j hj1]
      rw [hR]
      clear h2 hR
      generalize hTW : (⟨#[s[j], s[j + 1]]⟩ : ByteArray) = TW at *
      replace hTW := hid hTW
      simp only [two2, Bool.or_eq_true, Bool.and_eq_true, decide_eq_true_eq] at hT
      have hcase : (TW.toList == [60, 62]) = true ∨ ((TW.toList == [60, 62]) = false ∧ (TW.toList == [60, 61]) = true) ∨ ((TW.toList == [60, 62]) = false ∧ (TW.toList == [60, 61]) = false ∧ (TW.toList == [62, 61]) = true) := by
        rw [e1, e2, e3]
        rcases hT with ⟨h1, h2 | h2⟩ | ⟨h1, h2⟩
        · exact .inl (by simp [h1, h2])
        · exact .inr (.inl (by simp [h1, h2]))
        · exact .inr (.inr (by simp [h1, h2]))
      clear e1 e2 e3 hT
      rcases hcase with q1 | ⟨q1, q2⟩ | ⟨q1, q2, q3⟩
      · go_enter Try.func16, Try.ntmps16
        go_wp2_with fail
        refine Calls.mono hL.out ?_
        rintro e w1 ⟨rfl, rfl⟩
        clear hL
        go_wp2_with fail
        refine Calls.mono hD.out ?_
        rintro e w1 ⟨rfl, rfl⟩
        clear hD
        go_wp2
        all_goals refine bodyPost_ret (v := .tuple #[tkA (5, TW, 0, j), .int .i64 ((j + 2 : Nat) : Int), .int .i64 0, .int .i64 0]) (by simp [results, Try.results16, go_sem, tkA]) rfl ⟨ones_ok _ _ _, ((Below.refl _ _).alloc (Nat.le_refl _) _).alloc (by simp) _⟩
      · go_enter Try.func16, Try.ntmps16
        go_wp2_with fail
        refine Calls.mono hL.out ?_
        rintro e w1 ⟨rfl, rfl⟩
        clear hL
        go_wp2_with fail
        refine Calls.mono hD.out ?_
        rintro e w1 ⟨rfl, rfl⟩
        clear hD
        go_wp2
        all_goals refine bodyPost_ret (v := .tuple #[tkA (5, TW, 0, j), .int .i64 ((j + 2 : Nat) : Int), .int .i64 0, .int .i64 0]) (by simp [results, Try.results16, go_sem, tkA]) rfl ⟨ones_ok _ _ _, ((Below.refl _ _).alloc (Nat.le_refl _) _).alloc (by simp) _⟩
      · go_enter Try.func16, Try.ntmps16
        go_wp2_with fail
        refine Calls.mono hL.out ?_
        rintro e w1 ⟨rfl, rfl⟩
        clear hL
        go_wp2_with fail
        refine Calls.mono hD.out ?_
        rintro e w1 ⟨rfl, rfl⟩
        clear hD
        go_wp2
        all_goals refine bodyPost_ret (v := .tuple #[tkA (5, TW, 0, j), .int .i64 ((j + 2 : Nat) : Int), .int .i64 0, .int .i64 0]) (by simp [results, Try.results16, go_sem, tkA]) rfl ⟨ones_ok _ _ _, ((Below.refl _ _).alloc (Nat.le_refl _) _).alloc (by simp) _⟩
    | false =>
      have h1 := sgn_one hj (fun _ => hT)
      generalize hTW : (⟨#[s[j], s[j + 1]]⟩ : ByteArray) = TW at *
      replace hTW := hid hTW
      simp only [two2, Bool.or_eq_false_iff, Bool.and_eq_false_iff, decide_eq_false_iff_not] at hT
      have q1 : (TW.toList == [60, 62]) = false := by rw [e1]; simp; omega
      have q2 : (TW.toList == [60, 61]) = false := by rw [e2]; simp; omega
      have q3 : (TW.toList == [62, 61]) = false := by rw [e3]; simp; omega
      clear e1 e2 e3 hT
      have HR1 : Hid (sl.contains s[j] = true → sgnW s j = wrd (5, ⟨#[s[j]]⟩, 0, j) (j + 1)) := fun h => by rw [sgnW, h1, h, if_pos rfl, if_neg (by omega), ext_one s j hj]
      have HR0 : Hid (sl.contains s[j] = false → sgnW s j = flt j 4) := fun h => by rw [sgnW, h1, h]; rfl
      have hsl1 := str_slice' s hs j hj
      generalize sgnW s j = RR at *
      clear h1
      go_enter Try.func16, Try.ntmps16
      go_wp2_with fail
      refine Calls.mono hL.out ?_
      rintro e w1 ⟨rfl, rfl⟩
      clear hL
      go_wp2_with fail
      refine Calls.mono hD.out ?_
      rintro e w1 ⟨rfl, rfl⟩
      clear hD
      go_wp2
      go_loopw [13] (fun i wr => ∃ k : Nat, k ≤ 10 ∧ i = .int .i64 k ∧ Hid ((sl.take k).contains s[j] = false) ∧ Zr wr w.heap.size ∧ Tb wr (w.heap.size + 1) (5, ⟨#[]⟩, 0, j) ∧ Below w.heap.size w wr) (fun i _ => 10 - (intOf i).toNat)
      case atStart => exact ⟨0, by omega, rfl, rfl, two_z w (5, ⟨#[]⟩, 0, (j : Int)), two_t w (5, ⟨#[]⟩, 0, (j : Int)), two_b w (5, ⟨#[]⟩, 0, (j : Int))⟩
      case round =>
        obtain ⟨k, hk, rfl, HK, z, tb, hB⟩ := hrel
        by_cases hlt : k < 10
        · have hidx := sl_index k hlt
          have hix := str_index s j hj
          have hst := cont_step (l := sl) (k := k) (a := s[j]) (d := 0) hlt
          have hmem : sl.getD k 0 ∈ sl := by
            rw [List.getD, List.getElem?_eq_getElem (show k < sl.length from hlt)]
            exact List.getElem_mem _
          generalize sl.getD k 0 = d at *
          by_cases hx : d.toNat = s[j].toNat
          · have hc : sl.contains s[j] = true := by
              rw [← UInt8.toNat_inj.1 hx, List.contains_iff_mem]
              exact hmem
            have hR := HR1.out hc
            subst hR
            have gx : ((d.toNat : Int) == (s[j].toNat : Int)) = true := by simp; omega
            clear HR1 HR0 HK hst hx hc hmem
            go_wp2
            go_quiet (fail)
            have z2 := z.drewN nq
            have t2 := tb.drewN nq
            have b2 := below_drewN hB nq
            clear z tb hB
            generalize wr.drewN nq = w2 at *
            obtain ⟨c0, c1, c2, c3⟩ := z2.cells
            obtain ⟨f0, f1, f2, f3⟩ := z2.free
            obtain ⟨d0, d1, d2, d3⟩ := t2.cells
            obtain ⟨e0, e1, e2, e3⟩ := t2.free
            go_wp2
            all_goals refine bodyPost_ret (v := .tuple #[tkA (5, ⟨#[s[j]]⟩, 0, j), .int .i64 ((j + 1 : Nat) : Int), .int .i64 0, .int .i64 0]) (by simp [results, Try.results16, go_sem, c0, c1, c2, c3, tkA]) rfl ⟨ones_ok _ _ _, below4 (b2.setCell (by show w.heap.size ≤ w.heap.size + 1; omega) _) _ _ _ _⟩
          · have gx : ((d.toNat : Int) == (s[j].toNat : Int)) = false := by simp; omega
            have HN := hid (hst.trans (by rw [HK.out, decide_eq_false (fun e => hx (by rw [e]))]))
            clear HR1 HR0 HK hst hx hmem
            go_wp2
            go_quiet (fail)
            have z2 := z.drewN nq
            have t2 := tb.drewN nq
            have b2 := below_drewN hB nq
            clear z tb hB
            generalize wr.drewN nq = w2 at *
            go_wp2
            go_roundw
            case rel => exact ⟨k + 1, by omega, by go_num, HN, z2, t2, b2⟩
            case measure => simp only [intOf]; omega
        · obtain rfl : k = 10 := by omega
          have hR := HR0.out HK.out
          subst hR
          obtain ⟨c0, c1, c2, c3⟩ := z.cells
          obtain ⟨f0, f1, f2, f3⟩ := z.free
          obtain ⟨d0, d1, d2, d3⟩ := tb.cells
          obtain ⟨e0, e1, e2, e3⟩ := tb.free
          clear HR1 HR0 HK
          go_wp2
          all_goals refine bodyPost_ret (v := .tuple #[tkA (5, ⟨#[]⟩, 0, j), .int .i64 0, .int .i64 j, .int .i64 4]) (by simp [results, Try.results16, go_sem, c0, c1, c2, c3, tkA]) rfl ⟨ones_flt _ _ _ _ (by decide), below4 hB _ _ _ _⟩
  · have g4 : decide ((j : Int) + 1 < (s.size : Int)) = false := by simp; omega
    have h1 := sgn_one hj (fun h => absurd h hj1)
    have HR1 : Hid (sl.contains s[j] = true → sgnW s j = wrd (5, ⟨#[s[j]]⟩, 0, j) (j + 1)) := fun h => by rw [sgnW, h1, h, if_pos rfl, if_neg (by omega), ext_one s j hj]
    have HR0 : Hid (sl.contains s[j] = false → sgnW s j = flt j 4) := fun h => by rw [sgnW, h1, h]; rfl
    have hsl1 := str_slice' s hs j hj
    generalize sgnW s j = RR at *
    clear h1
    go_enter Try.func16, Try.ntmps16
    go_wp2_with fail
    refine Calls.mono hL.out ?_
    rintro e w1 ⟨rfl, rfl⟩
    clear hL
    go_wp2_with fail
    refine Calls.mono hD.out ?_
    rintro e w1 ⟨rfl, rfl⟩
    clear hD
    go_wp2
    go_loopw [13] (fun i wr => ∃ k : Nat, k ≤ 10 ∧ i = .int .i64 k ∧ Hid ((sl.take k).contains s[j] = false) ∧ Zr wr w.heap.size ∧ Tb wr (w.heap.size + 1) (5, ⟨#[]⟩, 0, j) ∧ Below w.heap.size w wr) (fun i _ => 10 - (intOf i).toNat)
    case atStart => exact ⟨0, by omega, rfl, rfl, two_z w (5, ⟨#[]⟩, 0, (j : Int)), two_t w (5, ⟨#[]⟩, 0, (j : Int)), two_b w (5, ⟨#[]⟩, 0, (j : Int))⟩
    case round =>
      obtain ⟨k, hk, rfl, HK, z, tb, hB⟩ := hrel
      by_cases hlt : k < 10
      · have hidx := sl_index k hlt
        have hix := str_index s j hj
        have hst := cont_step (l := sl) (k := k) (a := s[j]) (d := 0) hlt
        have hmem : sl.getD k 0 ∈ sl := by
          rw [List.getD, List.getElem?_eq_getElem (show k < sl.length from hlt)]
          exact List.getElem_mem _
        generalize sl.getD k 0 = d at *
        by_cases hx : d.toNat = s[j].toNat
        · have hc : sl.contains s[j] = true := by
            rw [← UInt8.toNat_inj.1 hx, List.contains_iff_mem]
            exact hmem
          have hR := HR1.out hc
          subst hR
          have gx : ((d.toNat : Int) == (s[j].toNat : Int)) = true := by simp; omega
          clear HR1 HR0 HK hst hx hc hmem
          go_wp2
          go_quiet (fail)
          have z2 := z.drewN nq
          have t2 := tb.drewN nq
          have b2 := below_drewN hB nq
          clear z tb hB
          generalize wr.drewN nq = w2 at *
          obtain ⟨c0, c1, c2, c3⟩ := z2.cells
          obtain ⟨f0, f1, f2, f3⟩ := z2.free
          obtain ⟨d0, d1, d2, d3⟩ := t2.cells
          obtain ⟨e0, e1, e2, e3⟩ := t2.free
          go_wp2
          all_goals refine bodyPost_ret (v := .tuple #[tkA (5, ⟨#[s[j]]⟩, 0, j), .int .i64 ((j + 1 : Nat) : Int), .int .i64 0, .int .i64 0]) (by simp [results, Try.results16, go_sem, c0, c1, c2, c3, tkA]) rfl ⟨ones_ok _ _ _, below4 (b2.setCell (by show w.heap.size ≤ w.heap.size + 1; omega) _) _ _ _ _⟩
        · have gx : ((d.toNat : Int) == (s[j].toNat : Int)) = false := by simp; omega
          have HN := hid (hst.trans (by rw [HK.out, decide_eq_false (fun e => hx (by rw [e]))]))
          clear HR1 HR0 HK hst hx hmem
          go_wp2
          go_quiet (fail)
          have z2 := z.drewN nq
          have t2 := tb.drewN nq
          have b2 := below_drewN hB nq
          clear z tb hB
          generalize wr.drewN nq = w2 at *
          go_wp2
          go_roundw
          case rel => exact ⟨k + 1, by omega, by go_num, HN, z2, t2, b2⟩
          case measure => simp only [intOf]; omega
      · obtain rfl : k = 10 := by omega
        have hR := HR0.out HK.out
        subst hR
        obtain ⟨c0, c1, c2, c3⟩ := z.cells
        obtain ⟨f0, f1, f2, f3⟩ := z.free
        obtain ⟨d0, d1, d2, d3⟩ := tb.cells
        obtain ⟨e0, e1, e2, e3⟩ := tb.free
        clear HR1 HR0 HK
        go_wp2
        all_goals refine bodyPost_ret (v := .tuple #[tkA (5, ⟨#[]⟩, 0, j), .int .i64 0, .int .i64 j, .int .i64 4]) (by simp [results, Try.results16, go_sem, c0, c1, c2, c3, tkA]) rfl ⟨ones_flt _ _ _ _ (by decide), below4 hB _ _ _ _⟩

end Go.Proofs.Ytlnijapabhlbeaa
