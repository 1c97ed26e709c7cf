/- The walk of LexJoins. -/
import Derived.Test.YtlnijapabhlbeaaLo
namespace Go.Proofs.Ytlnijapabhlbeaa
open Go.RowKit
set_option linter.unusedVariables false

/-- A slice of words up to r. -/
theorem slice_upto {w : World} {ao : Option Addr} {n c : Nat} {ts : List Tk} (h : RdT w ao n c ts) {r : Nat} (hr : r ≤ n) :
    ∃ ao' p d, (∀ w', (Instr.slice 23 (.slice ao n c) none (some (.int .i64 r)) none).run Try.prog w' = .ok (.slice ao' p d) w') ∧ ∀ w', RdT w' ao n c ts → RdT w' ao' p d (ts.take r) := by
  have hcap := h.cap
  have e0 : ∀ a : Addr, a.add 0 = a := fun a => by unfold Addr.add; simp
  refine ⟨ao, r, c, fun w' => ?_, fun w' h' => ?_⟩
  · have hrc : r ≤ c := by omega
    have hrc' : (r : Int) ≤ (c : Int) := by omega
    cases ao with
    | none => go_simp
    | some a => go_simp
  · have h1 := h'.len
    have h3 := h'.max
    refine ⟨by rw [List.length_take]; omega, by omega, h3, h'.non, fun hp => ?_⟩
    obtain ⟨b, o, e, hc⟩ := h'.cells (by omega)
    refine ⟨b, o, e, fun i hi => ?_⟩
    have := hc i (by omega)
    rw [show tth (ts.take r) i = tth ts i from by rw [tth, tth, List.getElem?_take_of_lt hi]]
    exact this
theorem tth_right (l m : List Tk) (i : Nat) : tth (l ++ m) (l.length + i) = tth m i := by
  rw [tth, tth, List.getElem?_append_right (by omega), Nat.add_sub_cancel_left]
theorem tth_map (d : Nat) (l : List Tk) {i : Nat} (h : i < l.length) : tth (l.map (tsh d)) i = tsh d (tth l i) := by
  rw [tth, tth, List.getElem?_map, List.getElem?_eq_getElem h]; rfl

set_option maxRecDepth 100000 in
set_option maxHeartbeats 2000000 in
theorem joins_any (s t : ByteArray) (hs : s.size ≤ 140737488351232) (ht : t.size ≤ 140737488351232) (w : World) : Calls Try.prog 4 #[.string s, .string t] w fun e w' => e = .returned (.bool true) ∧ Below w.heap.size w w' := by
  have HB : Hid _ := begun_any w
  have hw0 : IntKind.i64.wrap ((s.size : Int) + (t.size : Int)) = (s.size : Int) + (t.size : Int) := by rw [IntKind.wrap_i64]; omega
  by_cases h4 : 400 ≤ s.size + t.size
  · have g1 : decide ((400 : Int) ≤ (s.size : Int) + (t.size : Int)) = true := by simp; omega
    go_enter Try.func4, Try.ntmps4
    go_wp2_with fail
    refine Calls.mono HB.out ?_
    rintro e w1 ⟨rfl, hb1⟩
    go_wp2
    go_ret
    exact ⟨rfl, hb1⟩
  have g1 : decide ((400 : Int) ≤ (s.size : Int) + (t.size : Int)) = false := by simp; omega
  obtain ⟨u1, hu1⟩ : ∃ u1, s ++ ⟨#[32]⟩ = u1 := ⟨_, rfl⟩
  obtain ⟨u, hu⟩ : ∃ u, u1 ++ t = u := ⟨_, rfl⟩
  have hc1 : u1.size = s.size + 1 := by rw [← hu1, ByteArray.size_append]; rfl
  have hc2 : u.size = s.size + 1 + t.size := by rw [← hu, ByteArray.size_append, hc1]
  have J : Jn s t u := ⟨by rw [← hu, ← hu1]; simp [bs, ByteArray.data_append]⟩
  have H1 : Hid (∀ w, _) := fun w => lex_any s (by omega) w
  have H2 : Hid (∀ w, _) := fun w => lex_any t (by omega) w
  have H3 : Hid (∀ w, _) := fun w => lex_any u (by omega) w
  have hz1 : u1.size ≤ 400 := by omega
  have hz2 : u.size ≤ 400 := by omega
  have hzs : s.size < 400 := by omega
  have hzt : t.size < 400 := by omega
  replace hc1 := hid hc1
  replace hc2 := hid hc2
  go_enter Try.func4, Try.ntmps4
  go_wp2_with fail
  refine Calls.mono HB.out ?_
  rintro e w1 ⟨rfl, hb1⟩
  clear HB
  go_wp2_with fail
  refine Calls.mono (H1.out _) ?_
  rintro e w2 ⟨aA, nA, cA, A, a, e1, rfl, rA, hA, hb2⟩
  have hB2 := Below.on hb1 hb2
  clear H1 hb1 hb2
  go_wp2_with fail
  refine Calls.mono (H2.out _) ?_
  rintro e w3 ⟨aB, nB, cB, B, b, f1, rfl, rB, hB, hb3⟩
  have hB3 := Below.on hB2 hb3
  have rA3 := rA.later hb3
  clear H2 hb3 rA hB2
  go_wp2_with fail
  refine Calls.mono (H3.out _) ?_
  rintro e w4 ⟨aC, nC, cC, C, c, g, rfl, rC, hC, hb4⟩
  have hB4 := Below.on hB3 hb4
  have rA4 := rA3.later hb4
  have rB4 := rB.later hb4
  clear H3 hb4 rA3 hB3 rB
  obtain ⟨j1, j2, j3⟩ := joins J (by omega) hA hB hC
  have iA : Inn s a := by
    rcases hA with ⟨_, _, h, _⟩ | ⟨_, h⟩
    · omega
    · exact (lx_inn h (Nat.zero_le _)).2.1
  have iB : (∀ x ∈ B, Inn t x.2.2.2) ∧ Inn t b ∧ B.length ≤ t.size + 1 := by
    rcases hB with ⟨_, _, h, _⟩ | ⟨_, h⟩
    · omega
    · exact lx_inn h (Nat.zero_le _)
  have iC : A.length ≤ s.size + 1 := by
    rcases hA with ⟨_, _, h, _⟩ | ⟨_, h⟩
    · omega
    · exact (lx_inn h (Nat.zero_le _)).2.2
  replace j1 := hid j1
  replace j2 := hid j2
  replace j3 := hid j3
  clear hA hB hC J hu hu1 g1 hw0 h4
  by_cases he : e1 = 0
  · subst he
    by_cases hf : f1 = 0
    · subst hf
      obtain ⟨rfl, A', y, eA, hB0, eC⟩ := j3.out rfl rfl
      have lA := rA4.len
      have lB := rB4.len
      have lC := rC.len
      have mA := rA4.max
      have mB := rB4.max
      have mC := rC.max
      have pA' := rA4.cap
      have pB := rB4.cap
      have pC := rC.cap
      have hnA : nA = A'.length + 1 := by rw [← lA, eA]; simp
      have hnC : nC = A'.length + nB := by rw [← lC, eC]; simp [lB]
      have hq : A'.length ≤ 400 := by omega
      have hnB : 0 < nB ∧ nB ≤ 401 := by omega
      have tA : A.take A'.length = A' := by rw [eA]; exact List.take_left
      have tC : C.take A'.length = A' := by rw [eC]; exact List.take_left
      have HM : ∀ k, k < nB → tth C (A'.length + k) = tsh (s.size + 1) (tth B k) ∧ Inn t (tth B k).2.2.2 := fun k hk => by
        rw [eC, tth_right, tth_map _ _ (by omega)]
        exact ⟨rfl, iB.1 _ (tth_mem (by omega))⟩
      obtain ⟨aoC, pc, dc, hslC, hrC⟩ := slice_upto rC (r := A'.length) (by omega)
      obtain ⟨aoA, pa, da, hslA, hrA⟩ := slice_upto rA4 (r := A'.length) (by omega)
      rw [tC] at hrC
      rw [tA] at hrA
      have HS : Hid (∀ w', Below w4.heap.size w4 w' → _) := fun w' hb => same_any aoC aoA pc dc pa da A' A' w' (hrC w' (rC.later hb)) (hrA w' (rA4.later hb))
      rw [decide_eq_true rfl] at HS
      replace HM := hid HM
      generalize A'.length = q at *
      obtain ⟨bB, oB, rfl, hcB⟩ := rB4.cells (by omega)
      obtain ⟨bC, oC, rfl, hcC⟩ := rC.cells (by omega)
      replace hcB := hid hcB
      replace hcC := hid hcC
      have n1 : ((nA : Int) == 0) = false := by simp; omega
      have n2 : ((nB : Int) == 0) = false := by simp; omega
      have n3 : IntKind.i64.wrap ((nA : Int) + (nB : Int)) = (nA : Int) + (nB : Int) := by rw [IntKind.wrap_i64]; omega
      have n4 : IntKind.i64.wrap ((nA : Int) + (nB : Int) - 1) = (nA : Int) + (nB : Int) - 1 := by rw [IntKind.wrap_i64]; omega
      have n5 : ((nC : Int) == (nA : Int) + (nB : Int) - 1) = true := by simp; omega
      have n8 : ((nC : Int) != (nA : Int) + (nB : Int) - 1) = false := by rw [bne, n5]; rfl
      have n6 : (nA : Int) - 1 = (q : Int) := by omega
      have n7 : IntKind.i64.wrap (q : Int) = (q : Int) := by rw [IntKind.wrap_i64]; omega
      replace hnA := hid hnA
      replace hnC := hid hnC
      clear j1 j2 j3 iA iB iC eA eC lA lB lC tA tC hrA hrC rA4 rB4 rC hB0
      go_wp2
      go_loopw [14] (fun i wr => ∃ k : Nat, k ≤ nB ∧ i = .int .i64 k ∧ Below w4.heap.size w4 wr) (fun i _ => nB - (intOf i).toNat)
      case atStart => exact ⟨0, by omega, rfl, Below.refl _ _⟩
      case round =>
        obtain ⟨k, hk, rfl, hbk⟩ := hrel
        by_cases hlt : k < nB
        · obtain ⟨hV, hI1, hI2⟩ := HM.out k hlt
          obtain ⟨c0, c1, c2, c3⟩ := (hcB.out k hlt).later hbk
          have hCt := (hcC.out (q + k) (by have := hnC.out; omega)).later hbk
          rw [hV] at hCt
          obtain ⟨m, hm⟩ : ∃ m, m = q + k := ⟨_, rfl⟩
          rw [← hm] at hCt
          have hmi : (q : Int) + (k : Int) = (m : Int) := by omega
          have hwm : IntKind.i64.wrap (m : Int) = m := by rw [IntKind.wrap_i64]; omega
          have hmC : m < nC := by have := hnC.out; omega
          replace hm := hid hm
          clear hV HS hslA hslC
          generalize tth B k = x at *
          obtain ⟨x0, x1, x2, x3⟩ := x
          have hV2 : tsh (s.size + 1) (x0, x1, x2, x3) = (x0, x1, x2, x3 + (s.size : Int) + 1) := by
            show (x0, x1, x2, x3 + ((s.size + 1 : Nat) : Int)) = _
            rw [show x3 + ((s.size + 1 : Nat) : Int) = x3 + (s.size : Int) + 1 from by omega]
          rw [hV2] at hCt
          have v1 : IntKind.i64.wrap (x3 + (s.size : Int)) = x3 + (s.size : Int) := by rw [IntKind.wrap_i64]; show _ = _; have := hI1; have := hI2; simp only at *; omega
          have v2 : IntKind.i64.wrap (x3 + (s.size : Int) + 1) = x3 + (s.size : Int) + 1 := by rw [IntKind.wrap_i64]; have := hI1; have := hI2; simp only at *; omega
          have hrun := fun w => run_other (x0, x1, x2, x3 + (s.size : Int) + 1) (x0, x1, x2, x3 + (s.size : Int) + 1) w
          rw [decide_eq_true rfl] at hrun
          have hal : Below wr.heap.size wr (wr.alloc (.cells #[.int .i64 x0, .string x1, .int .i64 x2, .int .i64 (x3 + (s.size : Int) + 1)] 30)) := (Below.refl _ _).alloc (Nat.le_refl _) _
          obtain ⟨d0, d1, d2, d3⟩ := hCt.later hal
          have hbk2 := Below.on hbk hal
          clear hV2 hCt HM hcB hcC hI1 hI2
          go_wp2
          go_quiet (fail)
          have hbk3 := below_drewN hbk2 nq
          clear hbk2 hmi hwm n6 n7 v1 v2 hrun c0 c1 c2 c3 d0 d1 d2 d3 hal mA mB mC pA' pB pC hmC hq hz1 hz2
          generalize (wr.alloc (.cells #[.int .i64 x0, .string x1, .int .i64 x2, .int .i64 (x3 + (s.size : Int) + 1)] 30)).drewN nq = w5 at *
          go_wp2
          go_roundw
          case rel => exact ⟨k + 1, by omega, by go_num, hbk3⟩
          case measure => simp only [intOf]; omega
        · obtain rfl : k = nB := by omega
          have hY : Below w4.heap.size w4 wr.drew := hbk.drew
          clear HM hcB hcC
          go_wp2
          go_region_held (fun w' => True) (trivial) (first
            | (go_at_call 12; refine Calls.mono (HS.out _ hY) ?_; rintro e y ⟨rfl, hby⟩; replace hY := Below.on hY hby))
          all_goals
            go_wp2
            go_ret
            exact ⟨rfl, Below.on hB4 hY⟩
    · obtain ⟨rfl, ec⟩ := j2.out rfl hf
      have gf : (g == 0) = false := by simpa using hf
      obtain ⟨ib1, ib2⟩ := iB.2.1
      have ec' : c = b + (s.size : Int) + 1 := by rw [ec]; omega
      subst ec'
      have v1 : IntKind.i64.wrap (b + (s.size : Int)) = b + (s.size : Int) := by rw [IntKind.wrap_i64]; omega
      have v2 : IntKind.i64.wrap (b + (s.size : Int) + 1) = b + (s.size : Int) + 1 := by rw [IntKind.wrap_i64]; omega
      clear j1 j2 j3 iA iB iC ec ib1 ib2 rA4 rB4 rC
      go_wp2
      go_ret
      exact ⟨rfl, hB4⟩
  · have ge : (e1 == 0) = false := by simpa using he
    by_cases ha : a = (s.size : Int)
    · have ga : (a == (s.size : Int)) = true := by simpa using ha
      clear j1 j2 j3 iA iB iC ha rA4 rB4 rC
      go_wp2
      go_ret
      exact ⟨rfl, hB4⟩
    · obtain ⟨rfl, rfl⟩ : g = e1 ∧ c = a := by
        rcases j1.out he with h | h
        · exact absurd h ha
        · exact h
      have ga : (c == (s.size : Int)) = false := by simpa using ha
      clear j1 j2 j3 iA iB iC ha rA4 rB4 rC
      go_wp2
      go_ret
      exact ⟨rfl, hB4⟩

end Go.Proofs.Ytlnijapabhlbeaa
