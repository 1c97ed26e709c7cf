/- The walks of Same and of LexAll. -/
import Derived.Test.YtlnijapabhlbeaaLl
namespace Go.Proofs.Ytlnijapabhlbeaa
open Go.RowKit
set_option linter.unusedVariables false

theorem run_tok (o : BinOp) (ho : o = .eql ∨ o = .neq) (a b : Tk) (w : World) :
    (binOp o 30 (.agg #[.int .i64 a.1, .string a.2.1, .int .i64 a.2.2.1, .int .i64 a.2.2.2]) (.agg #[.int .i64 b.1, .string b.2.1, .int .i64 b.2.2.1, .int .i64 b.2.2.2])).run Try.prog w = .ok (.bool (if o = .eql then decide (a = b) else !decide (a = b))) w := by
  obtain ⟨k, s, i, p⟩ := a
  obtain ⟨k', s', i', p'⟩ := b
  have e : decide ((k, s, i, p) = (k', s', i', p')) = (decide (k = k') && (decide (s = s') && (decide (i = i') && decide (p = p')))) := by
    rw [Bool.eq_iff_iff]; simp
  rw [e]
  by_cases h1 : k = k'
  · subst h1
    have h3 := same_str s s'
    by_cases h2 : s = s'
    · subst h2
      rw [decide_eq_true rfl] at h3
      by_cases h4 : i = i'
      · subst h4
        have g : (p == p') = decide (p = p') := by rw [Bool.eq_iff_iff]; simp
        generalize decide (p = p') = B at *
        clear e
        cases B
        · rcases ho with rfl | rfl
          · go_simp
          · go_simp
        · rcases ho with rfl | rfl
          · go_simp
          · go_simp
      · have g : (i == i') = false := by simpa using h4
        have g2 : decide (i = i') = false := by simpa using h4
        rw [g2]
        rcases ho with rfl | rfl
        · go_simp
        · go_simp
    · rw [decide_eq_false h2] at h3 ⊢
      rcases ho with rfl | rfl
      · go_simp
      · go_simp
  · have g : (k == k') = false := by simpa using h1
    have g2 : decide (k = k') = false := by simpa using h1
    rw [g2]
    rcases ho with rfl | rfl
    · go_simp
    · go_simp
theorem run_other (a b : Tk) (w : World) : (binOp .neq 30 (.agg #[.int .i64 a.1, .string a.2.1, .int .i64 a.2.2.1, .int .i64 a.2.2.2]) (.agg #[.int .i64 b.1, .string b.2.1, .int .i64 b.2.2.1, .int .i64 b.2.2.2])).run Try.prog w = .ok (.bool (!decide (a = b))) w := run_tok .neq (.inr rfl) a b w

theorem take_tok {l : List Tk} {k : Nat} (hk : k < l.length) : l.take (k + 1) = l.take k ++ [tth l k] := by
  rw [List.take_add_one, List.getElem?_eq_getElem hk, tth_at hk]; rfl

set_option maxRecDepth 100000 in
theorem same_any (ao bo : Option Addr) (n c m d : Nat) (xs ys : List Tk) (w : World) (h : RdT w ao n c xs) (k : RdT w bo m d ys) : Calls Try.prog 12 #[.slice ao n c, .slice bo m d] w fun e w' => e = .returned (.bool (decide (xs = ys))) ∧ Below w.heap.size w w' := by
  have hlen := h.len
  have hcap := h.cap
  have hmax := h.max
  have klen := k.len
  have kcap := k.cap
  have kmax := k.max
  by_cases hnm : n = m
  · subst hnm
    have HH : Hid (0 < n → ∃ b o, ao = some ⟨b, o, none⟩ ∧ ∀ i, i < n → Ct w b (o + i * 4) (tth xs i)) := h.cells
    have HK : Hid (0 < n → ∃ b o, bo = some ⟨b, o, none⟩ ∧ ∀ i, i < n → Ct w b (o + i * 4) (tth ys i)) := k.cells
    have HL : Hid (xs.length = n) := hlen
    have HM : Hid (ys.length = n) := klen
    clear h k hlen klen
    go_enter Try.func12, Try.ntmps12
    go_wp2
    go_loopw [5] (fun i wr => ∃ k : Nat, k ≤ n ∧ i = .int .i64 k ∧ Hid (xs.take k = ys.take k) ∧ Hid (Below w.heap.size w wr)) (fun i _ => n - (intOf i).toNat)
    case atStart => exact ⟨0, by omega, rfl, by simp [Hid], Below.refl _ _⟩
    case round =>
      obtain ⟨j, hj, rfl, HD, HB⟩ := hrel
      by_cases hlt : j < n
      · obtain ⟨b, o, rfl, hc⟩ := HH.out (by omega)
        obtain ⟨b', o', rfl, hc'⟩ := HK.out (by omega)
        obtain ⟨c0, c1, c2, c3⟩ := (hc j hlt).later HB.out
        obtain ⟨d0, d1, d2, d3⟩ := (hc' j hlt).later HB.out
        clear hc hc'
        have hrun := run_other (tth xs j) (tth ys j)
        by_cases hx : tth xs j = tth ys j
        · rw [decide_eq_true hx] at hrun
          have HN : Hid (xs.take (j + 1) = ys.take (j + 1)) := by
            rw [Hid, take_tok (by rw [HL.out]; exact hlt), take_tok (by rw [HM.out]; exact hlt), HD.out, hx]
          clear HD hx
          generalize tth xs j = u at *
          generalize tth ys j = v at *
          go_wp2
          go_quiet (fail)
          go_wp2
          go_roundw
          case rel => exact ⟨j + 1, by omega, by go_num, HN, below_drewN HB.out _⟩
          case measure => simp only [intOf]; omega
        · rw [decide_eq_false hx] at hrun
          have HN : Hid (decide (xs = ys) = false) := by
            rw [Hid, decide_eq_false_iff_not]
            intro e
            exact hx (by rw [e])
          clear HD hx
          generalize tth xs j = u at *
          generalize tth ys j = v at *
          go_wp2
          go_quiet (fail)
          go_wp2
          go_ret
          exact ⟨ret_bool HN.out.symm, below_drewN HB.out _⟩
      · have HN : Hid (xs = ys) := by
          have := HD.out
          rwa [List.take_of_length_le (by rw [HL.out]; omega), List.take_of_length_le (by rw [HM.out]; omega)] at this
        clear HD
        go_wp2
        go_ret
        exact ⟨ret_bool (by rw [HN.out]; simp), HB.out⟩
  · have HN : Hid (decide (xs = ys) = false) := by
      rw [Hid, decide_eq_false_iff_not]
      intro e
      rw [e] at hlen
      omega
    have g : ((n : Int) == (m : Int)) = false := by simp; omega
    clear h k
    go_enter Try.func12, Try.ntmps12
    go_wp2
    go_ret
    exact ⟨ret_bool HN.out.symm, Below.refl _ _⟩

set_option maxRecDepth 100000 in
set_option maxHeartbeats 1000000 in
theorem lexAll_any (s : ByteArray) (hs : s.size ≤ 9223372036854775807) (w : World) : Calls Try.prog 3 #[.string s] w fun e w' => e = .returned (.bool true) ∧ Below w.heap.size w w' := by
  have HB : Hid _ := begun_any w
  by_cases h5 : 500 < s.size
  · go_enter Try.func3, Try.ntmps3
    go_wp2_with fail
    refine Calls.mono HB.out ?_
    rintro e w1 ⟨rfl, hb1⟩
    go_wp2
    go_ret
    exact ⟨rfl, hb1⟩
  · have H1 : Hid (∀ w, _) := fun w => lex_any s hs w
    have H2 : Hid (∀ w, _) := fun w => refLex_any s hs w
    go_enter Try.func3, Try.ntmps3
    go_wp2_with fail
    refine Calls.mono HB.out ?_
    rintro e w1 ⟨rfl, hb1⟩
    clear HB
    go_wp2_with fail
    refine Calls.mono (H1.out _) ?_
    rintro e w2 ⟨ao, n, c, ts, a, f, rfl, hr, hl, hb⟩
    have hB2 := Below.on hb1 hb
    clear H1 hb1 hb
    go_wp2_with fail
    refine Calls.mono (H2.out _) ?_
    rintro e w3 ⟨ao2, n2, c2, ts2, a2, f2, rfl, hr2, hl2, hb⟩
    obtain ⟨rfl, rfl, rfl⟩ := hl.det hl2
    have hB3 := Below.on hB2 hb
    have HS := same_any ao ao2 n c n2 c2 ts ts w3 (hr.later hb) hr2
    rw [decide_eq_true rfl] at HS
    replace HS := hid HS
    clear H2 hl hl2 hr hr2 hb hB2
    go_wp2_with fail
    refine Calls.mono HS.out ?_
    rintro e w4 ⟨rfl, hb4⟩
    have hB4 := Below.on hB3 hb4
    clear HS
    go_wp2
    go_ret
    exact ⟨rfl, hB4⟩

end Go.Proofs.Ytlnijapabhlbeaa
