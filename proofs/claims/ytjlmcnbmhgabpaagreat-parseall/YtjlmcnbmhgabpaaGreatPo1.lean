/- The walk of col. -/
import Derived.Test.YtjlmcnbmhgabpaaGreatPo
namespace Go.Proofs.YtjlmcnbmhgabpaaGreat
open Go.RowKit
set_option linter.unusedVariables false

theorem col_st (S : Sa) : stO (runP colP S) = stO (runP (optP ⟨#[114, 101, 102]⟩ ⟨#[]⟩ nameP) (stO (runP (choiceP opsKind) (stO (runP nameP S))))) := by rw [colP, seq_st, seq_st]
theorem col_inr {S : Sa} {t : Co} {r : List Tk} (h : runP colP S = .inr (t, r)) : ∃ n q k q2 f, runP nameP S = .inr (n, q) ∧ runP (choiceP opsKind) (stO (runP nameP S)) = .inr (k, q2) ∧ runP (optP ⟨#[114, 101, 102]⟩ ⟨#[]⟩ nameP) (stO (runP (choiceP opsKind) (stO (runP nameP S)))) = .inr (f, r) ∧ t = (n, k, f) := by
  obtain ⟨n, x, q, h1, h2, rfl⟩ := seq_inr h
  obtain ⟨k, f, q2, h3, h4, rfl⟩ := seq_inr h2
  exact ⟨n, q, k, q2, f, h1, h3, h4, rfl⟩

set_option maxRecDepth 100000 in
set_option maxHeartbeats 2000000 in
theorem pCol_any {g : Nat} {S : Sa} {w : World} (h : Rp w g S 0) : Calls Tryz.prog 115 #[.pointer (some ⟨g, 0, none⟩)] w (TeCol g w (runP colP S)) := by
  have hgl := h.lt
  have b0 := (Bt.new w 55 (.string ⟨#[]⟩) (.int .i64 0) (.string ⟨#[]⟩)).later (bal (Below.refl _ _) (.cells #[.string ⟨#[]⟩, .int .i64 0, .string ⟨#[]⟩] 55))
  have b1 := Bt.new (w.alloc (.cells #[.string ⟨#[]⟩, .int .i64 0, .string ⟨#[]⟩] 55)) 55 (.string ⟨#[]⟩) (.int .i64 0) (.string ⟨#[]⟩)
  rw [World.size_alloc] at b1
  have H1 : Hid _ := hid (pName_any ((h.alloc (.cells #[.string ⟨#[]⟩, .int .i64 0, .string ⟨#[]⟩] 55)).alloc (.cells #[.string ⟨#[]⟩, .int .i64 0, .string ⟨#[]⟩] 55)))
  have HS : Hid _ := hid (col_st S)
  have HI : Hid _ := hid fun t r (e : runP colP S = .inr (t, r)) => col_inr e
  generalize runP colP S = R at *
  clear h
  go_enter Tryz.func115, Tryz.ntmps115
  go_wp2_with fail
  refine Calls.mono H1.out ?_
  rintro e w1 ⟨s1, rfl, hb1, hr1, hu1⟩
  have hB1 : But g w w1 := hb1.behind.behind
  have x1 := b1.but hb1 (by omega)
  have z1 := b0.but hb1 (by omega)
  obtain ⟨c0, c1, c2⟩ := x1.cells
  obtain ⟨f0, f1, f2⟩ := x1.free
  have hr2 := hr1.other (r := w.heap.size + 1) (by omega) 0 (.string s1)
  have x2 := x1.set0 (.string s1)
  have z2 := z1.other (by omega) (r := w.heap.size + 1) 0 (.string s1)
  have hB2 := hB1.new (r := w.heap.size + 1) (by omega) 0 (.string s1)
  have H2 : Hid _ := hid (pKinds hr2 (sz_set _ _ _))
  generalize stO (runP nameP S) = S1 at *
  have hlt := x1.lt
  clear H1 hb1 b0 b1 hB1 hr1 x1 z1
  go_wp2_with fail
  refine Calls.mono H2.out ?_
  rintro e w3 ⟨rfl, hr3, hb3⟩
  have hB3 := hB2.trans hb3
  have x3 := x2.but hb3 (by omega)
  have z3 := z2.but hb3 (by omega)
  obtain ⟨c0, c1, c2⟩ := x3.cells
  obtain ⟨f0, f1, f2⟩ := x3.free
  have hr4 := hr3.other (r := w.heap.size + 1) (by omega) 1 (.int .i64 (oneB opsKind S1))
  have x4 := x3.set1 (.int .i64 (oneB opsKind S1))
  have z4 := z3.other (by omega) (r := w.heap.size + 1) 1 (.int .i64 (oneB opsKind S1))
  have hB4 := hB3.new (r := w.heap.size + 1) (by omega) 1 (.int .i64 (oneB opsKind S1))
  clear H2 hB2 hB3 x2 z2 hb3 hr3 hr2 x3 z3
  by_cases hk : oneB opsKind S1 = 0
  · obtain ⟨e1, e2⟩ := choice_zero (w := w) (g := g) (d := 0) opsKind_pos hk
    have E2 : Hid _ := hid e2
    have HF : Hid _ := hid (pFail_any hr4 5 (by decide))
    rw [← e1] at HF
    have gk : (oneB opsKind S1 == 0) = true := by simpa using hk
    clear hk e1 e2 hr4
    generalize oneB opsKind S1 = kk at *
    go_wp2_with fail
    refine Calls.mono HF.out ?_
    rintro e w5 ⟨rfl, hr5, hb5⟩
    have hB5 := hB4.trans hb5
    have x5 := x4.but hb5 (by omega)
    have z5 := z4.but hb5 (by omega)
    clear HF hb5 hB4 x4 z4
    have HT := pTake_any hr5 ⟨#[114, 101, 102]⟩
    cases hb : takeB ⟨#[114, 101, 102]⟩ (stO (runP (choiceP opsKind) S1)) with
    | false =>
      obtain ⟨e3, e4⟩ := opt_false (z := (⟨#[]⟩ : ByteArray)) (P := nameP) hb
      rw [hb, takeB_false hb] at HT
      replace HT : Hid _ := hid HT
      have E3 : Hid _ := hid e3
      have E4 : Hid _ := hid e4
      clear hb e3 e4
      go_wp2_with fail
      refine Calls.mono HT.out ?_
      rintro e w6 ⟨rfl, hr6, hb6⟩
      have hB6 := hB5.trans hb6
      have x6 := x5.but hb6 (by omega)
      have z6 := z5.but hb6 (by omega)
      obtain ⟨c0, c1, c2⟩ := x6.cells
      obtain ⟨m0, m1, m2⟩ := z6.cells
      obtain ⟨n0, n1, n2⟩ := z6.free
      clear HT hb6 x6 z6
      go_wp2
      refine bodyPost_ret (v := .agg #[.string s1, .int .i64 kk, .string ⟨#[]⟩]) (by simp [results, Tryz.results115, go_sem, m0, m1, m2]) rfl (TeCol.fin hgl hB6 (by rw [HS.out, E3.out]; exact hr6) fun t r e => ?_)
      obtain ⟨n, q, k, q2, f, g1, g2, g3, rfl⟩ := HI.out t r e
      exact absurd g2 (E2.out k q2)
    | true =>
      have e3 := opt_true (z := (⟨#[]⟩ : ByteArray)) (P := nameP) hb
      rw [hb] at HT
      replace HT : Hid _ := hid HT
      have E3 : Hid _ := hid e3
      clear hb e3
      go_wp2_with fail
      refine Calls.mono HT.out ?_
      rintro e w6 ⟨rfl, hr6, hb6⟩
      have hB6 := hB5.trans hb6
      have x6 := x5.but hb6 (by omega)
      have z6 := z5.but hb6 (by omega)
      have HN : Hid _ := hid (pName_any hr6)
      clear HT hb6 hr6
      go_wp2_with fail
      refine Calls.mono HN.out ?_
      rintro e w7 ⟨s2, rfl, hb7, hr7, hu7⟩
      have x7 := x6.but hb7 (by omega)
      have z7 := z6.but hb7 (by omega)
      have hB7 := (hB6.trans hb7).new (r := w.heap.size + 1) (by omega) 2 (.string s2)
      have hr8 := hr7.other (r := w.heap.size + 1) (by omega) 2 (.string s2)
      obtain ⟨c0, c1, c2⟩ := x7.cells
      obtain ⟨f0, f1, f2⟩ := x7.free
      obtain ⟨m0, m1, m2⟩ := z7.cells
      obtain ⟨n0, n1, n2⟩ := z7.free
      clear HN hb7 x6 z6 x7 z7 hB6 hr7
      go_wp2
      refine bodyPost_ret (v := .agg #[.string s1, .int .i64 kk, .string s2]) (by simp [results, Tryz.results115, go_sem, m0, m1, m2]) rfl (TeCol.fin hgl hB7 (by rw [HS.out, E3.out]; exact hr8) fun t r e => ?_)
      obtain ⟨n, q, k, q2, f, g1, g2, g3, rfl⟩ := HI.out t r e
      exact absurd g2 (E2.out k q2)

  · obtain ⟨e1, e2⟩ := choice_some opsKind_pos hk
    have E2 : Hid _ := hid e2
    rw [← e1] at hr4
    have gk : (oneB opsKind S1 == 0) = false := by simpa using hk
    clear hk e1 e2
    generalize oneB opsKind S1 = kk at *
    have HT := pTake_any hr4 ⟨#[114, 101, 102]⟩
    cases hb : takeB ⟨#[114, 101, 102]⟩ (stO (runP (choiceP opsKind) S1)) with
    | false =>
      obtain ⟨e3, e4⟩ := opt_false (z := (⟨#[]⟩ : ByteArray)) (P := nameP) hb
      rw [hb, takeB_false hb] at HT
      replace HT : Hid _ := hid HT
      have E3 : Hid _ := hid e3
      have E4 : Hid _ := hid e4
      clear hb e3 e4
      go_wp2_with fail
      refine Calls.mono HT.out ?_
      rintro e w6 ⟨rfl, hr6, hb6⟩
      have hB6 := hB4.trans hb6
      have x6 := x4.but hb6 (by omega)
      have z6 := z4.but hb6 (by omega)
      obtain ⟨c0, c1, c2⟩ := x6.cells
      obtain ⟨m0, m1, m2⟩ := z6.cells
      obtain ⟨n0, n1, n2⟩ := z6.free
      clear HT hb6 x6 z6
      go_wp2
      refine bodyPost_ret (v := .agg #[.string s1, .int .i64 kk, .string ⟨#[]⟩]) (by simp [results, Tryz.results115, go_sem, m0, m1, m2]) rfl (TeCol.fin hgl hB6 (by rw [HS.out, E3.out]; exact hr6) fun t r e => ?_)
      obtain ⟨n, q, k, q2, f, g1, g2, g3, rfl⟩ := HI.out t r e
      obtain rfl := E2.out k q2 g2
      rw [hu1 n q g1, E4.out f r g3]
    | true =>
      have e3 := opt_true (z := (⟨#[]⟩ : ByteArray)) (P := nameP) hb
      rw [hb] at HT
      replace HT : Hid _ := hid HT
      have E3 : Hid _ := hid e3
      clear hb e3
      go_wp2_with fail
      refine Calls.mono HT.out ?_
      rintro e w6 ⟨rfl, hr6, hb6⟩
      have hB6 := hB4.trans hb6
      have x6 := x4.but hb6 (by omega)
      have z6 := z4.but hb6 (by omega)
      have HN : Hid _ := hid (pName_any hr6)
      clear HT hb6 hr6
      go_wp2_with fail
      refine Calls.mono HN.out ?_
      rintro e w7 ⟨s2, rfl, hb7, hr7, hu7⟩
      have x7 := x6.but hb7 (by omega)
      have z7 := z6.but hb7 (by omega)
      have hB7 := (hB6.trans hb7).new (r := w.heap.size + 1) (by omega) 2 (.string s2)
      have hr8 := hr7.other (r := w.heap.size + 1) (by omega) 2 (.string s2)
      obtain ⟨c0, c1, c2⟩ := x7.cells
      obtain ⟨f0, f1, f2⟩ := x7.free
      obtain ⟨m0, m1, m2⟩ := z7.cells
      obtain ⟨n0, n1, n2⟩ := z7.free
      clear HN hb7 x6 z6 x7 z7 hB6 hr7
      go_wp2
      refine bodyPost_ret (v := .agg #[.string s1, .int .i64 kk, .string s2]) (by simp [results, Tryz.results115, go_sem, m0, m1, m2]) rfl (TeCol.fin hgl hB7 (by rw [HS.out, E3.out]; exact hr8) fun t r e => ?_)
      obtain ⟨n, q, k, q2, f, g1, g2, g3, rfl⟩ := HI.out t r e
      obtain rfl := E2.out k q2 g2
      rw [E3.out] at g3
      rw [hu1 n q g1, hu7 f r g3]

end Go.Proofs.YtjlmcnbmhgabpaaGreat
