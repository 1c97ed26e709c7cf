/- The walk of comp. -/
import Derived.Test.YtjlmcnbmhgabpaaGreatPh
namespace Go.Proofs.YtjlmcnbmhgabpaaGreat
open Go.RowKit
set_option linter.unusedVariables false

theorem opsComp_pos : ∀ c ∈ opsComp, 0 < c.2 := by decide
theorem opsComp_cw (w : World) : Cw (w.alloc (.cells #[.string ⟨#[61]⟩, .int .i64 8, .string ⟨#[60, 62]⟩, .int .i64 9, .string ⟨#[60]⟩, .int .i64 10, .string ⟨#[60, 61]⟩, .int .i64 11, .string ⟨#[62]⟩, .int .i64 12, .string ⟨#[62, 61]⟩, .int .i64 13] 131)) w.heap.size opsComp := by
  intro i hi
  have hi' : i < 6 := hi
  match i, hi' with
  | 0, _ => simp [go_sem, opsComp]
  | 1, _ => simp [go_sem, opsComp]
  | 2, _ => simp [go_sem, opsComp]
  | 3, _ => simp [go_sem, opsComp]
  | 4, _ => simp [go_sem, opsComp]
  | 5, _ => simp [go_sem, opsComp]

theorem comp_zero {U : List Tk → Re Tr} {S : Sa} (h : oneB opsComp (stO (runP (sumP U) S)) = 0) : runP (compP U) S = runP (sumP U) S ∧ oneS opsComp (stO (runP (sumP U) S)) = stO (runP (sumP U) S) := by
  match S with
  | .inl x => exact ⟨rfl, rfl⟩
  | .inr ts =>
    have e : runP (sumP U) (.inr ts) = sumP U ts := rfl
    have e2 : runP (compP U) (.inr ts) = compP U ts := rfl
    rw [e] at h ⊢
    rw [e2, compP]
    cases hn : sumP U ts with
    | inl x => exact ⟨rfl, rfl⟩
    | inr x =>
      rw [hn] at h
      have h' : oneOf opsComp x.2 = 0 := h
      refine ⟨?_, oneOf_zero opsComp_pos h'⟩
      show (if oneOf opsComp x.2 = 0 then _ else _) = _
      rw [if_pos h']
theorem comp_some {U : List Tk → Re Tr} {S : Sa} (h : oneB opsComp (stO (runP (sumP U) S)) ≠ 0) : 0 < oneB opsComp (stO (runP (sumP U) S)) ∧ ∃ t, (∃ r, runP (sumP U) S = .inr (t, r)) ∧
    runP (compP U) S = mapR (tTwo (oneB opsComp (stO (runP (sumP U) S))).toNat t) (runP (sumP U) (oneS opsComp (stO (runP (sumP U) S)))) := by
  match S with
  | .inl x => exact absurd rfl h
  | .inr ts =>
    have e : runP (sumP U) (.inr ts) = sumP U ts := rfl
    have e2 : runP (compP U) (.inr ts) = compP U ts := rfl
    rw [e] at h ⊢
    rw [e2, compP]
    cases hn : sumP U ts with
    | inl x => rw [hn] at h; exact absurd rfl h
    | inr x =>
      rw [hn] at h
      have h' : oneOf opsComp x.2 ≠ 0 := h
      obtain ⟨e1, e2, _⟩ := oneOf_some opsComp_pos h'
      refine ⟨e2, x.1, ⟨x.2, rfl⟩, ?_⟩
      show (if oneOf opsComp x.2 = 0 then _ else _) = mapR _ (runP (sumP U) (oneS opsComp (.inr x.2)))
      rw [if_neg h', e1]
      rfl

set_option maxRecDepth 100000 in
set_option maxHeartbeats 4000000 in
theorem pComp_any {g d : Nat} {U : List Tk → Re Tr} (hU : ∀ S w, Rp w g S d → Calls Tryz.prog 145 #[.pointer (some ⟨g, 0, none⟩)] w (TeE g d w (runP (sumP U) S))) {S : Sa} {w : World} (h : Rp w g S d) :
    Calls Tryz.prog 139 #[.pointer (some ⟨g, 0, none⟩)] w (TeE g d w (runP (compP U) S)) := by
  have hgl := h.lt
  have b0 := Be.new w 0 nilP (.slice none 0 0)
  have H1 : Hid _ := hid (hU S _ (h.alloc (.cells #[.int .i64 0, .int .i64 0, .int .i64 0, .string ⟨#[]⟩, .string ⟨#[]⟩, .string ⟨#[]⟩, .slice none 0 0] 80)))
  have HU : Hid _ := hid hU
  have HZ0 : Hid _ := hid (comp_zero (U := U) (S := S))
  have HZ1 : Hid _ := hid (comp_some (U := U) (S := S))
  generalize runP (compP U) S = R at *
  clear hU h
  go_enter Tryz.func139, Tryz.ntmps139
  go_wp2_with fail
  refine Calls.mono H1.out ?_
  rintro e w1 ⟨o1, p1, a1, l1, c1, rfl, hb1, hr1, hx1⟩
  have hB1 : But g w w1 := hb1.behind
  have hsz1 : w.heap.size + 1 ≤ w1.heap.size := by have := hb1.size; simp at this; omega
  have z1 := b0.but hb1 (by omega)
  have x2 := (Be.new w1 o1 p1 (.slice a1 l1 c1)).later (bal (Below.refl _ _) (.cells #[.string ⟨#[61]⟩, .int .i64 8, .string ⟨#[60, 62]⟩, .int .i64 9, .string ⟨#[60]⟩, .int .i64 10, .string ⟨#[60, 61]⟩, .int .i64 11, .string ⟨#[62]⟩, .int .i64 12, .string ⟨#[62, 61]⟩, .int .i64 13] 131))
  have z2 := z1.later (bal (bal (Below.refl _ _) (.cells #[.int .i64 o1, .int .i64 p1.1, .int .i64 p1.2.1, .string p1.2.2.1, .string p1.2.2.2.1, .string p1.2.2.2.2, .slice a1 l1 c1] 80)) (.cells #[.string ⟨#[61]⟩, .int .i64 8, .string ⟨#[60, 62]⟩, .int .i64 9, .string ⟨#[60]⟩, .int .i64 10, .string ⟨#[60, 61]⟩, .int .i64 11, .string ⟨#[62]⟩, .int .i64 12, .string ⟨#[62, 61]⟩, .int .i64 13] 131))
  have hr2 := (hr1.alloc (.cells #[.int .i64 o1, .int .i64 p1.1, .int .i64 p1.2.1, .string p1.2.2.1, .string p1.2.2.2.1, .string p1.2.2.2.2, .slice a1 l1 c1] 80)).alloc (.cells #[.string ⟨#[61]⟩, .int .i64 8, .string ⟨#[60, 62]⟩, .int .i64 9, .string ⟨#[60]⟩, .int .i64 10, .string ⟨#[60, 61]⟩, .int .i64 11, .string ⟨#[62]⟩, .int .i64 12, .string ⟨#[62, 61]⟩, .int .i64 13] 131)
  have hB2 := (hB1.alloc (.cells #[.int .i64 o1, .int .i64 p1.1, .int .i64 p1.2.1, .string p1.2.2.1, .string p1.2.2.2.1, .string p1.2.2.2.2, .slice a1 l1 c1] 80)).alloc (.cells #[.string ⟨#[61]⟩, .int .i64 8, .string ⟨#[60, 62]⟩, .int .i64 9, .string ⟨#[60]⟩, .int .i64 10, .string ⟨#[60, 61]⟩, .int .i64 11, .string ⟨#[62]⟩, .int .i64 12, .string ⟨#[62, 61]⟩, .int .i64 13] 131)
  have HX2 : Hid (∀ t r, runP (sumP U) S = .inr (t, r) → Ex (fun b => w.heap.size + 1 ≤ b ∧ b ≠ w1.heap.size) ((w1.alloc (.cells #[.int .i64 o1, .int .i64 p1.1, .int .i64 p1.2.1, .string p1.2.2.1, .string p1.2.2.2.1, .string p1.2.2.2.2, .slice a1 l1 c1] 80)).alloc (.cells #[.string ⟨#[61]⟩, .int .i64 8, .string ⟨#[60, 62]⟩, .int .i64 9, .string ⟨#[60]⟩, .int .i64 10, .string ⟨#[60, 61]⟩, .int .i64 11, .string ⟨#[62]⟩, .int .i64 12, .string ⟨#[62, 61]⟩, .int .i64 13] 131)) t (exV o1 p1 (.slice a1 l1 c1))) :=
    hid fun t r e => ((hx1 t r e).mono fun k hk hk2 => ⟨by simpa using hk, by omega⟩).later (bal (bal (Below.refl _ _) _) _)
  have hcw := opsComp_cw (w1.alloc (.cells #[.int .i64 o1, .int .i64 p1.1, .int .i64 p1.2.1, .string p1.2.2.1, .string p1.2.2.2.1, .string p1.2.2.2.2, .slice a1 l1 c1] 80))
  rw [World.size_alloc] at hcw
  have H2 : Hid _ := hid (pOneOf_any (b := w1.heap.size + 1) hr2 opsComp (by decide) (by omega) hcw)
  rw [show opsComp.length = 6 from rfl] at H2
  have hqle : w.heap.size ≤ w1.heap.size := by omega
  generalize runP (sumP U) S = R1 at *
  clear H1 hb1 hB1 z1 b0 hr1 hx1 hcw
  generalize hq : w1.heap.size = q at *
  unfold exV
  go_wp2_with fail
  refine Calls.mono H2.out ?_
  rintro e w3 ⟨rfl, hr3, hb3⟩
  have hB3 := hB2.trans hb3
  have hq3 : q < w3.heap.size := by have := hb3.size; simp at this; omega
  have x3 := x2.but hb3 (by omega)
  have z3 := z2.but hb3 (by omega)
  have HX3 : Hid (∀ t r, R1 = .inr (t, r) → Ex (fun b => w.heap.size + 1 ≤ b ∧ b ≠ q) w3 t (exV o1 p1 (.slice a1 l1 c1))) := hid fun t r e => (HX2.out t r e).but hb3 (by omega)
  obtain ⟨k0, k1, k2, k3, k4, k5, k6⟩ := x3.cells
  rw [Nat.zero_add] at k1 k2 k3 k4 k5 k6
  obtain ⟨m0, m1, m2, m3, m4, m5, m6⟩ := z3.cells
  obtain ⟨n0, n1, n2, n3, n4, n5, n6⟩ := z3.free
  clear H2 HX2 hb3 hB2 x2 z2 hr2 hq
  by_cases hz : oneB opsComp (stO R1) = 0
  · obtain ⟨e1, e2⟩ := HZ0.out hz
    have E1 : Hid _ := hid e1
    have hz' : Hid _ := hid hz
    rw [e2] at hr3
    rw [hz]
    clear HZ0 HZ1 e1 e2 hz
    go_wp2
    refine bodyPost_ret (v := exV o1 p1 (.slice a1 l1 c1)) (by simp [results, Tryz.results139, go_sem, exV, m0, m1, m2, m3, m4, m5, m6]) rfl (TeE.fin hgl hB3 (by rw [E1.out]; exact hr3) fun t r e => (HX3.out t r (by rw [← E1.out]; exact e)).mono fun k hk _ => hk.1)
  · obtain ⟨hpos, t, ⟨rr, ht⟩, hR⟩ := HZ1.out hz
    have HR : Hid _ := hid hR
    have HT : Hid _ := hid (HX3.out t rr ht)
    have hop : ((oneB opsComp (stO R1)).toNat : Int) = oneB opsComp (stO R1) := by omega
    have g1 : (oneB opsComp (stO R1) == 0) = false := by simpa using hz
    clear HZ0 HZ1 hR hz HX3 ht
    generalize oneB opsComp (stO R1) = op at *
    generalize oneS opsComp (stO R1) = S3 at *
    have HC : Hid _ := hid (HU.out S3 w3.drew hr3.drew)
    have hxd : Be w3.drew q o1 p1 (.slice a1 l1 c1) := x3.keep rfl
    have hBd : But g w w3.drew := hB3.dr
    have hzd : Be w3.drew w.heap.size 0 nilP (.slice none 0 0) := z3.keep rfl
    have hqd : q < w3.drew.heap.size := hq3
    have hgd : w3.drew.heap.size = w3.heap.size := rfl
    go_upto_region 5 with fail
    go_region_with (first
      | (refine Calls.mono HC.out ?_; rintro e z1 ⟨o2, p2, a2, l2, c2, rfl, hb1, hr1, hx1⟩; have y1 := hxd.but hb1 (by omega); obtain ⟨j0, j1, j2, j3, j4, j5, j6⟩ := y1.cells; rw [Nat.zero_add] at j1 j2 j3 j4 j5 j6; unfold exV)
      | (refine Calls.mono (pTwo_any op o1 p1 (.slice a1 l1 c1) o2 p2 (.slice a2 l2 c2) z1) ?_; rintro e z2 ⟨bb, rfl, hbb, hb2, hc1, hc2⟩; have y2 := (hzd.but hb1 (by omega)).later hb2; obtain ⟨i0, i1, i2, i3, i4, i5, i6⟩ := y2.cells; obtain ⟨f0, f1, f2, f3, f4, f5, f6⟩ := y2.free; unfold exV))
    all_goals
      have hbt := hb1.later hb2
      have hB5 := hBd.trans hbt
      have hr5 := hr1.later hb2
      have hz1 := hb1.size
      have HN : Hid (∀ u r, runP (sumP U) S3 = .inr (u, r) → Ex (fun b => w.heap.size + 1 ≤ b) z2 (tTwo op.toNat t u) (exV op nilP (.slice (some ⟨bb, 0, none⟩) 2 2))) := hid fun u r e => by
        have h1 : Ex (fun b => w.heap.size + 1 ≤ b ∧ b ≠ q) z2 t (exV o1 p1 (.slice a1 l1 c1)) := (Ex.keep (w := w3) (w' := w3.drew) (fun _ _ _ => rfl) HT.out).but hbt (by omega)
        have h2 : Ex (fun b => w.heap.size + 1 ≤ b ∧ b ≠ q) z2 u (exV o2 p2 (.slice a2 l2 c2)) := ((hx1 u r e).mono fun k hk _ => ⟨by omega, by omega⟩).later hb2
        have h3 := Ex.two (op := op.toNat) (Q := fun b => w.heap.size + 1 ≤ b ∧ b ≠ q) ⟨by omega, by omega⟩ hc1 hc2 h1 h2
        rw [hop] at h3
        exact h3.mono fun k hk _ => hk.1
      clear HC HT hb1 hr1 hx1 hb2 hc1 hc2 hbt y1 y2 x3 z3 hxd hzd hBd
      go_wp2
      refine bodyPost_ret (v := exV op nilP (.slice (some ⟨bb, 0, none⟩) 2 2)) (by simp [results, Tryz.results139, go_sem, exV, nilP, i0, i1, i2, i3, i4, i5, i6]) rfl (TeE.fin hgl hB5 (by rw [HR.out, stO_mapR]; exact hr5) fun t' r e => ?_)
      rw [HR.out] at e
      obtain ⟨u, e2, rfl⟩ := mapR_inr e
      exact HN.out u r e2

end Go.Proofs.YtjlmcnbmhgabpaaGreat
