import Derived.Test.YtnboooaockgoiaaGreatDoorPaf
namespace Go.Proofs.YtnboooaockgoiaaGreatDoor
open Go.RowKit
set_option linter.unusedVariables false

theorem in_lo {d : Nat} {P : List Tk → Re Tr} (h : d < 64) (t : Tk) (ts : List Tk) : inP (deepP d P) (t :: ts) = runP P (.inr ts) := by rw [deepP, if_neg (by omega)]; rfl
theorem in_hi {d : Nat} {P : List Tk → Re Tr} (h : d = 64) (t : Tk) (ts : List Tk) : inP (deepP d P) (t :: ts) = .inl (atOf (t :: ts), 6) := by rw [deepP, if_pos h]; rfl
theorem heap_setAlloc (V : World) (b : Nat) (o : Int) (p : Pay) (sl : Value) (X : Obj) {k : Nat} (hk : k ≠ b) : ((set7 V b o p sl).alloc X).heap[k]? = (V.alloc X).heap[k]? := by
  have h1 : ((set7 V b o p sl).alloc X).heap = (set7 V b o p sl).heap.push X := rfl
  have h2 : (V.alloc X).heap = V.heap.push X := rfl
  rw [h1, h2, Array.getElem?_push, Array.getElem?_push, set7_size, set7_heap _ _ _ _ _ hk]
/-- The result's block is filled, and a row is new behind it. -/
theorem TfE.fin' {g d : Nat} {w V : World} {R : Re Tr} {o : Int} {p : Pay} {ao : Option Addr} {n c : Nat} (X : Obj) (hg : g < w.heap.size) (hB : But g w V) (hr : Rf V g (stO R) d)
    (hx : ∀ t r, R = .inr (t, r) → Ex (fun b => w.heap.size + 1 ≤ b) (V.alloc X) t (exV o p (.slice ao n c))) :
    TfE g d w R (.returned (exV o p (.slice ao n c))) ((set7 V w.heap.size o p (.slice ao n c)).alloc X) :=
  ⟨o, p, ao, n, c, rfl, (hB.set7 (Nat.le_refl _) _ _ _).alloc X, (hr.set7 hg _ _ _).alloc X, fun t r e => ((hx t r e).keep fun k hk _ => heap_setAlloc V _ _ _ _ X (by omega)).mono fun k hk _ => by omega⟩
theorem Ex.leafI {Q : Nat → Prop} {w : World} (n : Int) : Ex Q w (tInt n) (exV 1 (1, n, ⟨#[]⟩, ⟨#[]⟩, ⟨#[]⟩) (.slice none 0 0)) := Ex.leaf 0 1 _
theorem Ex.leafT {Q : Nat → Prop} {w : World} (s : ByteArray) : Ex Q w (tText s) (exV 1 (2, 0, s, ⟨#[]⟩, ⟨#[]⟩) (.slice none 0 0)) := Ex.leaf 0 1 _

set_option maxRecDepth 100000 in
set_option maxHeartbeats 4000000 in
theorem fNotT_any {g d : Nat} {N U : List Tk → Re Tr} (hd : d ≤ 64) (hN : d < 64 → ReadF 117 g (d + 1) N) {S : Sa} {w : World} (h : Rf w g S d) (hT : takeB ⟨#[110, 111, 116]⟩ S = true) :
    Calls Tryz.prog 117 #[.pointer (some ⟨g, 0, none⟩)] w (TfE g d w (runP (notOf (deepP d N) U) S)) := by
  have hgl := h.lt
  obtain ⟨t, ts, rfl, ht, -⟩ := takeB_true hT
  have HR : Hid _ := hid (not_true (N := deepP d N) (U := U) hT)
  generalize runP (notOf (deepP d N) U) (.inr (t :: ts)) = R at *
  have b0 := Be.new w 0 nilP (.slice none 0 0)
  have h0 := h.alloc zE
  obtain ⟨b, o, K, c, n, all, -, -, hg, -⟩ := h0.ok
  obtain ⟨c0, c1, c2, c3, c4⟩ := hg.cells
  have HI : Hid _ := hid (fIs_any h0 ⟨#[110, 111, 116]⟩)
  have hszw : w.heap.size + 1 ≤ (w.alloc zE).heap.size := by simp
  clear h hg
  go_enter Tryz.func117, Tryz.ntmps117
  go_wp2_with fail
  refine Calls.mono HI.out ?_
  rintro e wk ⟨B, rfl, hbk, hBT⟩
  obtain rfl : B = true := (hBT rfl).trans hT
  have hrk := h0.later hbk
  have hBk : But g w wk := (But.of hbk).behind
  have zk := b0.later hbk
  have hszk : w.heap.size + 1 ≤ wk.heap.size := by have := hbk.size; omega
  clear HI b0 hbk h0 hBT c0 c1 c2 c3 c4 hT
  by_cases h64 : d < 64
  · have HD : Hid _ := hid (fDown_lo hrk h64)
    have HR2 : Hid (R = mapR (tOne 4) (runP _ (.inr ts))) := hid (HR.out.trans (congrArg (mapR (tOne 4)) (in_lo h64 t ts)))
    have HP' : Hid _ := hid (hN h64)
    clear HR hrk
    go_wp2_with fail
    refine Calls.mono HD.out ?_
    rintro e w4 ⟨rfl, hr4, hb4⟩
    have HX : Hid _ := hid (fNext_any hr4 ht)
    have hB4 := hBk.trans hb4
    have z4 := zk.but hb4 (by omega)
    have hs4 := hb4.size
    clear HD hBk zk hb4 hr4
    go_wp2_with fail
    refine Calls.mono HX.out ?_
    rintro e w5 ⟨rfl, hr5, hb5⟩
    have HP : Hid _ := hid (HP'.out (.inr ts) w5 hr5)
    have hB5 := hB4.trans hb5
    have z5 := z4.but hb5 (by omega)
    have hs5 := hb5.size
    clear HX HP' hB4 z4 hb5 hr5
    go_wp2_with fail
    refine Calls.mono HP.out ?_
    rintro e w6 ⟨o2, p2, a2, l2, c2, rfl, hb6, hr6, hx6⟩
    have hs6 := hb6.size
    have hr7 := hr6.alloc (.cells #[.int .i64 o2, .int .i64 p2.1, .int .i64 p2.2.1, .string p2.2.2.1, .string p2.2.2.2.1, .string p2.2.2.2.2, .slice a2 l2 c2] 43)
    have x7 := Be.new w6 o2 p2 (.slice a2 l2 c2)
    have z7 := (z5.but hb6 (by omega)).later (bal (Below.refl _ w6) (.cells #[.int .i64 o2, .int .i64 p2.1, .int .i64 p2.2.1, .string p2.2.2.1, .string p2.2.2.2.1, .string p2.2.2.2.2, .slice a2 l2 c2] 43))
    have hB7 := (hB5.trans hb6).alloc (.cells #[.int .i64 o2, .int .i64 p2.1, .int .i64 p2.2.1, .string p2.2.2.1, .string p2.2.2.2.1, .string p2.2.2.2.2, .slice a2 l2 c2] 43)
    obtain ⟨D, hD1, hD2, k2, f2, hr8⟩ := hr7.higher
    have x8 := x7.other (r := g) (by omega) 2 (.int .i64 ((D : Int) - 1))
    have z8 := z7.other (r := g) (by omega) 2 (.int .i64 ((D : Int) - 1))
    have hB8 := hB7.trans (But.set g 2 _ (.int .i64 ((D : Int) - 1)))
    have HX8 : Hid (∀ u r, runP _ (.inr ts) = .inr (u, r) → Ex (fun b => w.heap.size + 1 ≤ b) ((w6.alloc (.cells #[.int .i64 o2, .int .i64 p2.1, .int .i64 p2.2.1, .string p2.2.2.1, .string p2.2.2.2.1, .string p2.2.2.2.2, .slice a2 l2 c2] 43)).setCell ⟨g, 2, none⟩ (.int .i64 ((D : Int) - 1))) u (exV o2 p2 (.slice a2 l2 c2))) := hid fun u r e =>
      (((hx6 u r e).mono fun k hk _ => by omega).later (bal (Below.refl _ w6) _)).setG (by omega) 2 _
    have hq6 : w.heap.size + 1 ≤ w6.heap.size := by omega
    have hlt : w6.heap.size < ((w6.alloc (.cells #[.int .i64 o2, .int .i64 p2.1, .int .i64 p2.2.1, .string p2.2.2.1, .string p2.2.2.2.1, .string p2.2.2.2.2, .slice a2 l2 c2] 43)).setCell ⟨g, 2, none⟩ (.int .i64 ((D : Int) - 1))).heap.size := x8.lt
    clear HP z5 hB5 hb6 hr6 hx6 x7 z7 hB7 hr7
    unfold exV
    go_upto_region 7 with fail
    generalize hV : (w6.alloc (.cells #[.int .i64 o2, .int .i64 p2.1, .int .i64 p2.2.1, .string p2.2.2.1, .string p2.2.2.2.1, .string p2.2.2.2.2, .slice a2 l2 c2] 43)).setCell ⟨g, 2, none⟩ (.int .i64 ((D : Int) - 1)) = V at *
    generalize w6.heap.size = q at *
    obtain ⟨i0, i1, i2, i3, i4, i5, i6⟩ := x8.cells
    rw [Nat.zero_add] at i1 i2 i3 i4 i5 i6
    have x9 := Be.new V o2 p2 (.slice a2 l2 c2)
    have HX9 : Hid (∀ u r, runP _ (.inr ts) = .inr (u, r) → Ex (fun b => w.heap.size + 1 ≤ b) (V.alloc (.cells #[.int .i64 o2, .int .i64 p2.1, .int .i64 p2.2.1, .string p2.2.2.1, .string p2.2.2.2.1, .string p2.2.2.2.2, .slice a2 l2 c2] 43)) (tOne 4 u) (exV 4 nilP (.slice (some ⟨V.heap.size, 0, none⟩) 1 1))) := hid fun u r e =>
      Ex.one (op := 4) (Q := fun b => w.heap.size + 1 ≤ b) (by omega) x9.cells ((HX8.out u r e).later (bal (Below.refl _ V) _))
    obtain ⟨m0, m1, m2, m3, m4, m5, m6⟩ := z8.cells
    obtain ⟨n0, n1, n2, n3, n4, n5, n6⟩ := z8.free
    have hVl := z8.lt
    clear HX8 hV x8 z8 x9 k2 f2 hD1 hD2
    go_wp2
    refine bodyPost_ret (v := exV 4 nilP (.slice (some ⟨V.heap.size, 0, none⟩) 1 1)) (by simp [results, Tryz.results117, go_sem, exV, nilP, hVl, m0, m1, m2, m3, m4, m5, m6]) rfl (TfE.fin' (.cells #[.int .i64 o2, .int .i64 p2.1, .int .i64 p2.2.1, .string p2.2.2.1, .string p2.2.2.2.1, .string p2.2.2.2.2, .slice a2 l2 c2] 43) hgl hB8 (by rw [HR2.out, stO_mapR]; exact hr8) fun t' r e => ?_)
    rw [HR2.out] at e
    obtain ⟨u, e2, rfl⟩ := mapR_inr e
    exact HX9.out u r e2
  · obtain rfl : d = 64 := by omega
    have HD : Hid _ := hid (fDown_hi hrk)
    have HR2 : Hid (R = .inl (atOf (t :: ts), 6)) := hid (HR.out.trans (by rw [in_hi rfl t ts]; rfl))
    clear HR hrk
    go_wp2_with fail
    refine Calls.mono HD.out ?_
    rintro e w4 ⟨rfl, hr4, hb4⟩
    have hB4 := hBk.trans hb4
    have z4 := zk.but hb4 (by omega)
    obtain ⟨m0, m1, m2, m3, m4, m5, m6⟩ := z4.cells
    obtain ⟨n0, n1, n2, n3, n4, n5, n6⟩ := z4.free
    have hzl := z4.lt
    clear HD hBk zk hb4 z4
    go_wp2
    refine bodyPost_ret (v := exV 0 nilP (.slice none 0 0)) (by simp [results, Tryz.results117, go_sem, exV, nilP, m0, m1, m2, m3, m4, m5, m6]) rfl (TfE.fin hgl hB4 (by rw [HR2.out]; exact hr4) fun t' r e => ?_)
    rw [HR2.out] at e
    cases e

theorem opsComp_sw (w : World) : Sw (w.alloc (.cells #[.string ⟨#[61]⟩, .string ⟨#[60, 62]⟩, .string ⟨#[60]⟩, .string ⟨#[60, 61]⟩, .string ⟨#[62]⟩, .string ⟨#[62, 61]⟩] 9)) w.heap.size (opsComp.map (·.1)) := by
  intro i hi
  have hi' : i < 6 := hi
  match i, hi' with
  | 0, _ => exact cell_new w _ _ _ 0
  | 1, _ => exact cell_new w _ _ _ 1
  | 2, _ => exact cell_new w _ _ _ 2
  | 3, _ => exact cell_new w _ _ _ 3
  | 4, _ => exact cell_new w _ _ _ 4
  | 5, _ => exact cell_new w _ _ _ 5
theorem opsComp_at {k : Nat} (hk : k < 6) : ∃ h : k < opsComp.length, (opsComp[k]).2 = (8 : Int) + (k : Int) ∧ ∃ h' : k < (opsComp.map (·.1)).length, (opsComp.map (·.1))[k] = (opsComp[k]).1 := by
  match k, hk with
  | 0, _ => exact ⟨by decide, rfl, by decide, rfl⟩
  | 1, _ => exact ⟨by decide, rfl, by decide, rfl⟩
  | 2, _ => exact ⟨by decide, rfl, by decide, rfl⟩
  | 3, _ => exact ⟨by decide, rfl, by decide, rfl⟩
  | 4, _ => exact ⟨by decide, rfl, by decide, rfl⟩
  | 5, _ => exact ⟨by decide, rfl, by decide, rfl⟩

set_option maxRecDepth 100000 in
set_option maxHeartbeats 4000000 in
theorem fNotF_ok {g d : Nat} {N U : List Tk → Re Tr} (hC : ReadF 129 g d (sumP U)) {S : Sa} {w : World} (h : Rf w g S d) (hT : takeB ⟨#[110, 111, 116]⟩ S = false) (hok : okSe S = true) :
    Calls Tryz.prog 117 #[.pointer (some ⟨g, 0, none⟩)] w (TfE g d w (runP (notOf (deepP d N) U) S)) := by
  have hgl := h.lt
  rw [not_false' (N := deepP d N) (U := U) hT]
  have HZ0 : Hid _ := hid (comp_zero (U := U) (S := S))
  have HZ1 : Hid _ := hid (comp_some (U := U) (S := S))
  have HU : Hid _ := hid hC
  generalize runP (compP U) S = R at *
  have b0 := Be.new w 0 nilP (.slice none 0 0)
  have h0 := h.alloc zE
  have hszw : w.heap.size + 1 ≤ (w.alloc zE).heap.size := by simp
  have HI : Hid _ := hid (fIs_any h0 ⟨#[110, 111, 116]⟩)
  obtain ⟨b, o, K, c, n, all, d', a, er, hg, -, hok', -, -, -⟩ := h0.any
  obtain ⟨-, -, -, rfl⟩ := hok' hok
  obtain ⟨c0, c1, c2, c3, c4⟩ := hg.cells
  clear hC h hg hok'
  go_enter Tryz.func117, Tryz.ntmps117
  go_wp2_with fail
  refine Calls.mono HI.out ?_
  rintro e wk ⟨B, rfl, hbk, hBT⟩
  obtain rfl : B = false := (hBT hok).trans hT
  have hrk := h0.later hbk
  have hBk : But g w wk := (But.of hbk).behind
  have zk := b0.later hbk
  have hszk : w.heap.size + 1 ≤ wk.heap.size := by have := hbk.size; omega
  clear HI b0 hbk h0 hBT c0 c1 c2 c3 c4 hT hok
  have H1 : Hid _ := hid (HU.out S wk hrk)
  clear hrk
  go_wp2_with fail
  refine Calls.mono H1.out ?_
  rintro e w1 ⟨o1, p1, a1, l1, c1, rfl, hb1, hr1, hx1⟩
  have hB1 := hBk.trans hb1
  have hsz1 : w.heap.size + 1 ≤ w1.heap.size := by have := hb1.size; omega
  have z1 := zk.but hb1 (by omega)
  have x2 := (Be.new w1 o1 p1 (.slice a1 l1 c1)).later (bal (Below.refl _ _) (.cells #[.string ⟨#[61]⟩, .string ⟨#[60, 62]⟩, .string ⟨#[60]⟩, .string ⟨#[60, 61]⟩, .string ⟨#[62]⟩, .string ⟨#[62, 61]⟩] 9))
  have z2 := z1.later (bal (bal (Below.refl _ _) (.cells #[.int .i64 o1, .int .i64 p1.1, .int .i64 p1.2.1, .string p1.2.2.1, .string p1.2.2.2.1, .string p1.2.2.2.2, .slice a1 l1 c1] 43)) (.cells #[.string ⟨#[61]⟩, .string ⟨#[60, 62]⟩, .string ⟨#[60]⟩, .string ⟨#[60, 61]⟩, .string ⟨#[62]⟩, .string ⟨#[62, 61]⟩] 9))
  have hr2 := (hr1.alloc (.cells #[.int .i64 o1, .int .i64 p1.1, .int .i64 p1.2.1, .string p1.2.2.1, .string p1.2.2.2.1, .string p1.2.2.2.2, .slice a1 l1 c1] 43)).alloc (.cells #[.string ⟨#[61]⟩, .string ⟨#[60, 62]⟩, .string ⟨#[60]⟩, .string ⟨#[60, 61]⟩, .string ⟨#[62]⟩, .string ⟨#[62, 61]⟩] 9)
  have hB2 := (hB1.alloc (.cells #[.int .i64 o1, .int .i64 p1.1, .int .i64 p1.2.1, .string p1.2.2.1, .string p1.2.2.2.1, .string p1.2.2.2.2, .slice a1 l1 c1] 43)).alloc (.cells #[.string ⟨#[61]⟩, .string ⟨#[60, 62]⟩, .string ⟨#[60]⟩, .string ⟨#[60, 61]⟩, .string ⟨#[62]⟩, .string ⟨#[62, 61]⟩] 9)
  have HX2 : Hid (∀ t r, runP (sumP U) S = .inr (t, r) → Ex (fun b => w.heap.size + 1 ≤ b ∧ b ≠ w1.heap.size) ((w1.alloc (.cells #[.int .i64 o1, .int .i64 p1.1, .int .i64 p1.2.1, .string p1.2.2.1, .string p1.2.2.2.1, .string p1.2.2.2.2, .slice a1 l1 c1] 43)).alloc (.cells #[.string ⟨#[61]⟩, .string ⟨#[60, 62]⟩, .string ⟨#[60]⟩, .string ⟨#[60, 61]⟩, .string ⟨#[62]⟩, .string ⟨#[62, 61]⟩] 9)) t (exV o1 p1 (.slice a1 l1 c1))) :=
    hid fun t r e => ((hx1 t r e).mono fun k hk hk2 => ⟨by omega, by omega⟩).later (bal (bal (Below.refl _ _) _) _)
  have hcw := opsComp_sw (w1.alloc (.cells #[.int .i64 o1, .int .i64 p1.1, .int .i64 p1.2.1, .string p1.2.2.1, .string p1.2.2.2.1, .string p1.2.2.2.2, .slice a1 l1 c1] 43))
  rw [World.size_alloc] at hcw
  have hqle : w.heap.size ≤ w1.heap.size := by omega
  have hq2 : w1.heap.size + 1 < ((w1.alloc (.cells #[.int .i64 o1, .int .i64 p1.1, .int .i64 p1.2.1, .string p1.2.2.1, .string p1.2.2.2.1, .string p1.2.2.2.2, .slice a1 l1 c1] 43)).alloc (.cells #[.string ⟨#[61]⟩, .string ⟨#[60, 62]⟩, .string ⟨#[60]⟩, .string ⟨#[60, 61]⟩, .string ⟨#[62]⟩, .string ⟨#[62, 61]⟩] 9)).heap.size := by simp
  generalize runP (sumP U) S = R1 at *
  clear H1 hb1 hB1 z1 zk hBk hr1 hx1 hszk
  generalize hq : w1.heap.size = q at *
  have hqne : w.heap.size ≠ q := by omega
  have hgq : g ≠ q := by omega
  have hgq1 : q + 1 ≠ g := by omega
  unfold exV
  go_upto_region 10 with fail
  generalize hV : (w1.alloc (.cells #[.int .i64 o1, .int .i64 p1.1, .int .i64 p1.2.1, .string p1.2.2.1, .string p1.2.2.2.1, .string p1.2.2.2.2, .slice a1 l1 c1] 43)).alloc (.cells #[.string ⟨#[61]⟩, .string ⟨#[60, 62]⟩, .string ⟨#[60]⟩, .string ⟨#[60, 61]⟩, .string ⟨#[62]⟩, .string ⟨#[62, 61]⟩] 9) = V at *
  clear hV hq hsz1
  go_wp2
  go_loopw [6] (fun i wr => ∃ k : Nat, k ≤ 6 ∧ i = .int .i64 k ∧ Rf wr g (stO R1) d ∧ But g w wr ∧ But g V wr ∧ Hid (NoneOf (opsComp.take k) (stO R1))) (fun i _ => 6 - (intOf i).toNat)
  case atStart => exact ⟨0, Nat.zero_le _, rfl, hr2, hB2, But.refl _ _, hid (fun c hc => by simp at hc)⟩
  case round =>
    obtain ⟨k, hk, rfl, hr, hB, hBV, HN⟩ := hrel
    have x3 := x2.but hBV (Ne.symm hgq)
    have z3 := z2.but hBV (by omega)
    have HX3 : Hid (∀ t r, R1 = .inr (t, r) → Ex (fun b => w.heap.size + 1 ≤ b ∧ b ≠ q) wr t (exV o1 p1 (.slice a1 l1 c1))) := hid fun t r e => (HX2.out t r e).but hBV (by omega)
    obtain ⟨k0, k1, k2, k3, k4, k5, k6⟩ := x3.cells
    rw [Nat.zero_add] at k1 k2 k3 k4 k5 k6
    obtain ⟨m0, m1, m2, m3, m4, m5, m6⟩ := z3.cells
    obtain ⟨n0, n1, n2, n3, n4, n5, n6⟩ := z3.free
    have hq3 : q < wr.heap.size := x3.lt
    have hzl := z3.lt
    by_cases hlt : k < 6
    · obtain ⟨hk1, hk2, hk3, hk4⟩ := opsComp_at hlt
      have cs := hBV.cell (hcw k hk3) (by exact hgq1)
      rw [hk4] at cs
      have HA : Hid (takeB opsComp[k].1 (stO R1) = true → oneB opsComp (stO R1) = (8 : Int) + (k : Int) ∧ oneS opsComp (stO R1) = takeS opsComp[k].1 (stO R1)) := hid fun e => by rw [← hk2]; exact oneB_at hk1 HN.out e
      have HM : Hid (takeB opsComp[k].1 (stO R1) = false → NoneOf (opsComp.take (k + 1)) (stO R1)) := hid (HN.out.step hk1)
      have HT := fTake_any hr (opsComp[k]).1
      generalize (opsComp[k]).1 = s at *
      clear hk1 hk2 hk3 hk4 HN
      cases hb : takeB s (stO R1) with
      | false =>
        have HM2 : Hid _ := hid (HM.out hb)
        rw [hb, takeB_false hb] at HT
        replace HT : Hid _ := hid HT
        clear HA HM hb hr HX3 k0 k1 k2 k3 k4 k5 k6 m0 m1 m2 m3 m4 m5 m6 n0 n1 n2 n3 n4 n5 n6
        go_wp2_with fail
        refine Calls.mono HT.out ?_
        rintro e w4 ⟨rfl, hr4, hb4⟩
        have hB4 := hB.trans hb4
        have hBV4 := hBV.trans hb4
        clear HT hB hBV hb4
        go_wp2
        go_roundw
        case rel => exact ⟨k + 1, by omega, by go_num, hr4, hB4, hBV4, HM2⟩
        case measure => simp only [intOf]; omega
      | true =>
        obtain ⟨e1, e2⟩ := HA.out hb
        have hz0 : oneB opsComp (stO R1) ≠ 0 := by rw [e1]; omega
        obtain ⟨hpos, t, ⟨rr, ht⟩, hR⟩ := HZ1.out hz0
        rw [e1, e2] at hR
        rw [hb] at HT
        replace HT : Hid _ := hid HT
        have HR : Hid _ := hid hR
        have HTx : Hid _ := hid (HX3.out t rr ht)
        have hwr : IntKind.i64.wrap ((8 : Int) + (k : Int)) = (8 : Int) + (k : Int) := by rw [IntKind.wrap_i64]; omega
        have hop : (((8 : Int) + (k : Int)).toNat : Int) = (8 : Int) + (k : Int) := by omega
        clear HA HM hb HX3 HZ0 HZ1 hR hz0 hpos e1 e2 ht hr HX2
        generalize takeS s (stO R1) = S3 at *
        go_wp2_with fail
        refine Calls.mono HT.out ?_
        rintro e w4 ⟨rfl, hr4, hb4⟩
        have hB4 := hB.trans hb4
        have x4 := x3.but hb4 (Ne.symm hgq)
        have z4 := z3.but hb4 (by omega)
        have HT4 : Hid _ := hid (HTx.out.but hb4 (by omega))
        have HC : Hid _ := hid (HU.out S3 w4.drew hr4.drew)
        have hxd : Be w4.drew q o1 p1 (.slice a1 l1 c1) := x4.keep rfl
        have hBd : But g w w4.drew := hB4.dr
        have hzd : Be w4.drew w.heap.size 0 nilP (.slice none 0 0) := z4.keep rfl
        have hq4 : q < w4.heap.size := x4.lt
        have hgd : w4.drew.heap.size = w4.heap.size := rfl
        obtain ⟨k0, k1, k2, k3, k4, k5, k6⟩ := x4.cells
        rw [Nat.zero_add] at k1 k2 k3 k4 k5 k6
        clear HT HTx hB hBV hb4 x3 z3 hr4 cs
        go_upto_region 14 with fail
        go_region_with (first
          | (refine Calls.mono HC.out ?_; rintro e z1 ⟨o2, p2, a2, l2, c2, rfl, hb1, hr1, hx1⟩; have y1 := hxd.but hb1 (by omega); obtain ⟨j0, j1, j2, j3, j4, j5, j6⟩ := y1.cells; rw [Nat.zero_add] at j1 j2 j3 j4 j5 j6; unfold exV)
          | (refine Calls.mono (fTwo_any ((8 : Int) + (k : Int)) o1 p1 (.slice a1 l1 c1) o2 p2 (.slice a2 l2 c2) z1) ?_; rintro e z2 ⟨bb, rfl, hbb, hb2, hc1, hc2⟩; have y2 := (hzd.but hb1 (by omega)).later hb2; obtain ⟨i0, i1, i2, i3, i4, i5, i6⟩ := y2.cells; rw [Nat.zero_add] at i1 i2 i3 i4 i5 i6; obtain ⟨f0, f1, f2, f3, f4, f5, f6⟩ := y2.free; unfold exV))
        all_goals
          have hbt := hb1.later hb2
          have hB5 := hBd.trans hbt
          have hr5 := hr1.later hb2
          have hz1 := hb1.size
          have HN : Hid (∀ u r, runP (sumP U) S3 = .inr (u, r) → Ex (fun b => w.heap.size + 1 ≤ b) z2 (tTwo ((8 : Int) + (k : Int)).toNat t u) (exV ((8 : Int) + (k : Int)) nilP (.slice (some ⟨bb, 0, none⟩) 2 2))) := hid fun u r e => by
            have h1 : Ex (fun b => w.heap.size + 1 ≤ b ∧ b ≠ q) z2 t (exV o1 p1 (.slice a1 l1 c1)) := (Ex.keep (w := w4) (w' := w4.drew) (fun _ _ _ => rfl) HT4.out).but hbt (by omega)
            have h2 : Ex (fun b => w.heap.size + 1 ≤ b ∧ b ≠ q) z2 u (exV o2 p2 (.slice a2 l2 c2)) := ((hx1 u r e).mono fun k hk _ => ⟨by omega, by omega⟩).later hb2
            have h3 := Ex.two (op := ((8 : Int) + (k : Int)).toNat) (Q := fun b => w.heap.size + 1 ≤ b ∧ b ≠ q) ⟨by omega, by omega⟩ hc1 hc2 h1 h2
            rw [hop] at h3
            exact h3.mono fun k hk _ => hk.1
          clear HC HT4 hb1 hr1 hx1 hb2 hc1 hc2 hbt y1 y2 x4 z4 hxd hzd hBd
          go_wp2
          refine bodyPost_ret (v := exV ((8 : Int) + (k : Int)) nilP (.slice (some ⟨bb, 0, none⟩) 2 2)) (by simp [results, Tryz.results117, go_sem, exV, nilP, i0, i1, i2, i3, i4, i5, i6]) rfl (TfE.fin hgl hB5 (by rw [HR.out, stO_mapR]; exact hr5) fun t' r e => ?_)
          rw [HR.out] at e
          obtain ⟨u, e2, rfl⟩ := mapR_inr e
          exact HN.out u r e2
    · obtain rfl : k = 6 := by omega
      have HNN : NoneOf opsComp (stO R1) := HN.out
      obtain ⟨e1, -⟩ := HZ0.out (oneB_none HNN).1
      have E1 : Hid _ := hid e1
      clear HZ0 HZ1 HNN HN e1
      go_wp2
      refine bodyPost_ret (v := exV o1 p1 (.slice a1 l1 c1)) (by simp [results, Tryz.results117, go_sem, exV, m0, m1, m2, m3, m4, m5, m6]) rfl (TfE.fin hgl hB (by rw [E1.out]; exact hr) fun t r e => (HX3.out t r (by rw [← E1.out]; exact e)).mono fun k hk _ => hk.1)
set_option maxRecDepth 100000 in
set_option maxHeartbeats 4000000 in
theorem fNotF_bad {g d : Nat} {N U : List Tk → Re Tr} (hC : ReadF 129 g d (sumP U)) {S : Sa} {w : World} (h : Rf w g S d) (hT : takeB ⟨#[110, 111, 116]⟩ S = false) (hok : okSe S = false) :
    Calls Tryz.prog 117 #[.pointer (some ⟨g, 0, none⟩)] w (TfE g d w (runP (notOf (deepP d N) U) S)) := by
  have hgl := h.lt
  rw [not_false' (N := deepP d N) (U := U) hT]
  have HZ0 : Hid _ := hid (comp_zero (U := U) (S := S))
  have HZ1 : Hid _ := hid (comp_some (U := U) (S := S))
  have HU : Hid _ := hid hC
  generalize runP (compP U) S = R at *
  have b0 := Be.new w 0 nilP (.slice none 0 0)
  have h0 := h.alloc zE
  have hszw : w.heap.size + 1 ≤ (w.alloc zE).heap.size := by simp
  obtain ⟨b, o, K, c, n, all, d', a, er, hg, -, -, hbad, -, -⟩ := h0.any
  have he := hbad hok
  have g1 : (er == 0) = false := by simpa using he
  obtain ⟨c0, c1, c2, c3, c4⟩ := hg.cells
  have hrk := h0
  have hBk : But g w (w.alloc zE) := (But.refl g w).alloc _
  have zk := b0
  have hszk := hszw
  clear hC h hg hbad h0 b0 hT hok he
  go_enter Tryz.func117, Tryz.ntmps117
  have H1 : Hid _ := hid (HU.out S (w.alloc zE) hrk)
  clear hrk
  go_wp2_with fail
  refine Calls.mono H1.out ?_
  rintro e w1 ⟨o1, p1, a1, l1, c1, rfl, hb1, hr1, hx1⟩
  have hB1 := hBk.trans hb1
  have hsz1 : w.heap.size + 1 ≤ w1.heap.size := by have := hb1.size; omega
  have z1 := zk.but hb1 (by omega)
  have x2 := (Be.new w1 o1 p1 (.slice a1 l1 c1)).later (bal (Below.refl _ _) (.cells #[.string ⟨#[61]⟩, .string ⟨#[60, 62]⟩, .string ⟨#[60]⟩, .string ⟨#[60, 61]⟩, .string ⟨#[62]⟩, .string ⟨#[62, 61]⟩] 9))
  have z2 := z1.later (bal (bal (Below.refl _ _) (.cells #[.int .i64 o1, .int .i64 p1.1, .int .i64 p1.2.1, .string p1.2.2.1, .string p1.2.2.2.1, .string p1.2.2.2.2, .slice a1 l1 c1] 43)) (.cells #[.string ⟨#[61]⟩, .string ⟨#[60, 62]⟩, .string ⟨#[60]⟩, .string ⟨#[60, 61]⟩, .string ⟨#[62]⟩, .string ⟨#[62, 61]⟩] 9))
  have hr2 := (hr1.alloc (.cells #[.int .i64 o1, .int .i64 p1.1, .int .i64 p1.2.1, .string p1.2.2.1, .string p1.2.2.2.1, .string p1.2.2.2.2, .slice a1 l1 c1] 43)).alloc (.cells #[.string ⟨#[61]⟩, .string ⟨#[60, 62]⟩, .string ⟨#[60]⟩, .string ⟨#[60, 61]⟩, .string ⟨#[62]⟩, .string ⟨#[62, 61]⟩] 9)
  have hB2 := (hB1.alloc (.cells #[.int .i64 o1, .int .i64 p1.1, .int .i64 p1.2.1, .string p1.2.2.1, .string p1.2.2.2.1, .string p1.2.2.2.2, .slice a1 l1 c1] 43)).alloc (.cells #[.string ⟨#[61]⟩, .string ⟨#[60, 62]⟩, .string ⟨#[60]⟩, .string ⟨#[60, 61]⟩, .string ⟨#[62]⟩, .string ⟨#[62, 61]⟩] 9)
  have HX2 : Hid (∀ t r, runP (sumP U) S = .inr (t, r) → Ex (fun b => w.heap.size + 1 ≤ b ∧ b ≠ w1.heap.size) ((w1.alloc (.cells #[.int .i64 o1, .int .i64 p1.1, .int .i64 p1.2.1, .string p1.2.2.1, .string p1.2.2.2.1, .string p1.2.2.2.2, .slice a1 l1 c1] 43)).alloc (.cells #[.string ⟨#[61]⟩, .string ⟨#[60, 62]⟩, .string ⟨#[60]⟩, .string ⟨#[60, 61]⟩, .string ⟨#[62]⟩, .string ⟨#[62, 61]⟩] 9)) t (exV o1 p1 (.slice a1 l1 c1))) :=
    hid fun t r e => ((hx1 t r e).mono fun k hk hk2 => ⟨by omega, by omega⟩).later (bal (bal (Below.refl _ _) _) _)
  have hcw := opsComp_sw (w1.alloc (.cells #[.int .i64 o1, .int .i64 p1.1, .int .i64 p1.2.1, .string p1.2.2.1, .string p1.2.2.2.1, .string p1.2.2.2.2, .slice a1 l1 c1] 43))
  rw [World.size_alloc] at hcw
  have hqle : w.heap.size ≤ w1.heap.size := by omega
  have hq2 : w1.heap.size + 1 < ((w1.alloc (.cells #[.int .i64 o1, .int .i64 p1.1, .int .i64 p1.2.1, .string p1.2.2.1, .string p1.2.2.2.1, .string p1.2.2.2.2, .slice a1 l1 c1] 43)).alloc (.cells #[.string ⟨#[61]⟩, .string ⟨#[60, 62]⟩, .string ⟨#[60]⟩, .string ⟨#[60, 61]⟩, .string ⟨#[62]⟩, .string ⟨#[62, 61]⟩] 9)).heap.size := by simp
  generalize runP (sumP U) S = R1 at *
  clear H1 hb1 hB1 z1 zk hBk hr1 hx1 hszk
  generalize hq : w1.heap.size = q at *
  have hqne : w.heap.size ≠ q := by omega
  have hgq : g ≠ q := by omega
  have hgq1 : q + 1 ≠ g := by omega
  unfold exV
  go_upto_region 10 with fail
  generalize hV : (w1.alloc (.cells #[.int .i64 o1, .int .i64 p1.1, .int .i64 p1.2.1, .string p1.2.2.1, .string p1.2.2.2.1, .string p1.2.2.2.2, .slice a1 l1 c1] 43)).alloc (.cells #[.string ⟨#[61]⟩, .string ⟨#[60, 62]⟩, .string ⟨#[60]⟩, .string ⟨#[60, 61]⟩, .string ⟨#[62]⟩, .string ⟨#[62, 61]⟩] 9) = V at *
  clear hV hq hsz1
  go_wp2
  go_loopw [6] (fun i wr => ∃ k : Nat, k ≤ 6 ∧ i = .int .i64 k ∧ Rf wr g (stO R1) d ∧ But g w wr ∧ But g V wr ∧ Hid (NoneOf (opsComp.take k) (stO R1))) (fun i _ => 6 - (intOf i).toNat)
  case atStart => exact ⟨0, Nat.zero_le _, rfl, hr2, hB2, But.refl _ _, hid (fun c hc => by simp at hc)⟩
  case round =>
    obtain ⟨k, hk, rfl, hr, hB, hBV, HN⟩ := hrel
    have x3 := x2.but hBV (Ne.symm hgq)
    have z3 := z2.but hBV (by omega)
    have HX3 : Hid (∀ t r, R1 = .inr (t, r) → Ex (fun b => w.heap.size + 1 ≤ b ∧ b ≠ q) wr t (exV o1 p1 (.slice a1 l1 c1))) := hid fun t r e => (HX2.out t r e).but hBV (by omega)
    obtain ⟨k0, k1, k2, k3, k4, k5, k6⟩ := x3.cells
    rw [Nat.zero_add] at k1 k2 k3 k4 k5 k6
    obtain ⟨m0, m1, m2, m3, m4, m5, m6⟩ := z3.cells
    obtain ⟨n0, n1, n2, n3, n4, n5, n6⟩ := z3.free
    have hq3 : q < wr.heap.size := x3.lt
    have hzl := z3.lt
    by_cases hlt : k < 6
    · obtain ⟨hk1, hk2, hk3, hk4⟩ := opsComp_at hlt
      have cs := hBV.cell (hcw k hk3) (by exact hgq1)
      rw [hk4] at cs
      have HA : Hid (takeB opsComp[k].1 (stO R1) = true → oneB opsComp (stO R1) = (8 : Int) + (k : Int) ∧ oneS opsComp (stO R1) = takeS opsComp[k].1 (stO R1)) := hid fun e => by rw [← hk2]; exact oneB_at hk1 HN.out e
      have HM : Hid (takeB opsComp[k].1 (stO R1) = false → NoneOf (opsComp.take (k + 1)) (stO R1)) := hid (HN.out.step hk1)
      have HT := fTake_any hr (opsComp[k]).1
      generalize (opsComp[k]).1 = s at *
      clear hk1 hk2 hk3 hk4 HN
      cases hb : takeB s (stO R1) with
      | false =>
        have HM2 : Hid _ := hid (HM.out hb)
        rw [hb, takeB_false hb] at HT
        replace HT : Hid _ := hid HT
        clear HA HM hb hr HX3 k0 k1 k2 k3 k4 k5 k6 m0 m1 m2 m3 m4 m5 m6 n0 n1 n2 n3 n4 n5 n6
        go_wp2_with fail
        refine Calls.mono HT.out ?_
        rintro e w4 ⟨rfl, hr4, hb4⟩
        have hB4 := hB.trans hb4
        have hBV4 := hBV.trans hb4
        clear HT hB hBV hb4
        go_wp2
        go_roundw
        case rel => exact ⟨k + 1, by omega, by go_num, hr4, hB4, hBV4, HM2⟩
        case measure => simp only [intOf]; omega
      | true =>
        obtain ⟨e1, e2⟩ := HA.out hb
        have hz0 : oneB opsComp (stO R1) ≠ 0 := by rw [e1]; omega
        obtain ⟨hpos, t, ⟨rr, ht⟩, hR⟩ := HZ1.out hz0
        rw [e1, e2] at hR
        rw [hb] at HT
        replace HT : Hid _ := hid HT
        have HR : Hid _ := hid hR
        have HTx : Hid _ := hid (HX3.out t rr ht)
        have hwr : IntKind.i64.wrap ((8 : Int) + (k : Int)) = (8 : Int) + (k : Int) := by rw [IntKind.wrap_i64]; omega
        have hop : (((8 : Int) + (k : Int)).toNat : Int) = (8 : Int) + (k : Int) := by omega
        clear HA HM hb HX3 HZ0 HZ1 hR hz0 hpos e1 e2 ht hr HX2
        generalize takeS s (stO R1) = S3 at *
        go_wp2_with fail
        refine Calls.mono HT.out ?_
        rintro e w4 ⟨rfl, hr4, hb4⟩
        have hB4 := hB.trans hb4
        have x4 := x3.but hb4 (Ne.symm hgq)
        have z4 := z3.but hb4 (by omega)
        have HT4 : Hid _ := hid (HTx.out.but hb4 (by omega))
        have HC : Hid _ := hid (HU.out S3 w4.drew hr4.drew)
        have hxd : Be w4.drew q o1 p1 (.slice a1 l1 c1) := x4.keep rfl
        have hBd : But g w w4.drew := hB4.dr
        have hzd : Be w4.drew w.heap.size 0 nilP (.slice none 0 0) := z4.keep rfl
        have hq4 : q < w4.heap.size := x4.lt
        have hgd : w4.drew.heap.size = w4.heap.size := rfl
        obtain ⟨k0, k1, k2, k3, k4, k5, k6⟩ := x4.cells
        rw [Nat.zero_add] at k1 k2 k3 k4 k5 k6
        clear HT HTx hB hBV hb4 x3 z3 hr4 cs
        go_upto_region 14 with fail
        go_region_with (first
          | (refine Calls.mono HC.out ?_; rintro e z1 ⟨o2, p2, a2, l2, c2, rfl, hb1, hr1, hx1⟩; have y1 := hxd.but hb1 (by omega); obtain ⟨j0, j1, j2, j3, j4, j5, j6⟩ := y1.cells; rw [Nat.zero_add] at j1 j2 j3 j4 j5 j6; unfold exV)
          | (refine Calls.mono (fTwo_any ((8 : Int) + (k : Int)) o1 p1 (.slice a1 l1 c1) o2 p2 (.slice a2 l2 c2) z1) ?_; rintro e z2 ⟨bb, rfl, hbb, hb2, hc1, hc2⟩; have y2 := (hzd.but hb1 (by omega)).later hb2; obtain ⟨i0, i1, i2, i3, i4, i5, i6⟩ := y2.cells; rw [Nat.zero_add] at i1 i2 i3 i4 i5 i6; obtain ⟨f0, f1, f2, f3, f4, f5, f6⟩ := y2.free; unfold exV))
        all_goals
          have hbt := hb1.later hb2
          have hB5 := hBd.trans hbt
          have hr5 := hr1.later hb2
          have hz1 := hb1.size
          have HN : Hid (∀ u r, runP (sumP U) S3 = .inr (u, r) → Ex (fun b => w.heap.size + 1 ≤ b) z2 (tTwo ((8 : Int) + (k : Int)).toNat t u) (exV ((8 : Int) + (k : Int)) nilP (.slice (some ⟨bb, 0, none⟩) 2 2))) := hid fun u r e => by
            have h1 : Ex (fun b => w.heap.size + 1 ≤ b ∧ b ≠ q) z2 t (exV o1 p1 (.slice a1 l1 c1)) := (Ex.keep (w := w4) (w' := w4.drew) (fun _ _ _ => rfl) HT4.out).but hbt (by omega)
            have h2 : Ex (fun b => w.heap.size + 1 ≤ b ∧ b ≠ q) z2 u (exV o2 p2 (.slice a2 l2 c2)) := ((hx1 u r e).mono fun k hk _ => ⟨by omega, by omega⟩).later hb2
            have h3 := Ex.two (op := ((8 : Int) + (k : Int)).toNat) (Q := fun b => w.heap.size + 1 ≤ b ∧ b ≠ q) ⟨by omega, by omega⟩ hc1 hc2 h1 h2
            rw [hop] at h3
            exact h3.mono fun k hk _ => hk.1
          clear HC HT4 hb1 hr1 hx1 hb2 hc1 hc2 hbt y1 y2 x4 z4 hxd hzd hBd
          go_wp2
          refine bodyPost_ret (v := exV ((8 : Int) + (k : Int)) nilP (.slice (some ⟨bb, 0, none⟩) 2 2)) (by simp [results, Tryz.results117, go_sem, exV, nilP, i0, i1, i2, i3, i4, i5, i6]) rfl (TfE.fin hgl hB5 (by rw [HR.out, stO_mapR]; exact hr5) fun t' r e => ?_)
          rw [HR.out] at e
          obtain ⟨u, e2, rfl⟩ := mapR_inr e
          exact HN.out u r e2
    · obtain rfl : k = 6 := by omega
      have HNN : NoneOf opsComp (stO R1) := HN.out
      obtain ⟨e1, -⟩ := HZ0.out (oneB_none HNN).1
      have E1 : Hid _ := hid e1
      clear HZ0 HZ1 HNN HN e1
      go_wp2
      refine bodyPost_ret (v := exV o1 p1 (.slice a1 l1 c1)) (by simp [results, Tryz.results117, go_sem, exV, m0, m1, m2, m3, m4, m5, m6]) rfl (TfE.fin hgl hB (by rw [E1.out]; exact hr) fun t r e => (HX3.out t r (by rw [← E1.out]; exact e)).mono fun k hk _ => hk.1)
theorem fNot_any {g d : Nat} {N U : List Tk → Re Tr} (hd : d ≤ 64) (hN : d < 64 → ReadF 117 g (d + 1) N) (hC : ReadF 129 g d (sumP U)) : ReadF 117 g d (notOf (deepP d N) U) := by
  intro S w h
  cases hT : takeB ⟨#[110, 111, 116]⟩ S with
  | true => exact fNotT_any hd hN h hT
  | false =>
    cases hok : okSe S with
    | true => exact fNotF_ok hC h hT hok
    | false => exact fNotF_bad hC h hT hok

end Go.Proofs.YtnboooaockgoiaaGreatDoor
