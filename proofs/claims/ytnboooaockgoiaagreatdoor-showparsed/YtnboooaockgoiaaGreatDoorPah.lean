import Derived.Test.YtnboooaockgoiaaGreatDoorPag
import Derived.Test.YtnboooaockgoiaaGreatDoorPad
import Derived.Maps.AppendAt
namespace Go.Proofs.YtnboooaockgoiaaGreatDoor
open Go.RowKit
set_option linter.unusedVariables false

theorem run_leafI {t : Tk} {ts : List Tk} (h : t.1 = 3) : runP leafP (.inr (t :: ts)) = .inr (tInt t.2.2.1, ts) := by
  show leafP (t :: ts) = _
  have h' : kdOf (t :: ts) = 3 := h
  rw [leafP, if_pos h', kindP, if_pos h]
  rfl
theorem run_leafT {t : Tk} {ts : List Tk} (h : t.1 = 4) : runP leafP (.inr (t :: ts)) = .inr (tText t.2.1, ts) := by
  show leafP (t :: ts) = _
  have h' : kdOf (t :: ts) = 4 := h
  rw [leafP, if_neg (by rw [h']; decide), if_pos h', kindP, if_pos h]
  rfl

set_option maxRecDepth 100000 in
set_option maxHeartbeats 4000000 in
theorem fUnary_any {g d : Nat} {U E : List Tk → Re Tr} (hd : d ≤ 64) (hU : d < 64 → ReadF 150 g (d + 1) U) (hE : d < 64 → ReadF 108 g (d + 1) E) : ReadF 150 g d (unaryOf (deepP d U) (deepP d E)) := by
  intro S w h
  have hgl := h.lt
  have b0 := Be.new w 0 nilP (.slice none 0 0)
  have h0 := h.alloc zE
  have H : Hid _ := hid (fNow_any h0)
  have hszw : w.heap.size + 1 ≤ (w.alloc zE).heap.size := by simp
  unfold TfNow tkA at H
  clear h
  go_enter Tryz.func150, Tryz.ntmps150
  go_wp2_with fail
  refine Calls.mono H.out ?_
  rintro e w1 ⟨⟨t0, t1, t2, t3⟩, rfl, hb1, htk⟩
  have hb2 := bal hb1 (.cells #[.int .i64 t0, .string t1, .int .i64 t2, .int .i64 t3] 91)
  have hr2 := h0.later hb2
  have hB2 : But g w (w1.alloc (.cells #[.int .i64 t0, .string t1, .int .i64 t2, .int .i64 t3] 91)) := (But.of hb2).behind
  have z2 := b0.later hb2
  have hk := Ct.new w1 (t0, t1, t2, t3) 91
  have hsz1 : w.heap.size + 1 ≤ w1.heap.size := by have := hb1.size; omega
  have hsz2 : w1.heap.size < (w1.alloc (.cells #[.int .i64 t0, .string t1, .int .i64 t2, .int .i64 t3] 91)).heap.size := by simp
  clear H b0 hb1 h0
  go_upto_region 2 with fail
  generalize w1.alloc (.cells #[.int .i64 t0, .string t1, .int .i64 t2, .int .i64 t3] 91) = w2 at *
  generalize w1.heap.size = q at *
  match S, hr2, htk with
  | .inl x, hr2, htk =>
    obtain ⟨b, o, K, c, n, all, d', hx, -, -, hg, -⟩ := hr2.bad
    obtain ⟨c0, c1, c2, c3, c4⟩ := hg.cells
    have g1 : (x.2 != 0) = true := by simpa using hx
    obtain ⟨m0, m1, m2, m3, m4, m5, m6⟩ := z2.cells
    obtain ⟨n0, n1, n2, n3, n4, n5, n6⟩ := z2.free
    have hzl := z2.lt
    have HR : Hid _ := hid hr2
    clear hU hE hr2 hg htk hk
    go_wp2
    refine bodyPost_ret (v := exV 0 nilP (.slice none 0 0)) (by simp [results, Tryz.results150, go_sem, exV, nilP, m0, m1, m2, m3, m4, m5, m6]) rfl (TfE.fin hgl hB2 HR.out fun t' r e => ?_)
    cases e
  | .inr us, hr2, htk =>
    obtain ⟨b, o, K, c, n, all, -, -, hg, -⟩ := hr2.ok
    obtain ⟨c0, c1, c2, c3, c4⟩ := hg.cells
    have HI : Hid _ := hid (fIs_any hr2 ⟨#[45]⟩)
    have hne : us ≠ [] := by
      obtain ⟨_, _, _, _, _, _, -, he, -⟩ := hr2.ok
      exact he.1.ne
    clear hg
    cases hT : takeB ⟨#[45]⟩ (.inr us) with
    | true =>
      obtain ⟨t, ts, hS, ht, -⟩ := takeB_true hT
      cases hS
      have HR : Hid _ := hid (unary_neg (U := deepP d U) (E := deepP d E) hT)
      generalize runP (unaryOf (deepP d U) (deepP d E)) (.inr (t :: ts)) = R at *
      clear hE
      go_wp2_with fail
      refine Calls.mono HI.out ?_
      rintro e wk ⟨B, rfl, hbk, hBT⟩
      obtain rfl : B = true := (hBT rfl).trans hT
      have hrk := hr2.later hbk
      have hBk : But g w wk := hB2.later hbk
      have zk := z2.later hbk
      have hszk : w.heap.size + 1 ≤ wk.heap.size := by have := hbk.size; omega
      clear HI z2 hbk hr2 hBT c0 c1 c2 c3 c4 hT hk htk hB2 hsz1 hsz2 hne
      by_cases h64 : d < 64
      · have HD : Hid _ := hid (fDown_lo hrk h64)
        have HR2 : Hid (R = mapR (tOne 3) (runP _ (.inr ts))) := hid (HR.out.trans (congrArg (mapR (tOne 3)) (in_lo h64 t ts)))
        have HP' : Hid _ := hid (hU h64)
        clear HR hrk
        go_wp2_with fail
        refine Calls.mono HD.out ?_
        rintro e w4 ⟨rfl, hr4, hb4⟩
        have HX : Hid _ := hid (fNext_any hr4 ht)
        have hB4 := hBk.trans hb4
        have z4 := zk.but hb4 (by omega)
        have hs4 := hb4.size
        clear HD hBk zk hb4 hr4
        go_wp2_with fail
        refine Calls.mono HX.out ?_
        rintro e w5 ⟨rfl, hr5, hb5⟩
        have HP : Hid _ := hid (HP'.out (.inr ts) w5 hr5)
        have hB5 := hB4.trans hb5
        have z5 := z4.but hb5 (by omega)
        have hs5 := hb5.size
        clear HX HP' hB4 z4 hb5 hr5
        go_wp2_with fail
        refine Calls.mono HP.out ?_
        rintro e w6 ⟨o2, p2, a2, l2, c2, rfl, hb6, hr6, hx6⟩
        have hs6 := hb6.size
        have hr7 := hr6.alloc (.cells #[.int .i64 o2, .int .i64 p2.1, .int .i64 p2.2.1, .string p2.2.2.1, .string p2.2.2.2.1, .string p2.2.2.2.2, .slice a2 l2 c2] 43)
        have x7 := Be.new w6 o2 p2 (.slice a2 l2 c2)
        have z7 := (z5.but hb6 (by omega)).later (bal (Below.refl _ w6) (.cells #[.int .i64 o2, .int .i64 p2.1, .int .i64 p2.2.1, .string p2.2.2.1, .string p2.2.2.2.1, .string p2.2.2.2.2, .slice a2 l2 c2] 43))
        have hB7 := (hB5.trans hb6).alloc (.cells #[.int .i64 o2, .int .i64 p2.1, .int .i64 p2.2.1, .string p2.2.2.1, .string p2.2.2.2.1, .string p2.2.2.2.2, .slice a2 l2 c2] 43)
        obtain ⟨D, hD1, hD2, k2, f2, hr8⟩ := hr7.higher
        have x8 := x7.other (r := g) (by omega) 2 (.int .i64 ((D : Int) - 1))
        have z8 := z7.other (r := g) (by omega) 2 (.int .i64 ((D : Int) - 1))
        have hB8 := hB7.trans (But.set g 2 _ (.int .i64 ((D : Int) - 1)))
        have HX8 : Hid (∀ u r, runP _ (.inr ts) = .inr (u, r) → Ex (fun b => w.heap.size + 1 ≤ b) ((w6.alloc (.cells #[.int .i64 o2, .int .i64 p2.1, .int .i64 p2.2.1, .string p2.2.2.1, .string p2.2.2.2.1, .string p2.2.2.2.2, .slice a2 l2 c2] 43)).setCell ⟨g, 2, none⟩ (.int .i64 ((D : Int) - 1))) u (exV o2 p2 (.slice a2 l2 c2))) := hid fun u r e =>
          (((hx6 u r e).mono fun k hk _ => by omega).later (bal (Below.refl _ w6) _)).setG (by omega) 2 _
        have hq6 : w.heap.size + 1 ≤ w6.heap.size := by omega
        have hlt : w6.heap.size < ((w6.alloc (.cells #[.int .i64 o2, .int .i64 p2.1, .int .i64 p2.2.1, .string p2.2.2.1, .string p2.2.2.2.1, .string p2.2.2.2.2, .slice a2 l2 c2] 43)).setCell ⟨g, 2, none⟩ (.int .i64 ((D : Int) - 1))).heap.size := x8.lt
        clear HP z5 hB5 hb6 hr6 hx6 x7 z7 hB7 hr7
        unfold exV
        go_upto_region 10 with fail
        generalize hV : (w6.alloc (.cells #[.int .i64 o2, .int .i64 p2.1, .int .i64 p2.2.1, .string p2.2.2.1, .string p2.2.2.2.1, .string p2.2.2.2.2, .slice a2 l2 c2] 43)).setCell ⟨g, 2, none⟩ (.int .i64 ((D : Int) - 1)) = V at *
        generalize w6.heap.size = q at *
        obtain ⟨i0, i1, i2, i3, i4, i5, i6⟩ := x8.cells
        rw [Nat.zero_add] at i1 i2 i3 i4 i5 i6
        have x9 := Be.new V o2 p2 (.slice a2 l2 c2)
        have HX9 : Hid (∀ u r, runP _ (.inr ts) = .inr (u, r) → Ex (fun b => w.heap.size + 1 ≤ b) (V.alloc (.cells #[.int .i64 o2, .int .i64 p2.1, .int .i64 p2.2.1, .string p2.2.2.1, .string p2.2.2.2.1, .string p2.2.2.2.2, .slice a2 l2 c2] 43)) (tOne 3 u) (exV 3 nilP (.slice (some ⟨V.heap.size, 0, none⟩) 1 1))) := hid fun u r e =>
          Ex.one (op := 3) (Q := fun b => w.heap.size + 1 ≤ b) (by omega) x9.cells ((HX8.out u r e).later (bal (Below.refl _ V) _))
        obtain ⟨m0, m1, m2, m3, m4, m5, m6⟩ := z8.cells
        obtain ⟨n0, n1, n2, n3, n4, n5, n6⟩ := z8.free
        have hVl := z8.lt
        clear HX8 hV x8 z8 x9 k2 f2 hD1 hD2
        go_wp2
        refine bodyPost_ret (v := exV 3 nilP (.slice (some ⟨V.heap.size, 0, none⟩) 1 1)) (by simp [results, Tryz.results150, go_sem, exV, nilP, hVl, m0, m1, m2, m3, m4, m5, m6]) rfl (TfE.fin' (.cells #[.int .i64 o2, .int .i64 p2.1, .int .i64 p2.2.1, .string p2.2.2.1, .string p2.2.2.2.1, .string p2.2.2.2.2, .slice a2 l2 c2] 43) hgl hB8 (by rw [HR2.out, stO_mapR]; exact hr8) fun t' r e => ?_)
        rw [HR2.out] at e
        obtain ⟨u, e2, rfl⟩ := mapR_inr e
        exact HX9.out u r e2
      · obtain rfl : d = 64 := by omega
        have HD : Hid _ := hid (fDown_hi hrk)
        have HR2 : Hid (R = .inl (atOf (t :: ts), 6)) := hid (HR.out.trans (by rw [in_hi rfl t ts]; rfl))
        clear HR hrk
        go_wp2_with fail
        refine Calls.mono HD.out ?_
        rintro e w4 ⟨rfl, hr4, hb4⟩
        have hB4 := hBk.trans hb4
        have z4 := zk.but hb4 (by omega)
        obtain ⟨m0, m1, m2, m3, m4, m5, m6⟩ := z4.cells
        obtain ⟨n0, n1, n2, n3, n4, n5, n6⟩ := z4.free
        have hzl := z4.lt
        clear HD hBk zk hb4 z4
        go_wp2
        refine bodyPost_ret (v := exV 0 nilP (.slice none 0 0)) (by simp [results, Tryz.results150, go_sem, exV, nilP, m0, m1, m2, m3, m4, m5, m6]) rfl (TfE.fin hgl hB4 (by rw [HR2.out]; exact hr4) fun t' r e => ?_)
        rw [HR2.out] at e
        cases e
    | false =>
      go_wp2_with fail
      refine Calls.mono HI.out ?_
      rintro e w3 ⟨B, rfl, hb3, hBT⟩
      obtain rfl : B = false := (hBT rfl).trans hT
      have hr3 := hr2.later hb3
      have hB3 : But g w w3 := hB2.later hb3
      have z3 := z2.later hb3
      have hk3 := hk.later hb3
      have hsz3 : q < w3.heap.size := by have := hb3.size; omega
      have HI2 : Hid _ := hid (fIs_any hr3 ⟨#[40]⟩)
      clear HI z2 hb3 hr2 hBT hk hB2 hsz2 c0 c1 c2 c3 c4
      cases hP : takeB ⟨#[40]⟩ (.inr us) with
      | true =>
        obtain ⟨t, ts, hS, ht, -⟩ := takeB_true hP
        cases hS
        have HR : Hid _ := hid (unary_par (U := deepP d U) (E := deepP d E) hT hP)
        generalize runP (unaryOf (deepP d U) (deepP d E)) (.inr (t :: ts)) = R at *
        clear hU
        go_wp2_with fail
        refine Calls.mono HI2.out ?_
        rintro e wk ⟨B, rfl, hbk, hBT⟩
        obtain rfl : B = true := (hBT rfl).trans hP
        have hrk := hr3.later hbk
        have hBk : But g w wk := hB3.later hbk
        have zk := z3.later hbk
        have hszk : w.heap.size + 1 ≤ wk.heap.size := by have := hbk.size; omega
        clear HI2 z3 hbk hr3 hBT hT hP hk3 htk hB3 hsz1 hsz3 hne
        by_cases h64 : d < 64
        · have HD : Hid _ := hid (fDown_lo hrk h64)
          have HR2 : Hid (R = wantR ⟨#[41]⟩ (runP E (.inr ts))) := hid (HR.out.trans (congrArg (wantR ⟨#[41]⟩) (in_lo h64 t ts)))
          have HP' : Hid _ := hid (hE h64)
          clear HR hrk hE
          go_wp2_with fail
          refine Calls.mono HD.out ?_
          rintro e w4 ⟨rfl, hr4, hb4⟩
          have HX : Hid _ := hid (fNext_any hr4 ht)
          have hB4 := hBk.trans hb4
          have z4 := zk.but hb4 (by omega)
          have hs4 := hb4.size
          clear HD hBk zk hb4 hr4
          go_wp2_with fail
          refine Calls.mono HX.out ?_
          rintro e w5 ⟨rfl, hr5, hb5⟩
          have HP : Hid _ := hid (HP'.out (.inr ts) w5 hr5)
          have hB5 := hB4.trans hb5
          have z5 := z4.but hb5 (by omega)
          have hs5 := hb5.size
          clear HX HP' hB4 z4 hb5 hr5
          go_wp2_with fail
          refine Calls.mono HP.out ?_
          rintro e w6 ⟨o2, p2, a2, l2, c2, rfl, hb6, hr6, hx6⟩
          have hs6 := hb6.size
          have hr7 := hr6.alloc (.cells #[.int .i64 o2, .int .i64 p2.1, .int .i64 p2.2.1, .string p2.2.2.1, .string p2.2.2.2.1, .string p2.2.2.2.2, .slice a2 l2 c2] 43)
          have x7 := Be.new w6 o2 p2 (.slice a2 l2 c2)
          have z7 := (z5.but hb6 (by omega)).later (bal (Below.refl _ w6) (.cells #[.int .i64 o2, .int .i64 p2.1, .int .i64 p2.2.1, .string p2.2.2.1, .string p2.2.2.2.1, .string p2.2.2.2.2, .slice a2 l2 c2] 43))
          have hB7 := (hB5.trans hb6).alloc (.cells #[.int .i64 o2, .int .i64 p2.1, .int .i64 p2.2.1, .string p2.2.2.1, .string p2.2.2.2.1, .string p2.2.2.2.2, .slice a2 l2 c2] 43)
          have HX7 : Hid (∀ u r, runP E (.inr ts) = .inr (u, r) → Ex (fun b => w.heap.size + 1 ≤ b) (w6.alloc (.cells #[.int .i64 o2, .int .i64 p2.1, .int .i64 p2.2.1, .string p2.2.2.1, .string p2.2.2.2.1, .string p2.2.2.2.2, .slice a2 l2 c2] 43)) u (exV o2 p2 (.slice a2 l2 c2))) := hid fun u r e =>
            ((hx6 u r e).mono fun k hk _ => by omega).later (bal (Below.refl _ w6) _)
          have HM : Hid _ := hid (fMust_any hr7 ⟨#[41]⟩)
          have hq6 : w.heap.size + 1 ≤ w6.heap.size := by omega
          clear HP z5 hB5 hb6 hr6 hx6 hr7
          unfold exV
          go_wp2_with fail
          refine Calls.mono HM.out ?_
          rintro e w8 ⟨rfl, hr8, hb8⟩
          have x8 := x7.but hb8 (by omega)
          have z8 := z7.but hb8 (by omega)
          have hB8 := hB7.trans hb8
          obtain ⟨D, hD1, hD2, k2, f2, hr9⟩ := hr8.higher
          have x9 := x8.other (r := g) (by omega) 2 (.int .i64 ((D : Int) - 1))
          have z9 := z8.other (r := g) (by omega) 2 (.int .i64 ((D : Int) - 1))
          have hB9 := hB8.trans (But.set g 2 _ (.int .i64 ((D : Int) - 1)))
          have HX9 : Hid (∀ u r, runP E (.inr ts) = .inr (u, r) → Ex (fun b => w.heap.size + 1 ≤ b) (w8.setCell ⟨g, 2, none⟩ (.int .i64 ((D : Int) - 1))) u (exV o2 p2 (.slice a2 l2 c2))) := hid fun u r e =>
            ((HX7.out u r e).but hb8 (by omega)).setG (by omega) 2 _
          clear HM HX7 hb8 x7 x8 z7 z8 hB7 hB8 hr8
          go_upto_region 18 with fail
          generalize hV : w8.setCell ⟨g, 2, none⟩ (.int .i64 ((D : Int) - 1)) = V at *
          generalize w6.heap.size = q2 at *
          obtain ⟨i0, i1, i2, i3, i4, i5, i6⟩ := x9.cells
          rw [Nat.zero_add] at i1 i2 i3 i4 i5 i6
          obtain ⟨m0, m1, m2, m3, m4, m5, m6⟩ := z9.cells
          obtain ⟨n0, n1, n2, n3, n4, n5, n6⟩ := z9.free
          have hVl := z9.lt
          clear hV x9 z9 k2 f2 hD1 hD2
          go_wp2
          refine bodyPost_ret (v := exV o2 p2 (.slice a2 l2 c2)) (by simp [results, Tryz.results150, go_sem, exV, m0, m1, m2, m3, m4, m5, m6]) rfl (TfE.fin hgl hB9 (by rw [HR2.out, stO_wantR]; exact hr9) fun t' r e => ?_)
          rw [HR2.out] at e
          obtain ⟨r', e2⟩ := wantR_inr e
          exact HX9.out t' r' e2
        · obtain rfl : d = 64 := by omega
          have HD : Hid _ := hid (fDown_hi hrk)
          have HR2 : Hid (R = .inl (atOf (t :: ts), 6)) := hid (HR.out.trans (by rw [in_hi rfl t ts]; rfl))
          clear HR hrk hE
          go_wp2_with fail
          refine Calls.mono HD.out ?_
          rintro e w4 ⟨rfl, hr4, hb4⟩
          have hB4 := hBk.trans hb4
          have z4 := zk.but hb4 (by omega)
          obtain ⟨m0, m1, m2, m3, m4, m5, m6⟩ := z4.cells
          obtain ⟨n0, n1, n2, n3, n4, n5, n6⟩ := z4.free
          have hzl := z4.lt
          clear HD hBk zk hb4 z4
          go_wp2
          refine bodyPost_ret (v := exV 0 nilP (.slice none 0 0)) (by simp [results, Tryz.results150, go_sem, exV, nilP, m0, m1, m2, m3, m4, m5, m6]) rfl (TfE.fin hgl hB4 (by rw [HR2.out]; exact hr4) fun t' r e => ?_)
          rw [HR2.out] at e
          cases e
      | false =>
        have HR : Hid _ := hid (unary_leaf (U := deepP d U) (E := deepP d E) hT hP)
        generalize runP (unaryOf (deepP d U) (deepP d E)) (.inr us) = R at *
        clear hU hE
        go_wp2_with fail
        refine Calls.mono HI2.out ?_
        rintro e wk ⟨B, rfl, hbk, hBT⟩
        obtain rfl : B = false := (hBT rfl).trans hP
        have hrk := hr3.later hbk
        have hBk : But g w wk := hB3.later hbk
        have zk := z3.later hbk
        obtain ⟨y0, y1, y2, y3⟩ := hk3.later hbk
        rw [Nat.zero_add] at y1 y2 y3
        have hszk : q < wk.heap.size := by have := hbk.size; omega
        clear HI2 z3 hbk hr3 hBT hT hP hk3 hB3 hsz3
        match us, hne, htk, hrk with
        | t :: ts, hne, htk, hrk =>
          have ht : (t0, t1, t2, t3) = t := htk rfl
          subst ht
          clear htk hne
          by_cases e3 : t0 = 3
          · subst e3
            have HR2 : Hid _ := hid (HR.out.trans (run_leafI rfl))
            have HX : Hid _ := hid (fNext_any hrk (by show (3 : Int) ≠ 6; decide))
            clear HR hrk
            go_wp2_with fail
            refine Calls.mono HX.out ?_
            rintro e w5 ⟨rfl, hr5, hb5⟩
            have hB5 := hBk.trans hb5
            have z5 := zk.but hb5 (by omega)
            have u2 := hb5.cell y2 (by show q ≠ g; omega)
            obtain ⟨m0, m1, m2, m3, m4, m5, m6⟩ := z5.cells
            obtain ⟨n0, n1, n2, n3, n4, n5, n6⟩ := z5.free
            have hzl := z5.lt
            have hq5 : q < w5.heap.size := Nat.lt_of_lt_of_le hszk hb5.size
            clear HX hBk zk hb5 z5 y0 y1 y2 y3
            go_wp2
            refine bodyPost_ret (v := exV 1 (1, t2, ⟨#[]⟩, ⟨#[]⟩, ⟨#[]⟩) (.slice none 0 0)) (by simp [results, Tryz.results150, go_sem, exV, m0, m1, m2, m3, m4, m5, m6]) rfl (TfE.fin hgl hB5 (by rw [HR2.out]; exact hr5) fun t' r e => ?_)
            rw [HR2.out] at e
            cases e
            exact Ex.leafI _
          · have g3 : (t0 == 3) = false := by simpa using e3
            by_cases e4 : t0 = 4
            · subst e4
              have HR2 : Hid _ := hid (HR.out.trans (run_leafT rfl))
              have HX : Hid _ := hid (fNext_any hrk (by show (4 : Int) ≠ 6; decide))
              clear HR hrk e3 g3
              go_wp2_with fail
              refine Calls.mono HX.out ?_
              rintro e w5 ⟨rfl, hr5, hb5⟩
              have hB5 := hBk.trans hb5
              have z5 := zk.but hb5 (by omega)
              have u1 := hb5.cell y1 (by show q ≠ g; omega)
              obtain ⟨m0, m1, m2, m3, m4, m5, m6⟩ := z5.cells
              obtain ⟨n0, n1, n2, n3, n4, n5, n6⟩ := z5.free
              have hzl := z5.lt
              have hq5 : q < w5.heap.size := Nat.lt_of_lt_of_le hszk hb5.size
              clear HX hBk zk hb5 z5 y0 y1 y2 y3
              go_wp2
              refine bodyPost_ret (v := exV 1 (2, 0, t1, ⟨#[]⟩, ⟨#[]⟩) (.slice none 0 0)) (by simp [results, Tryz.results150, go_sem, exV, m0, m1, m2, m3, m4, m5, m6]) rfl (TfE.fin hgl hB5 (by rw [HR2.out]; exact hr5) fun t' r e => ?_)
              rw [HR2.out] at e
              cases e
              exact Ex.leafT _
            · have g4 : (t0 == 4) = false := by simpa using e4
              have HR2 : Hid _ := hid (HR.out.trans (leaf_col (S := .inr ((t0, t1, t2, t3) :: ts)) e3 e4))
              have HX : Hid _ := hid (fColumn_any hrk)
              clear HR hrk e3 e4
              go_wp2_with fail
              refine Calls.mono HX.out ?_
              rintro e w5 ⟨o2, p2, a2, l2, c2, rfl, hb5, hr5, hx5⟩
              have hB5 := hBk.trans hb5
              have z5 := zk.but hb5 (by omega)
              obtain ⟨m0, m1, m2, m3, m4, m5, m6⟩ := z5.cells
              obtain ⟨n0, n1, n2, n3, n4, n5, n6⟩ := z5.free
              have hzl := z5.lt
              clear HX hBk zk hb5 z5 y0 y1 y2 y3
              unfold exV
              go_wp2
              refine bodyPost_ret (v := exV o2 p2 (.slice a2 l2 c2)) (by simp [results, Tryz.results150, go_sem, exV, m0, m1, m2, m3, m4, m5, m6]) rfl (TfE.fin hgl hB5 (by rw [HR2.out]; exact hr5) fun t' r e => ?_)
              rw [HR2.out] at e
              exact (hx5 t' r e).mono fun k hk _ => by omega

theorem readF_expr {g d n : Nat} (h : ReadF 117 g d (notP n)) : ReadF 108 g d (exprP n) :=
  fExpr_any (fAnd_any h (shr_un n).2) (shr_chain (shr_un n).2 _)
theorem readF_sum {g d : Nat} {U : List Tk → Re Tr} (h : ReadF 150 g d U) (hS : Shr U) : ReadF 129 g d (sumP U) :=
  fSum_any (fTerm_any h hS) (shr_chain hS _)
theorem readF_un (g : Nat) : ∀ (n d : Nat), d + n = 64 → ReadF 150 g d (unaryP n) ∧ ReadF 117 g d (notP n) := by
  intro n
  induction n with
  | zero =>
    intro d hd
    have h1 : ReadF 150 g d (unaryP 0) := by
      rw [unaryP_eq, deep_below hd, deep_below hd]
      exact fUnary_any (by omega) (fun k => absurd k (by omega)) (fun k => absurd k (by omega))
    refine ⟨h1, ?_⟩
    rw [notP_eq, deep_below hd]
    exact fNot_any (by omega) (fun k => absurd k (by omega)) (readF_sum h1 (shr_un 0).1)
  | succ n ih =>
    intro d hd
    have hi := ih (d + 1) (by omega)
    have h1 : ReadF 150 g d (unaryP (n + 1)) := by
      rw [unaryP_eq, deep_below hd, deep_below hd]
      exact fUnary_any (by omega) (fun _ => hi.1) (fun _ => readF_expr hi.2)
    refine ⟨h1, ?_⟩
    rw [notP_eq, deep_below hd]
    exact fNot_any (by omega) (fun _ => hi.2) (readF_sum h1 (shr_un (n + 1)).1)
/-- The document's expr, from the top. -/
theorem fExpr_all {g : Nat} {S : Sa} {w : World} (h : Rf w g S 0) : Calls Tryz.prog 108 #[.pointer (some ⟨g, 0, none⟩)] w (TfE g 0 w (runP (exprP 64) S)) :=
  readF_expr (readF_un g 64 0 rfl).2 S w h

end Go.Proofs.YtnboooaockgoiaaGreatDoor
namespace Go.Proofs.YtnboooaockgoiaaGreatDoor
open Go.RowKit
set_option linter.unusedVariables false

/-- A kind of thing in memory: how many cells, and when they are it. -/
structure Ek (α : Type) where
  k : Nat
  E : (Nat → Prop) → World → α → List Value → Prop
  keep : ∀ {Q : Nat → Prop} {w w' : World} {t : α} {cs : List Value}, (∀ b, Q b → b < w.heap.size → w'.heap[b]? = w.heap[b]?) → E Q w t cs → E Q w' t cs
  mono : ∀ {Q Q' : Nat → Prop} {w : World} {t : α} {cs : List Value}, (∀ b, Q b → b < w.heap.size → Q' b) → E Q w t cs → E Q' w t cs
def eTag : Ek Int := ⟨1, fun _ _ z cs => cs = [.int .u16 z], fun _ h => h, fun _ h => h⟩
abbrev Co := ByteArray × Int × ByteArray
def eCol : Ek Co := ⟨3, fun _ _ c cs => cs = [.string c.1, .int .i64 c.2.1, .string c.2.2], fun _ h => h, fun _ h => h⟩
abbrev It := Int × ByteArray × ByteArray
def eItem : Ek It := ⟨3, fun _ _ c cs => cs = [.int .i64 c.1, .string c.2.1, .string c.2.2], fun _ h => h, fun _ h => h⟩
def exC (o : Int) (p : Pay) (sl : Value) : List Value := [.int .i64 o, .int .i64 p.1, .int .i64 p.2.1, .string p.2.2.1, .string p.2.2.2.1, .string p.2.2.2.2, sl]
def eExpr : Ek Tr := ⟨7, fun Q w t cs => ∃ op p a n c, cs = exC op p (.slice a n c) ∧ Ex Q w t (exV op p (.slice a n c)),
  fun hk ⟨op, p, a, n, c, h1, h2⟩ => ⟨op, p, a, n, c, h1, h2.keep hk⟩, fun hk ⟨op, p, a, n, c, h1, h2⟩ => ⟨op, p, a, n, c, h1, h2.mono hk⟩⟩
/-- The value is a slice that reads as the list; its rows lie in blocks that Q lets. -/
def RowIs {α : Type} (e : Ek α) (Q : Nat → Prop) (w : World) (v : Value) (l : List α) : Prop :=
  ∃ ao n c, v = .slice ao n c ∧ l.length = n ∧ n ≤ c ∧ c ≤ 9223372036854775807 ∧ (0 < n → ∃ b o, ao = some ⟨b, o, none⟩ ∧ Q b ∧ ∀ i (h : i < l.length), ∃ cs, e.E Q w l[i] cs ∧ cs.length = e.k ∧ ∀ j (hj : j < cs.length), w.cell? ⟨b, o + i * e.k + j, none⟩ = some cs[j])
theorem RowIs.nil {α : Type} (e : Ek α) (Q : Nat → Prop) (w : World) : RowIs e Q w (.slice none 0 0) [] := ⟨none, 0, 0, rfl, rfl, Nat.le_refl _, by omega, fun h => absurd h (Nat.lt_irrefl _)⟩
theorem RowIs.keep {α : Type} {e : Ek α} (he : 0 < e.k) {Q : Nat → Prop} {w w' : World} {v : Value} {l : List α} (hk : ∀ b, Q b → b < w.heap.size → w'.heap[b]? = w.heap[b]?) (h : RowIs e Q w v l) : RowIs e Q w' v l := by
  obtain ⟨ao, n, c, hv, hl, hn, hc, hx⟩ := h
  refine ⟨ao, n, c, hv, hl, hn, hc, fun hp => ?_⟩
  obtain ⟨b, o, ha, hq, hi⟩ := hx hp
  refine ⟨b, o, ha, hq, fun i h => ?_⟩
  obtain ⟨cs, h1, h2, h3⟩ := hi i h
  have hb : b < w.heap.size := World.block_lt_of_cell? _ _ (h3 0 (by omega))
  exact ⟨cs, e.keep hk h1, h2, fun j hj => (World.cell?_of_block (a := ⟨b, _, none⟩) (hk b hq hb)).trans (h3 j hj)⟩
theorem RowIs.mono {α : Type} {e : Ek α} (he : 0 < e.k) {Q Q' : Nat → Prop} {w : World} {v : Value} {l : List α} (hk : ∀ b, Q b → b < w.heap.size → Q' b) (h : RowIs e Q w v l) : RowIs e Q' w v l := by
  obtain ⟨ao, n, c, hv, hl, hn, hc, hx⟩ := h
  refine ⟨ao, n, c, hv, hl, hn, hc, fun hp => ?_⟩
  obtain ⟨b, o, ha, hq, hi⟩ := hx hp
  have hb : b < w.heap.size := by
    obtain ⟨cs, h1, h2, h3⟩ := hi 0 (by omega)
    exact World.block_lt_of_cell? _ _ (h3 0 (by omega))
  exact ⟨b, o, ha, hk b hq hb, fun i h => by
    obtain ⟨cs, h1, h2, h3⟩ := hi i h
    exact ⟨cs, e.mono hk h1, h2, h3⟩⟩

/-- A row of the call's own, thing by thing. -/
def OwnR (ty k B : Nat) (w : World) (v : Value) (css : List (List Value)) : Prop := (∀ cs ∈ css, cs.length = k) ∧ w.ownsRow B ty k v css.length css.flatten
theorem flat_at {k : Nat} : ∀ {css : List (List Value)}, (∀ cs ∈ css, cs.length = k) → ∀ {i j : Nat} (hi : i < css.length) (hj : j < k), css.flatten[i * k + j]? = (css[i])[j]? := by
  intro css
  induction css with
  | nil => intro _ i j hi; simp at hi
  | cons c l ih =>
    intro h i j hi hj
    have hc := h c (by simp)
    cases i with
    | zero => rw [List.flatten_cons, List.getElem?_append_left (by omega)]; simp
    | succ i =>
      rw [List.flatten_cons, List.getElem?_append_right (by rw [hc, Nat.succ_mul]; omega), show (i + 1) * k + j - c.length = i * k + j from by rw [hc, Nat.succ_mul]; omega]
      exact ih (fun x hx => h x (by simp [hx])) (by simpa using hi) hj
theorem OwnR.row {α : Type} {e : Ek α} {ty B : Nat} {w : World} {v : Value} {css : List (List Value)} {l : List α} {Q : Nat → Prop} (h : OwnR ty e.k B w v css) (hl : l.length = css.length) (hn : css ≠ []) (hq : ∀ b, B ≤ b → b < w.heap.size → Q b)
    (hE : ∀ i (h1 : i < l.length) (h2 : i < css.length), e.E Q w l[i] css[i]) : RowIs e Q w v l := by
  rcases h.2.2 with ⟨rfl, h0⟩ | ⟨g, cap, cur, rfl, hb, hg, hnc, hc, hs, ht⟩
  · exact absurd (List.eq_nil_of_length_eq_zero h0) hn
  · have hgl : g < w.heap.size := (Array.getElem?_eq_some_iff.1 hg).1
    refine ⟨_, css.length, cap, rfl, hl, hnc, by simpa [maxLen] using hc, fun hp => ⟨g, 0, rfl, hq g hb hgl, fun i hi => ⟨css[i]'(by omega), hE i hi (by omega), h.1 _ (List.getElem_mem _), fun j hj => ?_⟩⟩⟩
    have hk := h.1 _ (List.getElem_mem (l := css) (n := i) (by omega))
    have hlt : i * e.k + j < css.length * e.k := by
      have : (i + 1) * e.k ≤ css.length * e.k := Nat.mul_le_mul_right _ (by omega)
      rw [Nat.succ_mul] at this
      omega
    have c0 := World.ownsRow.cellAt h.2 (i * e.k + j) hlt
    rw [Nat.zero_add, c0, flat_at h.1 (by omega) (by omega)]
    exact List.getElem?_eq_getElem hj
theorem OwnR.but {ty k B g : Nat} {w w' : World} {v : Value} {css : List (List Value)} (h : OwnR ty k B w v css) (hb : But g w w') (hg : g < B) : OwnR ty k B w' v css := by
  refine ⟨h.1, h.2.1, ?_⟩
  rcases h.2.2 with k | ⟨b, cap, cur, hv, hg', hh, r⟩
  · exact .inl k
  · exact .inr ⟨b, cap, cur, hv, hg', by rw [hb.block b (Array.getElem?_eq_some_iff.1 hh).1 (by omega)]; exact hh, r⟩
theorem OwnR.alloc {ty k B : Nat} {w : World} {v : Value} {css : List (List Value)} (h : OwnR ty k B w v css) (o : Obj) : OwnR ty k B (w.alloc o) v css := ⟨h.1, World.ownsRow.alloc h.2 o⟩
theorem run_appR {t ty e : TypeId} {z : Value} {k bytes B : Nat} (ht : Tryz.prog.underlying t = some (.slice e)) (hinf : (Tryz.prog.info? e).map (fun i => (i.zero, i.size, i.bytes)) = some (some z, k, bytes)) (hzs : z.cells.size = k) (hk : 0 < k) (hby : bytes ≤ 1000)
    (w : World) (v : Value) (css : List (List Value)) (g : Nat) (cs : List Value) (hown : OwnR e k B w v css) (hcs : cs.length = k) (h1 : ∀ u ∈ cs, u.oneCell' = true) (hx : ∀ j (hj : j < cs.length), w.cell? ⟨g, j, none⟩ = some cs[j]) (hl : css.length ≤ 1000) (hB : B ≤ w.heap.size) :
    ∃ v' w', (Builtin.append_ #[t, t] ty #[v, .slice (some ⟨g, 0, none⟩) 1 1]).run Tryz.prog w = .ok v' w' ∧ OwnR e k B w' v' (css ++ [cs]) ∧ w.grownBy w' v.ownBlock ∧ (v'.ownBlock = v.ownBlock ∨ v'.ownBlock = some w.heap.size) := by
  obtain ⟨i, hi, hz, hsz, hb⟩ := info_parts hinf
  obtain ⟨v', w', hr, h2, h3, _, h5⟩ := run_append_own_at (P := Tryz.prog) w B t ty e i z k bytes ht hi hz hsz hb hzs hk v css.length _ hown.2 ⟨g, 0, none⟩ 1 1 cs (by omega)
    (by
      intro j u hj
      obtain ⟨hj1, hj2⟩ := List.getElem?_eq_some_iff.1 hj
      have := hx j hj1
      rw [hj2] at this
      have e : (⟨g, 0, none⟩ : Addr).add j = ⟨g, j, none⟩ := by unfold Addr.add; split <;> simp_all
      rw [e]
      exact this)
    h1 (by unfold maxLen; omega) (by have : (css.length + 1) * bytes ≤ 1001 * 1000 := Nat.mul_le_mul (by omega) hby; omega) hB
  refine ⟨v', w', hr, ⟨?_, ?_⟩, h3, h5⟩
  · intro c hc
    rw [List.mem_append, List.mem_singleton] at hc
    rcases hc with hc | rfl
    · exact hown.1 c hc
    · exact hcs
  · simpa using h2
theorem wpList_appR {t e : TypeId} {z : Value} {k bytes B : Nat} (ht : Tryz.prog.underlying t = some (.slice e)) (hinf : (Tryz.prog.info? e).map (fun i => (i.zero, i.size, i.bytes)) = some (some z, k, bytes)) (hzs : z.cells.size = k) (hk : 0 < k) (hby : bytes ≤ 1000)
    {w : World} {ops : Array Oper} {rest : List Oper} {o : Oper} {a : Act} {Q : Exit → Act → World → Prop} (hgd : o.guard = none) (s x : Operand)
    (ho : o.op = .call { callee := .builtin .append, args := #[s, x], argTypes := #[t, t] }) (v : Value) (css : List (List Value)) (g : Nat) (cs : List Value) (hs : a.eval s = v) (hx : a.eval x = .slice (some ⟨g, 0, none⟩) 1 1)
    (hown : OwnR e k B w v css) (hcs : cs.length = k) (h1 : ∀ u ∈ cs, u.oneCell' = true) (hcell : ∀ j (hj : j < cs.length), w.cell? ⟨g, j, none⟩ = some cs[j]) (hl : css.length ≤ 1000) (hB : B ≤ w.heap.size)
    (h : ∀ v' w', OwnR e k B w' v' (css ++ [cs]) → w.grownBy w' v.ownBlock → (v'.ownBlock = v.ownBlock ∨ v'.ownBlock = some w.heap.size) → wpList Tryz.prog ops Q rest (a.put o.dst v') w') : wpList Tryz.prog ops Q (o :: rest) a w :=
  wpList_plain hgd fun _ hK => by
    obtain ⟨v', w', hr, h2, h3, h4⟩ := run_appR ht hinf hzs hk hby w v css g cs hown hcs h1 hcell hl hB (ty := o.type)
    unfold Oper.wp execOp
    simp only [ho, resolve, invoke, builtin, Sem.run_bind, Sem.run_pure, Result.andThen_ok, List.map_toArray, List.map_cons, List.map_nil, hs, hx, hr]
    exact hK _ _ (h v' w' h2 h3 h4)

/-- A statement without what stands in it. -/
structure Sm where
  kind : Int
  table : ByteArray
  name : ByteArray
  cols : List Co
  tags : List Int
  values : List Tr
  items : List It
  join : ByteArray
  on : List Tr
  wh : List Tr
  order : List Tr
  desc : Bool
def sm (k : Int) : Sm := ⟨k, ⟨#[]⟩, ⟨#[]⟩, [], [], [], [], ⟨#[]⟩, [], [], [], false⟩

def tagP (ts : List Tk) : Re Int :=
  match ts with
  | [] => .inl (0, 5)
  | t :: r => if t.1 = 3 then (if 65535 < t.2.2.1 then .inl (t.2.2.2, 3) else .inr (IntKind.u16.wrap t.2.2.1, r)) else .inl (t.2.2.2, 5)
def opsKind : List (ByteArray × Int) := [(⟨#[105, 110, 116]⟩, 1), (⟨#[116, 101, 120, 116]⟩, 2)]
def opsAgg : List (ByteArray × Int) := [(⟨#[115, 117, 109]⟩, 2), (⟨#[109, 105, 110]⟩, 3), (⟨#[109, 97, 120]⟩, 4)]
/-- A word that must stand there. -/
def wantU (s : ByteArray) (ts : List Tk) : Re Unit := if isTk s ts then .inr ((), ts.tail) else .inl (atOf ts, 5)
/-- One thing behind another. -/
def seqP {α β γ : Type} (f : α → β → γ) (P : List Tk → Re α) (P' : List Tk → Re β) (ts : List Tk) : Re γ := thenR (P ts) fun a r => mapR (f a) (P' r)
/-- If that word stands there: it, and what is behind it. -/
def optP {α : Type} (s : ByteArray) (z : α) (P : List Tk → Re α) (ts : List Tk) : Re α := if isTk s ts then P ts.tail else .inr (z, ts)
def choiceP (l : List (ByteArray × Int)) (ts : List Tk) : Re Int := if oneOf l ts = 0 then .inl (atOf ts, 5) else .inr (oneOf l ts, ts.tail)
def colP : List Tk → Re Co := seqP (fun n x => (n, x.1, x.2)) nameP (seqP Prod.mk (choiceP opsKind) (optP ⟨#[114, 101, 102]⟩ ⟨#[]⟩ nameP))
/-- What an item says of a column. -/
def itemC (g : Int) : Tr → It
  | .nil => (g, ⟨#[]⟩, ⟨#[]⟩)
  | .node _ _ p _ _ => (g, p.2.2.2.1, p.2.2.2.2)
def itemP (ts : List Tk) : Re It :=
  if isTk ⟨#[99, 111, 117, 110, 116]⟩ ts then seqP (fun _ _ => (1, ⟨#[]⟩, ⟨#[]⟩)) (wantU ⟨#[40]⟩) (seqP (fun _ _ => ()) (wantU ⟨#[42]⟩) (wantU ⟨#[41]⟩)) ts.tail
  else if oneOf opsAgg ts = 0 then mapR (itemC 0) (columnP ts)
  else seqP (fun _ x => itemC (oneOf opsAgg ts) x) (wantU ⟨#[40]⟩) (seqP (fun x _ => x) columnP (wantU ⟨#[41]⟩)) ts.tail
def brP {α : Type} (P : List Tk → Re α) : List Tk → Re (List α) := seqP (fun _ l => l) (wantU ⟨#[40]⟩) (seqP (fun l _ => l) (listP P) (wantU ⟨#[41]⟩))
def behindP (ts : List Tk) : Re (List Tr) := optP ⟨#[119, 104, 101, 114, 101]⟩ [] (fun r => mapR (fun x => [x]) (exprP 64 r)) ts
def onP : List Tk → Re (List Tr) := seqP (fun _ l => l) (wantU ⟨#[111, 110]⟩) (seqP (fun a b => [a, b]) columnP (seqP (fun _ b => b) (wantU ⟨#[61]⟩) columnP))
def orderP : List Tk → Re (List Tr) := seqP (fun _ l => l) (wantU ⟨#[98, 121]⟩) (fun r => mapR (fun x => [x]) (columnP r))

end Go.Proofs.YtnboooaockgoiaaGreatDoor
