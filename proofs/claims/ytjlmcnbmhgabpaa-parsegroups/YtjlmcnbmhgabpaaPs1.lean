/- The walk of select. -/
import Derived.Test.YtjlmcnbmhgabpaaPs
namespace Go.Proofs.Ytjlmcnbmhgabpaa
open Go.RowKit
set_option linter.unusedVariables false

set_option maxRecDepth 100000 in
set_option maxHeartbeats 4000000 in
theorem pQuery_any {g : Nat} {S : Sa} {w : World} (h : Rp w g S 0) : Calls Try.prog 17 #[.pointer (some ⟨g, 0, none⟩)] w (TeS g w (runP queryP S)) := by
  have hgl := h.lt
  have hmf : ∀ (fn : Fn) (first cap : Array Value) (w : World), (Instr.makeFunc fn first cap).run Try.prog w = .ok (.func fn first cap) w := fun _ _ _ _ => rfl
  have I0 : Inv g w (startR 6 S) ((w.alloc (.cells #[.int .i64 0, .string ⟨#[]⟩, .string ⟨#[]⟩, .slice none 0 0, .slice none 0 0, .slice none 0 0, .slice none 0 0, .string ⟨#[]⟩, .slice none 0 0, .slice none 0 0, .slice none 0 0, .bool false, .slice none 0 0] 30)).alloc (.cells #[.int .i64 6, .string ⟨#[]⟩, .string ⟨#[]⟩, .slice none 0 0, .slice none 0 0, .slice none 0 0, .slice none 0 0, .string ⟨#[]⟩, .slice none 0 0, .slice none 0 0, .slice none 0 0, .bool false, .slice none 0 0] 30)) (zS 6) := Inv.start h 6
  have HR : Hid (runP queryP S = _) := hid (queryP_run S)
  clear h
  go_enter Try.func17, Try.ntmps17
  have H1 : Hid _ := hid (pWant1 I0.rp ⟨#[115, 101, 108, 101, 99, 116]⟩ (b := w.heap.size + 1 + 1) (by simp))
  go_wp2_with fail
  refine Calls.mono H1.out ?_
  rintro e w1 ⟨rfl, hr1, hb1⟩
  have I1 := I0.want hgl hr1 hb1
  clear H1 hr1 hb1 I0
  have HT : Hid _ := hid (pTake_any I1.rp ⟨#[42]⟩)
  go_wp2_with fail
  refine Calls.mono HT.out ?_
  rintro e w2 ⟨rfl, hr2, hb2⟩
  clear HT
  go_upto_if 10 with fail
  go_cut [] (fun w' => ∃ sv, Inv g w (fillR starP up_it (wantR ⟨#[115, 101, 108, 101, 99, 116]⟩ (startR 6 S))) w' sv ∧ sv.jn = ⟨#[]⟩ ∧ sv.on = (none, 0, 0) ∧ sv.od = (none, 0, 0) ∧ sv.ds = false)
  case first =>
    cases hb : takeB ⟨#[42]⟩ (stO (wantR ⟨#[115, 101, 108, 101, 99, 116]⟩ (startR 6 S))) with
    | true =>
      have I2 := ((I1.take hgl hr2 hb2).it0 rfl).conv (star_true hb)
      clear hb hr2 hb2 I1
      go_wp2_with fail
      go_meet
      exact ⟨_, I2, rfl, rfl, rfl, rfl⟩
    | false =>
      rw [takeB_false hb] at hr2
      have I2 := I1.same hgl hr2 hb2
      have HL : Hid _ := hid (pListItem_any I2.rp (part_item g) shr_item)
      have e1 := star_false hb
      have E1 : Hid _ := hid e1
      clear hb hr2 hb2 I1 e1
      go_wp2_with fail
      refine Calls.mono HL.out ?_
      rintro e w3 ⟨ao3, ln3, cp3, rfl, hb3, hr3, hu3⟩
      have y3 := I2.box.but hb3 (by omega)
      have cy3 := y3.cells.2.2.2.2.2.2.1
      have fy3 := y3.free.2.2.2.2.2.2.1
      have I3 := (I2.it (v := (ao3, ln3, cp3)) hgl hb3 hr3 hu3).conv E1.out
      clear HL hb3 hr3 hu3 y3 I2 E1
      go_wp2_with fail
      go_meet
      exact ⟨_, I3, rfl, rfl, rfl, rfl⟩
  case rest =>
    obtain ⟨sv2, I2, hj2, ho2, hd2, hs2⟩ := hcut
    clear I1 hr2 hb2
    have H3 : Hid _ := hid (pWant1 I2.rp ⟨#[102, 114, 111, 109]⟩ )
    go_wp2_with fail
    refine Calls.mono H3.out ?_
    rintro e w3 ⟨rfl, hr3, hb3⟩
    have I3 := I2.want hgl hr3 hb3
    clear H3 hr3 hb3 I2
    have H4 : Hid _ := hid (pName_any I3.rp)
    go_wp2_with fail
    refine Calls.mono H4.out ?_
    rintro e w4 ⟨s4, rfl, hb4, hr4, hu4⟩
    have y4 := I3.box.but hb4 (by omega)
    have cy4 := y4.cells.2.1
    have fy4 := y4.free.2.1
    have I4 := I3.tb hgl hb4 hr4 hu4
    clear H4 hr4 hb4 hu4 I3 y4
    have HT : Hid _ := hid (pTake_any I4.rp ⟨#[106, 111, 105, 110]⟩)
    go_wp2_with fail
    refine Calls.mono HT.out ?_
    rintro e w5 ⟨rfl, hr5, hb5⟩
    clear HT
    go_upto_if 23 with fail
    go_cut [] (fun w' => ∃ sv, Inv g w (fillR joinP up_jo (fillR nameP up_tb (wantR ⟨#[102, 114, 111, 109]⟩ (fillR starP up_it (wantR ⟨#[115, 101, 108, 101, 99, 116]⟩ (startR 6 S)))))) w' sv ∧ sv.od = (none, 0, 0) ∧ sv.ds = false)
    case first =>
      generalize hRR : fillR nameP up_tb (wantR ⟨#[102, 114, 111, 109]⟩ (fillR starP up_it (wantR ⟨#[115, 101, 108, 101, 99, 116]⟩ (startR 6 S)))) = RR at *
      cases hb : takeB ⟨#[106, 111, 105, 110]⟩ (stO RR) with
      | false =>
        rw [takeB_false hb] at hr5
        have I5 := (I4.same hgl hr5 hb5).jo0 hb hj2 ho2
        clear hb hr5 hb5 I4 hRR
        go_wp2_with fail
        go_meet
        exact ⟨_, I5, hd2, hs2⟩
      | true =>
        have I5 := I4.take hgl hr5 hb5
        have E1 : Hid _ := hid (join_true hb)
        have HN : Hid _ := hid (pName_any I5.rp)
        clear hb hr5 hb5 I4 hRR
        go_wp2_with fail
        refine Calls.mono HN.out ?_
        rintro e w6 ⟨s6, rfl, hb6, hr6, hu6⟩
        have y6 := I5.box.but hb6 (by omega)
        have cy6 := y6.cells.2.2.2.2.2.2.2.1
        have fy6 := y6.free.2.2.2.2.2.2.2.1
        have I6 := I5.jn hgl hb6 hr6 hu6
        have HL : Hid _ := hid (pOn_any I6.rp)
        clear HN hb6 hr6 hu6 y6 I5
        go_wp2_with fail
        refine Calls.mono HL.out ?_
        rintro e w7 ⟨ao7, ln7, cp7, rfl, hb7, hr7, hu7⟩
        have y7 := I6.box.but hb7 (by omega)
        have cy7 := y7.cells.2.2.2.2.2.2.2.2.1
        have fy7 := y7.free.2.2.2.2.2.2.2.2.1
        have I7 := (I6.on (v := (ao7, ln7, cp7)) hgl hb7 hr7 hu7).conv E1.out
        clear HL hb7 hr7 hu7 y7 I6 E1
        go_wp2_with fail
        go_meet
        exact ⟨_, I7, hd2, hs2⟩
    case rest =>
      obtain ⟨sv6, I6, hd6, hs6⟩ := hcut
      clear I4 hr5 hb5 hj2 ho2 hd2 hs2
      have H7 : Hid _ := hid (pBehind_any ⟨#[119, 104, 101, 114, 101]⟩ I6.rp (part_expr g))
      go_wp2_with fail
      refine Calls.mono H7.out ?_
      rintro e w7 ⟨ao7, ln7, cp7, rfl, hb7, hr7, hu7⟩
      have y7 := I6.box.but hb7 (by omega)
      have cy7 := y7.cells.2.2.2.2.2.2.2.2.2.1
      have fy7 := y7.free.2.2.2.2.2.2.2.2.2.1
      have I7 := I6.wh (v := (ao7, ln7, cp7)) hgl hb7 hr7 hu7
      clear H7 hr7 hb7 hu7 I6 y7
      have HT := pTake_any I7.rp ⟨#[111, 114, 100, 101, 114]⟩
      have HR' : Hid (runP queryP S = fillR ordP up_oo (fillR behindP up_wh (fillR joinP up_jo (fillR nameP up_tb (wantR ⟨#[102, 114, 111, 109]⟩ (fillR starP up_it (wantR ⟨#[115, 101, 108, 101, 99, 116]⟩ (startR 6 S)))))))) := HR
      generalize hRR : fillR (optP ⟨#[119, 104, 101, 114, 101]⟩ [] fun r => mapR (fun x => [x]) (exprP 64 r)) up_wh (fillR joinP up_jo (fillR nameP up_tb (wantR ⟨#[102, 114, 111, 109]⟩ (fillR starP up_it (wantR ⟨#[115, 101, 108, 101, 99, 116]⟩ (startR 6 S)))))) = RR at *
      have HR2 : Hid (runP queryP S = fillR ordP up_oo RR) := hid (by rw [← hRR]; exact HR'.out)
      clear HR HR' hRR
      cases hb : takeB ⟨#[111, 114, 100, 101, 114]⟩ (stO RR) with
      | false =>
        rw [hb, takeB_false hb] at HT
        replace HT : Hid _ := hid HT
        have HB : Hid _ := hid hb
        clear hb
        go_wp2_with fail
        refine Calls.mono HT.out ?_
        rintro e w8 ⟨rfl, hr8, hb8⟩
        have I8 := (I7.same hgl hr8 hb8).oo0 HB.out hs6 hd6
        have HR : Hid _ := HR2
        clear HT hr8 hb8 I7
        obtain ⟨sv, J⟩ : ∃ sv, Inv g w _ _ sv := ⟨_, I8⟩
        have hq := J.lt
        have T := TeS.fin HR.out hgl J
        obtain ⟨k0, k1, k2, k3, k4, k5, k6, k7, k8, k9, k10, k11, k12⟩ := J.box.cells
        obtain ⟨m0, m1, m2, m3, m4, m5, m6, m7, m8, m9, m10, m11, m12⟩ := J.zero.cells
        obtain ⟨n0, n1, n2, n3, n4, n5, n6, n7, n8, n9, n10, n11, n12⟩ := J.zero.free
        replace T : Hid _ := hid T
        clear I8 J HR
        go_wp2
        refine bodyPost_ret (v := stV sv) (by simp [results, Try.results17, go_sem, stV, m0, m1, m2, m3, m4, m5, m6, m7, m8, m9, m10, m11, m12]) rfl ?_
        exact T.out
      | true =>
        rw [hb] at HT
        replace HT : Hid _ := hid HT
        have E1 : Hid _ := hid (ord_true hb)
        clear hb
        go_wp2_with fail
        refine Calls.mono HT.out ?_
        rintro e w8 ⟨rfl, hr8, hb8⟩
        have I8 := I7.take hgl hr8 hb8
        clear HT hr8 hb8 I7
        have H9 : Hid _ := hid (pOrder_any I8.rp)
        go_wp2_with fail
        refine Calls.mono H9.out ?_
        rintro e w9 ⟨ao9, ln9, cp9, rfl, hb9, hr9, hu9⟩
        have y9 := I8.box.but hb9 (by omega)
        have cy9 := y9.cells.2.2.2.2.2.2.2.2.2.2.1
        have fy9 := y9.free.2.2.2.2.2.2.2.2.2.2.1
        have I9 := I8.od (v := (ao9, ln9, cp9)) hgl hb9 hr9 hu9
        clear H9 hr9 hb9 hu9 I8 y9
        have HT : Hid _ := hid (pTake_any I9.rp ⟨#[100, 101, 115, 99]⟩)
        go_wp2_with fail
        refine Calls.mono HT.out ?_
        rintro e w10 ⟨rfl, hr10, hb10⟩
        have y10 := I9.box.but hb10 (by omega)
        have cy10 := y10.cells.2.2.2.2.2.2.2.2.2.2.2.1
        have fy10 := y10.free.2.2.2.2.2.2.2.2.2.2.2.1
        rw [← desc_st] at hr10
        have I10 := I9.ds (P := descP) hgl hb10 hr10 fun u r e => desc_inr e
        have HR : Hid _ := hid (HR2.out.trans E1.out)
        clear HT hr10 hb10 y10 I9
        obtain ⟨sv, J⟩ : ∃ sv, Inv g w _ _ sv := ⟨_, I10⟩
        go_upto_region 14 with fail
        generalize w10.setCell ⟨w.heap.size + 1, 11, none⟩ (.bool (takeB ⟨#[100, 101, 115, 99]⟩ (stO (fillR orderP up_od (takeR ⟨#[111, 114, 100, 101, 114]⟩ RR))))) = W at *
        have hq := J.lt
        have T := TeS.fin HR.out hgl J
        obtain ⟨k0, k1, k2, k3, k4, k5, k6, k7, k8, k9, k10, k11, k12⟩ := J.box.cells
        obtain ⟨m0, m1, m2, m3, m4, m5, m6, m7, m8, m9, m10, m11, m12⟩ := J.zero.cells
        obtain ⟨n0, n1, n2, n3, n4, n5, n6, n7, n8, n9, n10, n11, n12⟩ := J.zero.free
        replace T : Hid _ := hid T
        clear I10 J HR
        go_wp2
        refine bodyPost_ret (v := stV sv) (by simp [results, Try.results17, go_sem, stV, m0, m1, m2, m3, m4, m5, m6, m7, m8, m9, m10, m11, m12]) rfl ?_
        exact T.out

end Go.Proofs.Ytjlmcnbmhgabpaa
