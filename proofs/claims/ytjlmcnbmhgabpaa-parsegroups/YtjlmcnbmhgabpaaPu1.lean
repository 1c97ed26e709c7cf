/- The walk of stmt. -/
import Derived.Test.YtjlmcnbmhgabpaaPu
namespace Go.Proofs.Ytjlmcnbmhgabpaa
open Go.RowKit
set_option linter.unusedVariables false

set_option maxRecDepth 100000 in
set_option maxHeartbeats 8000000 in
theorem pStmt_any {g : Nat} {S : Sa} {w : World} (h : Rp w g S 0) : Calls Try.prog 10 #[.pointer (some ⟨g, 0, none⟩)] w (TeF g w (runP stmtP S)) := by
  have hgl := h.lt
  have hmf : ∀ (fn : Fn) (first cap : Array Value) (w : World), (Instr.makeFunc fn first cap).run Try.prog w = .ok (.func fn first cap) w := fun _ _ _ _ => rfl
  have K0 : Wait g w (w.alloc (.cells #[.int .i64 0, .string ⟨#[]⟩, .string ⟨#[]⟩, .slice none 0 0, .slice none 0 0, .slice none 0 0, .slice none 0 0, .string ⟨#[]⟩, .slice none 0 0, .slice none 0 0, .slice none 0 0, .bool false, .slice none 0 0] 30)) S := Wait.start h
  have E0 : Hid (runP stmtP S = runP stmtP S) := hid rfl
  generalize hRR : runP stmtP S = RR at *
  replace E0 : Hid (RR = runP stmtP S) := hid hRR.symm
  unfold stmtP at E0
  clear h hRR
  go_enter Try.func10, Try.ntmps10
  have HT1 := pTake_any K0.rp ⟨#[99, 114, 101, 97, 116, 101]⟩
  cases hb1 : takeB ⟨#[99, 114, 101, 97, 116, 101]⟩ S with
  | true =>
    rw [hb1] at HT1
    replace HT1 : Hid _ := hid HT1
    have E1 : Hid _ := hid (E0.out.trans (disp_true hb1))
    clear hb1 E0
    go_wp2_with fail
    refine Calls.mono HT1.out ?_
    rintro e w1 ⟨rfl, hr, hb⟩
    have K1 := K0.on hgl hr hb
    clear HT1 K0 hr hb
    have HC : Hid _ := hid (pCreate_any K1.rp)
    go_wp2_with fail
    refine Calls.mono HC.out ?_
    rintro e w2 ⟨s, rfl, hb, hr, hx⟩
    have T : Hid _ := hid (K1.tef hgl E1.out hb hr hx)
    have z := K1.zero.but hb (by omega)
    clear HC hb hr hx K1 E1
    unfold stV
    obtain ⟨m0, m1, m2, m3, m4, m5, m6, m7, m8, m9, m10, m11, m12⟩ := z.cells
    obtain ⟨n0, n1, n2, n3, n4, n5, n6, n7, n8, n9, n10, n11, n12⟩ := z.free
    clear z
    go_wp2
    refine bodyPost_ret (v := stV s) (by simp [results, Try.results10, go_sem, stV, m0, m1, m2, m3, m4, m5, m6, m7, m8, m9, m10, m11, m12]) rfl ?_
    exact T.out
  | false =>
    rw [hb1, takeB_false hb1] at HT1
    replace HT1 : Hid _ := hid HT1
    have E1 : Hid _ := hid (E0.out.trans (disp_false hb1))
    clear hb1 E0
    go_wp2_with fail
    refine Calls.mono HT1.out ?_
    rintro e w1 ⟨rfl, hr, hb⟩
    have K1 := K0.on hgl hr hb
    clear HT1 K0 hr hb
    have HT2 := pIs_any K1.rp ⟨#[115, 101, 108, 101, 99, 116]⟩
    cases hb2 : takeB ⟨#[115, 101, 108, 101, 99, 116]⟩ S with
    | true =>
      rw [hb2] at HT2
      replace HT2 : Hid _ := hid HT2
      have E2 : Hid _ := hid (E1.out.trans (is_true hb2))
      clear hb2 E1
      go_wp2_with fail
      refine Calls.mono HT2.out ?_
      rintro e w2 ⟨rfl, hb⟩
      have K2 := K1.on hgl (K1.rp.later hb) (But.of hb)
      clear HT2 K1 hb
      have HC : Hid _ := hid (pQuery_any K2.rp)
      go_wp2_with fail
      refine Calls.mono HC.out ?_
      rintro e w3 ⟨s, rfl, hb, hr, hx⟩
      have T : Hid _ := hid (K2.teg hgl E2.out hb hr hx)
      have z := K2.zero.but hb (by omega)
      clear HC hb hr hx K2 E2
      unfold stV
      obtain ⟨m0, m1, m2, m3, m4, m5, m6, m7, m8, m9, m10, m11, m12⟩ := z.cells
      obtain ⟨n0, n1, n2, n3, n4, n5, n6, n7, n8, n9, n10, n11, n12⟩ := z.free
      clear z
      go_wp2
      refine bodyPost_ret (v := stV s) (by simp [results, Try.results10, go_sem, stV, m0, m1, m2, m3, m4, m5, m6, m7, m8, m9, m10, m11, m12]) rfl ?_
      exact T.out
    | false =>
      rw [hb2] at HT2
      replace HT2 : Hid _ := hid HT2
      have E2 : Hid _ := hid (E1.out.trans (is_false hb2))
      clear hb2 E1
      go_wp2_with fail
      refine Calls.mono HT2.out ?_
      rintro e w2 ⟨rfl, hb⟩
      have K2 := K1.on hgl (K1.rp.later hb) (But.of hb)
      clear HT2 K1 hb
      have HT3 := pTake_any K2.rp ⟨#[98, 101, 103, 105, 110]⟩
      cases hb3 : takeB ⟨#[98, 101, 103, 105, 110]⟩ S with
      | true =>
        rw [hb3] at HT3
        replace HT3 : Hid _ := hid HT3
        have E3 : Hid _ := hid (E2.out.trans (disp_true hb3))
        clear hb3 E2
        go_wp2_with fail
        refine Calls.mono HT3.out ?_
        rintro e w3 ⟨rfl, hr, hb⟩
        have K3 := K2.on hgl hr hb
        clear HT3 K2 hr hb
        obtain ⟨q1, q2⟩ := only_run 9 (takeS ⟨#[98, 101, 103, 105, 110]⟩ S)
        have T : Hid _ := hid (TeF.fin2 (R := RR) (s := zS 9) hgl K3.but (by rw [E3.out, q1]; exact K3.rp) fun m r e => by
          rw [E3.out] at e
          rw [q2 m r e]
          exact ⟨IsS.zero _ _ 9, RowIs.nil _ _ _⟩)
        have z := K3.zero
        clear q1 q2 K3 E3
        obtain ⟨m0, m1, m2, m3, m4, m5, m6, m7, m8, m9, m10, m11, m12⟩ := z.cells
        obtain ⟨n0, n1, n2, n3, n4, n5, n6, n7, n8, n9, n10, n11, n12⟩ := z.free
        clear z
        go_wp2
        refine bodyPost_ret (v := stV (zS 9)) (by simp [results, Try.results10, go_sem, stV, m0, m1, m2, m3, m4, m5, m6, m7, m8, m9, m10, m11, m12]) rfl ?_
        exact T.out
      | false =>
        rw [hb3, takeB_false hb3] at HT3
        replace HT3 : Hid _ := hid HT3
        have E3 : Hid _ := hid (E2.out.trans (disp_false hb3))
        clear hb3 E2
        go_wp2_with fail
        refine Calls.mono HT3.out ?_
        rintro e w3 ⟨rfl, hr, hb⟩
        have K3 := K2.on hgl hr hb
        clear HT3 K2 hr hb
        have HT4 := pTake_any K3.rp ⟨#[99, 111, 109, 109, 105, 116]⟩
        cases hb4 : takeB ⟨#[99, 111, 109, 109, 105, 116]⟩ S with
        | true =>
          rw [hb4] at HT4
          replace HT4 : Hid _ := hid HT4
          have E4 : Hid _ := hid (E3.out.trans (disp_true hb4))
          clear hb4 E3
          go_wp2_with fail
          refine Calls.mono HT4.out ?_
          rintro e w4 ⟨rfl, hr, hb⟩
          have K4 := K3.on hgl hr hb
          clear HT4 K3 hr hb
          obtain ⟨q1, q2⟩ := only_run 10 (takeS ⟨#[99, 111, 109, 109, 105, 116]⟩ S)
          have T : Hid _ := hid (TeF.fin2 (R := RR) (s := zS 10) hgl K4.but (by rw [E4.out, q1]; exact K4.rp) fun m r e => by
            rw [E4.out] at e
            rw [q2 m r e]
            exact ⟨IsS.zero _ _ 10, RowIs.nil _ _ _⟩)
          have z := K4.zero
          clear q1 q2 K4 E4
          obtain ⟨m0, m1, m2, m3, m4, m5, m6, m7, m8, m9, m10, m11, m12⟩ := z.cells
          obtain ⟨n0, n1, n2, n3, n4, n5, n6, n7, n8, n9, n10, n11, n12⟩ := z.free
          clear z
          go_wp2
          refine bodyPost_ret (v := stV (zS 10)) (by simp [results, Try.results10, go_sem, stV, m0, m1, m2, m3, m4, m5, m6, m7, m8, m9, m10, m11, m12]) rfl ?_
          exact T.out
        | false =>
          rw [hb4, takeB_false hb4] at HT4
          replace HT4 : Hid _ := hid HT4
          have E4 : Hid _ := hid (E3.out.trans (disp_false hb4))
          clear hb4 E3
          go_wp2_with fail
          refine Calls.mono HT4.out ?_
          rintro e w4 ⟨rfl, hr, hb⟩
          have K4 := K3.on hgl hr hb
          clear HT4 K3 hr hb
          have HT5 := pTake_any K4.rp ⟨#[114, 111, 108, 108, 98, 97, 99, 107]⟩
          cases hb5 : takeB ⟨#[114, 111, 108, 108, 98, 97, 99, 107]⟩ S with
          | true =>
            rw [hb5] at HT5
            replace HT5 : Hid _ := hid HT5
            have E5 : Hid _ := hid (E4.out.trans (disp_true hb5))
            clear hb5 E4
            go_wp2_with fail
            refine Calls.mono HT5.out ?_
            rintro e w5 ⟨rfl, hr, hb⟩
            have K5 := K4.on hgl hr hb
            clear HT5 K4 hr hb
            obtain ⟨q1, q2⟩ := only_run 11 (takeS ⟨#[114, 111, 108, 108, 98, 97, 99, 107]⟩ S)
            have T : Hid _ := hid (TeF.fin2 (R := RR) (s := zS 11) hgl K5.but (by rw [E5.out, q1]; exact K5.rp) fun m r e => by
              rw [E5.out] at e
              rw [q2 m r e]
              exact ⟨IsS.zero _ _ 11, RowIs.nil _ _ _⟩)
            have z := K5.zero
            clear q1 q2 K5 E5
            obtain ⟨m0, m1, m2, m3, m4, m5, m6, m7, m8, m9, m10, m11, m12⟩ := z.cells
            obtain ⟨n0, n1, n2, n3, n4, n5, n6, n7, n8, n9, n10, n11, n12⟩ := z.free
            clear z
            go_wp2
            refine bodyPost_ret (v := stV (zS 11)) (by simp [results, Try.results10, go_sem, stV, m0, m1, m2, m3, m4, m5, m6, m7, m8, m9, m10, m11, m12]) rfl ?_
            exact T.out
          | false =>
            rw [hb5, takeB_false hb5] at HT5
            replace HT5 : Hid _ := hid HT5
            have E5 : Hid _ := hid (E4.out.trans (disp_false hb5))
            clear hb5 E4
            go_wp2_with fail
            refine Calls.mono HT5.out ?_
            rintro e w5 ⟨rfl, hr, hb⟩
            have K5 := K4.on hgl hr hb
            clear HT5 K4 hr hb
            have HT6 := pTake_any K5.rp ⟨#[114, 97, 105, 115, 101]⟩
            cases hb6 : takeB ⟨#[114, 97, 105, 115, 101]⟩ S with
            | true =>
              rw [hb6] at HT6
              replace HT6 : Hid _ := hid HT6
              have E6 : Hid _ := hid (E5.out.trans (disp_true hb6))
              clear hb6 E5
              go_wp2_with fail
              refine Calls.mono HT6.out ?_
              rintro e w6 ⟨rfl, hr, hb⟩
              have K6 := K5.on hgl hr hb
              clear HT6 K5 hr hb
              have HC : Hid _ := hid (pListTag_any K6.rp (part_tag g) shr_tag)
              rw [raise_run] at E6
              go_wp2_with fail
              refine Calls.mono HC.out ?_
              rintro e w7 ⟨ao, ln, cp, rfl, hb, hr, hx⟩
              have hlt := K6.lt
              have T : Hid _ := hid (TeF.fin2 (R := RR) (s := { zS 12 with ta := (ao, ln, cp) }) hgl (K6.but.trans hb) (by rw [E6.out, stO_mapR]; exact hr) fun m r e => by
                rw [E6.out] at e
                obtain ⟨u, e2, rfl⟩ := mapR_inr e
                exact ⟨{ IsS.zero _ _ 12 with ta := (hx u r e2).mono (by decide) fun b hb _ => by omega }, RowIs.nil _ _ _⟩)
              have z := K6.zero.but hb (by omega)
              clear HC hb hr hx K6 E6
              obtain ⟨m0, m1, m2, m3, m4, m5, m6, m7, m8, m9, m10, m11, m12⟩ := z.cells
              obtain ⟨n0, n1, n2, n3, n4, n5, n6, n7, n8, n9, n10, n11, n12⟩ := z.free
              clear z
              go_wp2
              refine bodyPost_ret (v := stV { zS 12 with ta := (ao, ln, cp) }) (by simp [results, Try.results10, go_sem, stV, m0, m1, m2, m3, m4, m5, m6, m7, m8, m9, m10, m11, m12]) rfl ?_
              exact T.out
            | false =>
              rw [hb6, takeB_false hb6] at HT6
              replace HT6 : Hid _ := hid HT6
              have E6 : Hid _ := hid (E5.out.trans (disp_false hb6))
              clear hb6 E5
              go_wp2_with fail
              refine Calls.mono HT6.out ?_
              rintro e w6 ⟨rfl, hr, hb⟩
              have K6 := K5.on hgl hr hb
              clear HT6 K5 hr hb
              have HT7 := pTake_any K6.rp ⟨#[99, 97, 108, 108]⟩
              cases hb7 : takeB ⟨#[99, 97, 108, 108]⟩ S with
              | true =>
                rw [hb7] at HT7
                replace HT7 : Hid _ := hid HT7
                have E7 : Hid _ := hid (E6.out.trans (disp_true hb7))
                clear hb7 E6
                go_wp2_with fail
                refine Calls.mono HT7.out ?_
                rintro e w7 ⟨rfl, hr, hb⟩
                have K7 := K6.on hgl hr hb
                clear HT7 K6 hr hb
                have HC : Hid _ := hid (pName_any K7.rp)
                rw [call_run] at E7
                go_wp2_with fail
                refine Calls.mono HC.out ?_
                rintro e w8 ⟨x, rfl, hb, hr, hx⟩
                have T : Hid _ := hid (TeF.fin2 (R := RR) (s := { zS 13 with nm := x }) hgl (K7.but.trans hb) (by rw [E7.out, stO_mapR]; exact hr) fun m r e => by
                  rw [E7.out] at e
                  obtain ⟨u, e2, rfl⟩ := mapR_inr e
                  exact ⟨{ IsS.zero _ _ 13 with nm := hx u r e2 }, RowIs.nil _ _ _⟩)
                have z := K7.zero.but hb (by omega)
                clear HC hb hr hx K7 E7
                obtain ⟨m0, m1, m2, m3, m4, m5, m6, m7, m8, m9, m10, m11, m12⟩ := z.cells
                obtain ⟨n0, n1, n2, n3, n4, n5, n6, n7, n8, n9, n10, n11, n12⟩ := z.free
                clear z
                go_wp2
                refine bodyPost_ret (v := stV { zS 13 with nm := x }) (by simp [results, Try.results10, go_sem, stV, m0, m1, m2, m3, m4, m5, m6, m7, m8, m9, m10, m11, m12]) rfl ?_
                exact T.out
              | false =>
                rw [hb7, takeB_false hb7] at HT7
                replace HT7 : Hid _ := hid HT7
                have E7 : Hid _ := hid (E6.out.trans (disp_false hb7))
                clear hb7 E6
                go_wp2_with fail
                refine Calls.mono HT7.out ?_
                rintro e w7 ⟨rfl, hr, hb⟩
                have K7 := K6.on hgl hr hb
                clear HT7 K6 hr hb
                have HC : Hid _ := hid (pChange_any K7.rp)
                go_wp2_with fail
                refine Calls.mono HC.out ?_
                rintro e w8 ⟨s, rfl, hb, hr, hx⟩
                have T : Hid _ := hid (K7.teg hgl E7.out hb hr hx)
                have z := K7.zero.but hb (by omega)
                clear HC hb hr hx K7 E7
                unfold stV
                obtain ⟨m0, m1, m2, m3, m4, m5, m6, m7, m8, m9, m10, m11, m12⟩ := z.cells
                obtain ⟨n0, n1, n2, n3, n4, n5, n6, n7, n8, n9, n10, n11, n12⟩ := z.free
                clear z
                go_wp2
                refine bodyPost_ret (v := stV s) (by simp [results, Try.results10, go_sem, stV, m0, m1, m2, m3, m4, m5, m6, m7, m8, m9, m10, m11, m12]) rfl ?_
                exact T.out

end Go.Proofs.Ytjlmcnbmhgabpaa
