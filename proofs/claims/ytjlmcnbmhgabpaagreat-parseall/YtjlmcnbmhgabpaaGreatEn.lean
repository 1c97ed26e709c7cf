/- The walk of the document's stmt. -/
import Derived.Test.YtjlmcnbmhgabpaaGreatEl
import Derived.Test.YtjlmcnbmhgabpaaGreatLl
import Derived.Test.YtjlmcnbmhgabpaaGreatPw
namespace Go.Proofs.YtjlmcnbmhgabpaaGreat
open Go.RowKit
set_option linter.unusedVariables false

set_option maxRecDepth 100000 in
set_option maxHeartbeats 4000000 in
theorem fStmt0 {g : Nat} {S : Sa} {w : World} (h : Rf w g S 0) (hok : okS S = true) (h0 : takeB ⟨#[99, 114, 101, 97, 116, 101]⟩ S = true) : Calls Tryz.prog 18 #[.pointer (some ⟨g, 0, none⟩)] w (TfF g w (runP stmtP S)) := by
  have hgl := h.lt
  have W0 := Wf.start h
  have HR : Hid (runP stmtP S = runP createP (takeS ⟨#[99, 114, 101, 97, 116, 101]⟩ S)) := hid (disp_true h0)
  clear h
  go_enter Tryz.func18, Tryz.ntmps18

  have HT1 := fTake_any W0.rf ⟨#[99, 114, 101, 97, 116, 101]⟩
  rw [h0] at HT1
  replace HT1 : Hid _ := hid HT1
  go_wp2_with fail
  refine Calls.mono HT1.out ?_
  rintro e w1 ⟨rfl, hr1, hb1⟩
  have W1 := W0.on hgl hr1 hb1
  clear HT1 hr1 hb1 W0
  have HC : Hid _ := hid (fCreate_any W1.rf)
  go_wp2_with fail
  refine Calls.mono HC.out ?_
  rintro e w9 ⟨s9, rfl, hb9, hr9, hx9⟩
  have T : Hid _ := hid (W1.tef (P := createP) hgl HR.out hb9 hr9 hx9)
  have z9 := W1.zero.but hb9 (by omega)
  obtain ⟨m0, m1, m2, m3, m4, m5, m6, m7, m8, m9, m10, m11, m12⟩ := z9.cells
  obtain ⟨n0, n1, n2, n3, n4, n5, n6, n7, n8, n9, n10, n11, n12⟩ := z9.free
  have hzl := z9.lt
  clear HC hb9 hr9 hx9 z9 W1 HR
  unfold stV
  go_wp2
  refine bodyPost_ret (v := stV s9) (by simp [results, Tryz.results18, go_sem, stV, m0, m1, m2, m3, m4, m5, m6, m7, m8, m9, m10, m11, m12]) rfl ?_
  exact T.out

set_option maxRecDepth 100000 in
set_option maxHeartbeats 4000000 in
theorem fStmt1 {g : Nat} {S : Sa} {w : World} (h : Rf w g S 0) (hok : okS S = true) (h0 : takeB ⟨#[99, 114, 101, 97, 116, 101]⟩ S = false) (h1 : takeB ⟨#[115, 101, 108, 101, 99, 116]⟩ S = true) : Calls Tryz.prog 18 #[.pointer (some ⟨g, 0, none⟩)] w (TfF g w (runP stmtP S)) := by
  have hgl := h.lt
  have W0 := Wf.start h
  have HR : Hid (runP stmtP S = runP (plain queryP) (S)) := hid ((disp_false h0).trans (is_true h1))
  clear h
  go_enter Tryz.func18, Tryz.ntmps18
  have HT1 := fTake_any W0.rf ⟨#[99, 114, 101, 97, 116, 101]⟩
  rw [h0, takeB_false h0] at HT1
  replace HT1 : Hid _ := hid HT1
  go_wp2_with fail
  refine Calls.mono HT1.out ?_
  rintro e w1 ⟨rfl, hr1, hb1⟩
  have W1 := W0.on hgl hr1 hb1
  clear HT1 hr1 hb1 W0
  have HT2 : Hid _ := hid (fIs_any W1.rf ⟨#[115, 101, 108, 101, 99, 116]⟩)
  go_wp2_with fail
  refine Calls.mono HT2.out ?_
  rintro e w2 ⟨B, rfl, hb2, hB⟩
  obtain rfl : B = true := (hB hok).trans h1
  have W2 := W1.on hgl (W1.rf.later hb2) (But.of hb2)
  clear HT2 hb2 hB W1
  have HC : Hid _ := hid (fSelected_any W2.rf)
  go_wp2_with fail
  refine Calls.mono HC.out ?_
  rintro e w9 ⟨s9, rfl, hb9, hr9, hx9⟩
  have T : Hid _ := hid (W2.teg (P := queryP) hgl HR.out hb9 hr9 hx9)
  have z9 := W2.zero.but hb9 (by omega)
  obtain ⟨m0, m1, m2, m3, m4, m5, m6, m7, m8, m9, m10, m11, m12⟩ := z9.cells
  obtain ⟨n0, n1, n2, n3, n4, n5, n6, n7, n8, n9, n10, n11, n12⟩ := z9.free
  have hzl := z9.lt
  clear HC hb9 hr9 hx9 z9 W2 HR
  unfold stV
  go_wp2
  refine bodyPost_ret (v := stV s9) (by simp [results, Tryz.results18, go_sem, stV, m0, m1, m2, m3, m4, m5, m6, m7, m8, m9, m10, m11, m12]) rfl ?_
  exact T.out

set_option maxRecDepth 100000 in
set_option maxHeartbeats 4000000 in
theorem fStmt2 {g : Nat} {S : Sa} {w : World} (h : Rf w g S 0) (hok : okS S = true) (h0 : takeB ⟨#[99, 114, 101, 97, 116, 101]⟩ S = false) (h1 : takeB ⟨#[115, 101, 108, 101, 99, 116]⟩ S = false) (h2 : takeB ⟨#[98, 101, 103, 105, 110]⟩ S = true) : Calls Tryz.prog 18 #[.pointer (some ⟨g, 0, none⟩)] w (TfF g w (runP stmtP S)) := by
  have hgl := h.lt
  have W0 := Wf.start h
  have HR : Hid (runP stmtP S = runP (onlyP 9) (takeS ⟨#[98, 101, 103, 105, 110]⟩ S)) := hid ((disp_false h0).trans ((is_false h1).trans (disp_true h2)))
  clear h
  go_enter Tryz.func18, Tryz.ntmps18
  have HT1 := fTake_any W0.rf ⟨#[99, 114, 101, 97, 116, 101]⟩
  rw [h0, takeB_false h0] at HT1
  replace HT1 : Hid _ := hid HT1
  go_wp2_with fail
  refine Calls.mono HT1.out ?_
  rintro e w1 ⟨rfl, hr1, hb1⟩
  have W1 := W0.on hgl hr1 hb1
  clear HT1 hr1 hb1 W0
  have HT2 : Hid _ := hid (fIs_any W1.rf ⟨#[115, 101, 108, 101, 99, 116]⟩)
  go_wp2_with fail
  refine Calls.mono HT2.out ?_
  rintro e w2 ⟨B, rfl, hb2, hB⟩
  obtain rfl : B = false := (hB hok).trans h1
  have W2 := W1.on hgl (W1.rf.later hb2) (But.of hb2)
  clear HT2 hb2 hB W1
  have HT3 := fTake_any W2.rf ⟨#[98, 101, 103, 105, 110]⟩
  rw [h2] at HT3
  replace HT3 : Hid _ := hid HT3
  go_wp2_with fail
  refine Calls.mono HT3.out ?_
  rintro e w3 ⟨rfl, hr3, hb3⟩
  have W3 := W2.on hgl hr3 hb3
  clear HT3 hr3 hb3 W2
  have T : Hid _ := hid (TfF.fin (R := runP stmtP S) (s := zS 9) hgl W3.but (by rw [HR.out, (only_run 9 _).1]; exact W3.rf) fun m r e => by
    rw [HR.out] at e
    rw [(only_run 9 _).2 m r e]
    exact ⟨IsS.zero _ _ 9, RowIs.nil _ _ _⟩)
  have z9 := W3.zero
  obtain ⟨m0, m1, m2, m3, m4, m5, m6, m7, m8, m9, m10, m11, m12⟩ := z9.cells
  obtain ⟨n0, n1, n2, n3, n4, n5, n6, n7, n8, n9, n10, n11, n12⟩ := z9.free
  have hzl := z9.lt
  clear z9 W3 HR
  go_wp2
  refine bodyPost_ret (v := stV (zS 9)) (by simp [results, Tryz.results18, go_sem, stV, m0, m1, m2, m3, m4, m5, m6, m7, m8, m9, m10, m11, m12]) rfl ?_
  exact T.out

set_option maxRecDepth 100000 in
set_option maxHeartbeats 4000000 in
theorem fStmt3 {g : Nat} {S : Sa} {w : World} (h : Rf w g S 0) (hok : okS S = true) (h0 : takeB ⟨#[99, 114, 101, 97, 116, 101]⟩ S = false) (h1 : takeB ⟨#[115, 101, 108, 101, 99, 116]⟩ S = false) (h2 : takeB ⟨#[98, 101, 103, 105, 110]⟩ S = false) (h3 : takeB ⟨#[99, 111, 109, 109, 105, 116]⟩ S = true) : Calls Tryz.prog 18 #[.pointer (some ⟨g, 0, none⟩)] w (TfF g w (runP stmtP S)) := by
  have hgl := h.lt
  have W0 := Wf.start h
  have HR : Hid (runP stmtP S = runP (onlyP 10) (takeS ⟨#[99, 111, 109, 109, 105, 116]⟩ S)) := hid ((disp_false h0).trans ((is_false h1).trans ((disp_false h2).trans (disp_true h3))))
  clear h
  go_enter Tryz.func18, Tryz.ntmps18
  have HT1 := fTake_any W0.rf ⟨#[99, 114, 101, 97, 116, 101]⟩
  rw [h0, takeB_false h0] at HT1
  replace HT1 : Hid _ := hid HT1
  go_wp2_with fail
  refine Calls.mono HT1.out ?_
  rintro e w1 ⟨rfl, hr1, hb1⟩
  have W1 := W0.on hgl hr1 hb1
  clear HT1 hr1 hb1 W0
  have HT2 : Hid _ := hid (fIs_any W1.rf ⟨#[115, 101, 108, 101, 99, 116]⟩)
  go_wp2_with fail
  refine Calls.mono HT2.out ?_
  rintro e w2 ⟨B, rfl, hb2, hB⟩
  obtain rfl : B = false := (hB hok).trans h1
  have W2 := W1.on hgl (W1.rf.later hb2) (But.of hb2)
  clear HT2 hb2 hB W1
  have HT3 := fTake_any W2.rf ⟨#[98, 101, 103, 105, 110]⟩
  rw [h2, takeB_false h2] at HT3
  replace HT3 : Hid _ := hid HT3
  go_wp2_with fail
  refine Calls.mono HT3.out ?_
  rintro e w3 ⟨rfl, hr3, hb3⟩
  have W3 := W2.on hgl hr3 hb3
  clear HT3 hr3 hb3 W2
  have HT4 := fTake_any W3.rf ⟨#[99, 111, 109, 109, 105, 116]⟩
  rw [h3] at HT4
  replace HT4 : Hid _ := hid HT4
  go_wp2_with fail
  refine Calls.mono HT4.out ?_
  rintro e w4 ⟨rfl, hr4, hb4⟩
  have W4 := W3.on hgl hr4 hb4
  clear HT4 hr4 hb4 W3
  have T : Hid _ := hid (TfF.fin (R := runP stmtP S) (s := zS 10) hgl W4.but (by rw [HR.out, (only_run 10 _).1]; exact W4.rf) fun m r e => by
    rw [HR.out] at e
    rw [(only_run 10 _).2 m r e]
    exact ⟨IsS.zero _ _ 10, RowIs.nil _ _ _⟩)
  have z9 := W4.zero
  obtain ⟨m0, m1, m2, m3, m4, m5, m6, m7, m8, m9, m10, m11, m12⟩ := z9.cells
  obtain ⟨n0, n1, n2, n3, n4, n5, n6, n7, n8, n9, n10, n11, n12⟩ := z9.free
  have hzl := z9.lt
  clear z9 W4 HR
  go_wp2
  refine bodyPost_ret (v := stV (zS 10)) (by simp [results, Tryz.results18, go_sem, stV, m0, m1, m2, m3, m4, m5, m6, m7, m8, m9, m10, m11, m12]) rfl ?_
  exact T.out

set_option maxRecDepth 100000 in
set_option maxHeartbeats 4000000 in
theorem fStmt4 {g : Nat} {S : Sa} {w : World} (h : Rf w g S 0) (hok : okS S = true) (h0 : takeB ⟨#[99, 114, 101, 97, 116, 101]⟩ S = false) (h1 : takeB ⟨#[115, 101, 108, 101, 99, 116]⟩ S = false) (h2 : takeB ⟨#[98, 101, 103, 105, 110]⟩ S = false) (h3 : takeB ⟨#[99, 111, 109, 109, 105, 116]⟩ S = false) (h4 : takeB ⟨#[114, 111, 108, 108, 98, 97, 99, 107]⟩ S = true) : Calls Tryz.prog 18 #[.pointer (some ⟨g, 0, none⟩)] w (TfF g w (runP stmtP S)) := by
  have hgl := h.lt
  have W0 := Wf.start h
  have HR : Hid (runP stmtP S = runP (onlyP 11) (takeS ⟨#[114, 111, 108, 108, 98, 97, 99, 107]⟩ S)) := hid ((disp_false h0).trans ((is_false h1).trans ((disp_false h2).trans ((disp_false h3).trans (disp_true h4)))))
  clear h
  go_enter Tryz.func18, Tryz.ntmps18
  have HT1 := fTake_any W0.rf ⟨#[99, 114, 101, 97, 116, 101]⟩
  rw [h0, takeB_false h0] at HT1
  replace HT1 : Hid _ := hid HT1
  go_wp2_with fail
  refine Calls.mono HT1.out ?_
  rintro e w1 ⟨rfl, hr1, hb1⟩
  have W1 := W0.on hgl hr1 hb1
  clear HT1 hr1 hb1 W0
  have HT2 : Hid _ := hid (fIs_any W1.rf ⟨#[115, 101, 108, 101, 99, 116]⟩)
  go_wp2_with fail
  refine Calls.mono HT2.out ?_
  rintro e w2 ⟨B, rfl, hb2, hB⟩
  obtain rfl : B = false := (hB hok).trans h1
  have W2 := W1.on hgl (W1.rf.later hb2) (But.of hb2)
  clear HT2 hb2 hB W1
  have HT3 := fTake_any W2.rf ⟨#[98, 101, 103, 105, 110]⟩
  rw [h2, takeB_false h2] at HT3
  replace HT3 : Hid _ := hid HT3
  go_wp2_with fail
  refine Calls.mono HT3.out ?_
  rintro e w3 ⟨rfl, hr3, hb3⟩
  have W3 := W2.on hgl hr3 hb3
  clear HT3 hr3 hb3 W2
  have HT4 := fTake_any W3.rf ⟨#[99, 111, 109, 109, 105, 116]⟩
  rw [h3, takeB_false h3] at HT4
  replace HT4 : Hid _ := hid HT4
  go_wp2_with fail
  refine Calls.mono HT4.out ?_
  rintro e w4 ⟨rfl, hr4, hb4⟩
  have W4 := W3.on hgl hr4 hb4
  clear HT4 hr4 hb4 W3
  have HT5 := fTake_any W4.rf ⟨#[114, 111, 108, 108, 98, 97, 99, 107]⟩
  rw [h4] at HT5
  replace HT5 : Hid _ := hid HT5
  go_wp2_with fail
  refine Calls.mono HT5.out ?_
  rintro e w5 ⟨rfl, hr5, hb5⟩
  have W5 := W4.on hgl hr5 hb5
  clear HT5 hr5 hb5 W4
  have T : Hid _ := hid (TfF.fin (R := runP stmtP S) (s := zS 11) hgl W5.but (by rw [HR.out, (only_run 11 _).1]; exact W5.rf) fun m r e => by
    rw [HR.out] at e
    rw [(only_run 11 _).2 m r e]
    exact ⟨IsS.zero _ _ 11, RowIs.nil _ _ _⟩)
  have z9 := W5.zero
  obtain ⟨m0, m1, m2, m3, m4, m5, m6, m7, m8, m9, m10, m11, m12⟩ := z9.cells
  obtain ⟨n0, n1, n2, n3, n4, n5, n6, n7, n8, n9, n10, n11, n12⟩ := z9.free
  have hzl := z9.lt
  clear z9 W5 HR
  go_wp2
  refine bodyPost_ret (v := stV (zS 11)) (by simp [results, Tryz.results18, go_sem, stV, m0, m1, m2, m3, m4, m5, m6, m7, m8, m9, m10, m11, m12]) rfl ?_
  exact T.out

set_option maxRecDepth 100000 in
set_option maxHeartbeats 4000000 in
theorem fStmt5 {g : Nat} {S : Sa} {w : World} (h : Rf w g S 0) (hok : okS S = true) (h0 : takeB ⟨#[99, 114, 101, 97, 116, 101]⟩ S = false) (h1 : takeB ⟨#[115, 101, 108, 101, 99, 116]⟩ S = false) (h2 : takeB ⟨#[98, 101, 103, 105, 110]⟩ S = false) (h3 : takeB ⟨#[99, 111, 109, 109, 105, 116]⟩ S = false) (h4 : takeB ⟨#[114, 111, 108, 108, 98, 97, 99, 107]⟩ S = false) (h5 : takeB ⟨#[114, 97, 105, 115, 101]⟩ S = true) : Calls Tryz.prog 18 #[.pointer (some ⟨g, 0, none⟩)] w (TfF g w (runP stmtP S)) := by
  have hgl := h.lt
  have W0 := Wf.start h
  have HR : Hid (runP stmtP S = runP raiseP (takeS ⟨#[114, 97, 105, 115, 101]⟩ S)) := hid ((disp_false h0).trans ((is_false h1).trans ((disp_false h2).trans ((disp_false h3).trans ((disp_false h4).trans (disp_true h5))))))
  clear h
  go_enter Tryz.func18, Tryz.ntmps18
  have HT1 := fTake_any W0.rf ⟨#[99, 114, 101, 97, 116, 101]⟩
  rw [h0, takeB_false h0] at HT1
  replace HT1 : Hid _ := hid HT1
  go_wp2_with fail
  refine Calls.mono HT1.out ?_
  rintro e w1 ⟨rfl, hr1, hb1⟩
  have W1 := W0.on hgl hr1 hb1
  clear HT1 hr1 hb1 W0
  have HT2 : Hid _ := hid (fIs_any W1.rf ⟨#[115, 101, 108, 101, 99, 116]⟩)
  go_wp2_with fail
  refine Calls.mono HT2.out ?_
  rintro e w2 ⟨B, rfl, hb2, hB⟩
  obtain rfl : B = false := (hB hok).trans h1
  have W2 := W1.on hgl (W1.rf.later hb2) (But.of hb2)
  clear HT2 hb2 hB W1
  have HT3 := fTake_any W2.rf ⟨#[98, 101, 103, 105, 110]⟩
  rw [h2, takeB_false h2] at HT3
  replace HT3 : Hid _ := hid HT3
  go_wp2_with fail
  refine Calls.mono HT3.out ?_
  rintro e w3 ⟨rfl, hr3, hb3⟩
  have W3 := W2.on hgl hr3 hb3
  clear HT3 hr3 hb3 W2
  have HT4 := fTake_any W3.rf ⟨#[99, 111, 109, 109, 105, 116]⟩
  rw [h3, takeB_false h3] at HT4
  replace HT4 : Hid _ := hid HT4
  go_wp2_with fail
  refine Calls.mono HT4.out ?_
  rintro e w4 ⟨rfl, hr4, hb4⟩
  have W4 := W3.on hgl hr4 hb4
  clear HT4 hr4 hb4 W3
  have HT5 := fTake_any W4.rf ⟨#[114, 111, 108, 108, 98, 97, 99, 107]⟩
  rw [h4, takeB_false h4] at HT5
  replace HT5 : Hid _ := hid HT5
  go_wp2_with fail
  refine Calls.mono HT5.out ?_
  rintro e w5 ⟨rfl, hr5, hb5⟩
  have W5 := W4.on hgl hr5 hb5
  clear HT5 hr5 hb5 W4
  have HT6 := fTake_any W5.rf ⟨#[114, 97, 105, 115, 101]⟩
  rw [h5] at HT6
  replace HT6 : Hid _ := hid HT6
  go_wp2_with fail
  refine Calls.mono HT6.out ?_
  rintro e w6 ⟨rfl, hr6, hb6⟩
  have W6 := W5.on hgl hr6 hb6
  clear HT6 hr6 hb6 W5
  have HC : Hid _ := hid (fTags_any W6.rf)
  go_wp2_with fail
  refine Calls.mono HC.out ?_
  rintro e w9 ⟨ao, ln, cp, rfl, hb9, hr9, hu9⟩
  have hlt := W6.lt
  have T : Hid _ := hid (TfF.fin (R := runP stmtP S) (s := { zS 12 with ta := (ao, ln, cp) }) hgl (W6.but.trans hb9) (by rw [HR.out, raise_run, stO_mapR]; exact hr9) fun m r e => by
    rw [HR.out, raise_run] at e
    obtain ⟨u, e2, rfl⟩ := mapR_inr e
    exact ⟨{ IsS.zero _ _ 12 with ta := (hu9 u r e2).mono (by decide) fun b hb _ => by omega }, RowIs.nil _ _ _⟩)
  have z9 := W6.zero.but hb9 (by omega)
  obtain ⟨m0, m1, m2, m3, m4, m5, m6, m7, m8, m9, m10, m11, m12⟩ := z9.cells
  obtain ⟨n0, n1, n2, n3, n4, n5, n6, n7, n8, n9, n10, n11, n12⟩ := z9.free
  have hzl := z9.lt
  clear HC hb9 hr9 hu9 z9 W6 HR
  go_wp2
  refine bodyPost_ret (v := stV { zS 12 with ta := (ao, ln, cp) }) (by simp [results, Tryz.results18, go_sem, stV, m0, m1, m2, m3, m4, m5, m6, m7, m8, m9, m10, m11, m12]) rfl ?_
  exact T.out

set_option maxRecDepth 100000 in
set_option maxHeartbeats 4000000 in
theorem fStmt6 {g : Nat} {S : Sa} {w : World} (h : Rf w g S 0) (hok : okS S = true) (h0 : takeB ⟨#[99, 114, 101, 97, 116, 101]⟩ S = false) (h1 : takeB ⟨#[115, 101, 108, 101, 99, 116]⟩ S = false) (h2 : takeB ⟨#[98, 101, 103, 105, 110]⟩ S = false) (h3 : takeB ⟨#[99, 111, 109, 109, 105, 116]⟩ S = false) (h4 : takeB ⟨#[114, 111, 108, 108, 98, 97, 99, 107]⟩ S = false) (h5 : takeB ⟨#[114, 97, 105, 115, 101]⟩ S = false) (h6 : takeB ⟨#[99, 97, 108, 108]⟩ S = true) : Calls Tryz.prog 18 #[.pointer (some ⟨g, 0, none⟩)] w (TfF g w (runP stmtP S)) := by
  have hgl := h.lt
  have W0 := Wf.start h
  have HR : Hid (runP stmtP S = runP callP (takeS ⟨#[99, 97, 108, 108]⟩ S)) := hid ((disp_false h0).trans ((is_false h1).trans ((disp_false h2).trans ((disp_false h3).trans ((disp_false h4).trans ((disp_false h5).trans (disp_true h6)))))))
  clear h
  go_enter Tryz.func18, Tryz.ntmps18
  have HT1 := fTake_any W0.rf ⟨#[99, 114, 101, 97, 116, 101]⟩
  rw [h0, takeB_false h0] at HT1
  replace HT1 : Hid _ := hid HT1
  go_wp2_with fail
  refine Calls.mono HT1.out ?_
  rintro e w1 ⟨rfl, hr1, hb1⟩
  have W1 := W0.on hgl hr1 hb1
  clear HT1 hr1 hb1 W0
  have HT2 : Hid _ := hid (fIs_any W1.rf ⟨#[115, 101, 108, 101, 99, 116]⟩)
  go_wp2_with fail
  refine Calls.mono HT2.out ?_
  rintro e w2 ⟨B, rfl, hb2, hB⟩
  obtain rfl : B = false := (hB hok).trans h1
  have W2 := W1.on hgl (W1.rf.later hb2) (But.of hb2)
  clear HT2 hb2 hB W1
  have HT3 := fTake_any W2.rf ⟨#[98, 101, 103, 105, 110]⟩
  rw [h2, takeB_false h2] at HT3
  replace HT3 : Hid _ := hid HT3
  go_wp2_with fail
  refine Calls.mono HT3.out ?_
  rintro e w3 ⟨rfl, hr3, hb3⟩
  have W3 := W2.on hgl hr3 hb3
  clear HT3 hr3 hb3 W2
  have HT4 := fTake_any W3.rf ⟨#[99, 111, 109, 109, 105, 116]⟩
  rw [h3, takeB_false h3] at HT4
  replace HT4 : Hid _ := hid HT4
  go_wp2_with fail
  refine Calls.mono HT4.out ?_
  rintro e w4 ⟨rfl, hr4, hb4⟩
  have W4 := W3.on hgl hr4 hb4
  clear HT4 hr4 hb4 W3
  have HT5 := fTake_any W4.rf ⟨#[114, 111, 108, 108, 98, 97, 99, 107]⟩
  rw [h4, takeB_false h4] at HT5
  replace HT5 : Hid _ := hid HT5
  go_wp2_with fail
  refine Calls.mono HT5.out ?_
  rintro e w5 ⟨rfl, hr5, hb5⟩
  have W5 := W4.on hgl hr5 hb5
  clear HT5 hr5 hb5 W4
  have HT6 := fTake_any W5.rf ⟨#[114, 97, 105, 115, 101]⟩
  rw [h5, takeB_false h5] at HT6
  replace HT6 : Hid _ := hid HT6
  go_wp2_with fail
  refine Calls.mono HT6.out ?_
  rintro e w6 ⟨rfl, hr6, hb6⟩
  have W6 := W5.on hgl hr6 hb6
  clear HT6 hr6 hb6 W5
  have HT7 := fTake_any W6.rf ⟨#[99, 97, 108, 108]⟩
  rw [h6] at HT7
  replace HT7 : Hid _ := hid HT7
  go_wp2_with fail
  refine Calls.mono HT7.out ?_
  rintro e w7 ⟨rfl, hr7, hb7⟩
  have W7 := W6.on hgl hr7 hb7
  clear HT7 hr7 hb7 W6
  have HC : Hid _ := hid (fName_any W7.rf)
  go_wp2_with fail
  refine Calls.mono HC.out ?_
  rintro e w9 ⟨s9, rfl, hb9, hr9, hu9⟩
  have T : Hid _ := hid (TfF.fin (R := runP stmtP S) (s := { zS 13 with nm := s9 }) hgl (W7.but.trans hb9) (by rw [HR.out, call_run, stO_mapR]; exact hr9) fun m r e => by
    rw [HR.out, call_run] at e
    obtain ⟨u, e2, rfl⟩ := mapR_inr e
    exact ⟨{ IsS.zero _ _ 13 with nm := hu9 u r e2 }, RowIs.nil _ _ _⟩)
  have z9 := W7.zero.but hb9 (by omega)
  obtain ⟨m0, m1, m2, m3, m4, m5, m6, m7, m8, m9, m10, m11, m12⟩ := z9.cells
  obtain ⟨n0, n1, n2, n3, n4, n5, n6, n7, n8, n9, n10, n11, n12⟩ := z9.free
  have hzl := z9.lt
  clear HC hb9 hr9 hu9 z9 W7 HR
  go_wp2
  refine bodyPost_ret (v := stV { zS 13 with nm := s9 }) (by simp [results, Tryz.results18, go_sem, stV, m0, m1, m2, m3, m4, m5, m6, m7, m8, m9, m10, m11, m12]) rfl ?_
  exact T.out

set_option maxRecDepth 100000 in
set_option maxHeartbeats 4000000 in
theorem fStmt7 {g : Nat} {S : Sa} {w : World} (h : Rf w g S 0) (hok : okS S = true) (h0 : takeB ⟨#[99, 114, 101, 97, 116, 101]⟩ S = false) (h1 : takeB ⟨#[115, 101, 108, 101, 99, 116]⟩ S = false) (h2 : takeB ⟨#[98, 101, 103, 105, 110]⟩ S = false) (h3 : takeB ⟨#[99, 111, 109, 109, 105, 116]⟩ S = false) (h4 : takeB ⟨#[114, 111, 108, 108, 98, 97, 99, 107]⟩ S = false) (h5 : takeB ⟨#[114, 97, 105, 115, 101]⟩ S = false) (h6 : takeB ⟨#[99, 97, 108, 108]⟩ S = false) : Calls Tryz.prog 18 #[.pointer (some ⟨g, 0, none⟩)] w (TfF g w (runP stmtP S)) := by
  have hgl := h.lt
  have W0 := Wf.start h
  have HR : Hid (runP stmtP S = runP (plain changeP) (S)) := hid ((disp_false h0).trans ((is_false h1).trans ((disp_false h2).trans ((disp_false h3).trans ((disp_false h4).trans ((disp_false h5).trans (disp_false h6)))))))
  clear h
  go_enter Tryz.func18, Tryz.ntmps18
  have HT1 := fTake_any W0.rf ⟨#[99, 114, 101, 97, 116, 101]⟩
  rw [h0, takeB_false h0] at HT1
  replace HT1 : Hid _ := hid HT1
  go_wp2_with fail
  refine Calls.mono HT1.out ?_
  rintro e w1 ⟨rfl, hr1, hb1⟩
  have W1 := W0.on hgl hr1 hb1
  clear HT1 hr1 hb1 W0
  have HT2 : Hid _ := hid (fIs_any W1.rf ⟨#[115, 101, 108, 101, 99, 116]⟩)
  go_wp2_with fail
  refine Calls.mono HT2.out ?_
  rintro e w2 ⟨B, rfl, hb2, hB⟩
  obtain rfl : B = false := (hB hok).trans h1
  have W2 := W1.on hgl (W1.rf.later hb2) (But.of hb2)
  clear HT2 hb2 hB W1
  have HT3 := fTake_any W2.rf ⟨#[98, 101, 103, 105, 110]⟩
  rw [h2, takeB_false h2] at HT3
  replace HT3 : Hid _ := hid HT3
  go_wp2_with fail
  refine Calls.mono HT3.out ?_
  rintro e w3 ⟨rfl, hr3, hb3⟩
  have W3 := W2.on hgl hr3 hb3
  clear HT3 hr3 hb3 W2
  have HT4 := fTake_any W3.rf ⟨#[99, 111, 109, 109, 105, 116]⟩
  rw [h3, takeB_false h3] at HT4
  replace HT4 : Hid _ := hid HT4
  go_wp2_with fail
  refine Calls.mono HT4.out ?_
  rintro e w4 ⟨rfl, hr4, hb4⟩
  have W4 := W3.on hgl hr4 hb4
  clear HT4 hr4 hb4 W3
  have HT5 := fTake_any W4.rf ⟨#[114, 111, 108, 108, 98, 97, 99, 107]⟩
  rw [h4, takeB_false h4] at HT5
  replace HT5 : Hid _ := hid HT5
  go_wp2_with fail
  refine Calls.mono HT5.out ?_
  rintro e w5 ⟨rfl, hr5, hb5⟩
  have W5 := W4.on hgl hr5 hb5
  clear HT5 hr5 hb5 W4
  have HT6 := fTake_any W5.rf ⟨#[114, 97, 105, 115, 101]⟩
  rw [h5, takeB_false h5] at HT6
  replace HT6 : Hid _ := hid HT6
  go_wp2_with fail
  refine Calls.mono HT6.out ?_
  rintro e w6 ⟨rfl, hr6, hb6⟩
  have W6 := W5.on hgl hr6 hb6
  clear HT6 hr6 hb6 W5
  have HT7 := fTake_any W6.rf ⟨#[99, 97, 108, 108]⟩
  rw [h6, takeB_false h6] at HT7
  replace HT7 : Hid _ := hid HT7
  go_wp2_with fail
  refine Calls.mono HT7.out ?_
  rintro e w7 ⟨rfl, hr7, hb7⟩
  have W7 := W6.on hgl hr7 hb7
  clear HT7 hr7 hb7 W6
  have HC : Hid _ := hid (fWrites_any W7.rf)
  go_wp2_with fail
  refine Calls.mono HC.out ?_
  rintro e w9 ⟨s9, rfl, hb9, hr9, hx9⟩
  have T : Hid _ := hid (W7.teg (P := changeP) hgl HR.out hb9 hr9 hx9)
  have z9 := W7.zero.but hb9 (by omega)
  obtain ⟨m0, m1, m2, m3, m4, m5, m6, m7, m8, m9, m10, m11, m12⟩ := z9.cells
  obtain ⟨n0, n1, n2, n3, n4, n5, n6, n7, n8, n9, n10, n11, n12⟩ := z9.free
  have hzl := z9.lt
  clear HC hb9 hr9 hx9 z9 W7 HR
  unfold stV
  go_wp2
  refine bodyPost_ret (v := stV s9) (by simp [results, Tryz.results18, go_sem, stV, m0, m1, m2, m3, m4, m5, m6, m7, m8, m9, m10, m11, m12]) rfl ?_
  exact T.out

theorem fStmt_any {g : Nat} {S : Sa} {w : World} (h : Rf w g S 0) (hok : okS S = true) : Calls Tryz.prog 18 #[.pointer (some ⟨g, 0, none⟩)] w (TfF g w (runP stmtP S)) := by
  cases h0 : takeB ⟨#[99, 114, 101, 97, 116, 101]⟩ S with
  | true => exact fStmt0 h hok h0
  | false =>
    cases h1 : takeB ⟨#[115, 101, 108, 101, 99, 116]⟩ S with
    | true => exact fStmt1 h hok h0 h1
    | false =>
      cases h2 : takeB ⟨#[98, 101, 103, 105, 110]⟩ S with
      | true => exact fStmt2 h hok h0 h1 h2
      | false =>
        cases h3 : takeB ⟨#[99, 111, 109, 109, 105, 116]⟩ S with
        | true => exact fStmt3 h hok h0 h1 h2 h3
        | false =>
          cases h4 : takeB ⟨#[114, 111, 108, 108, 98, 97, 99, 107]⟩ S with
          | true => exact fStmt4 h hok h0 h1 h2 h3 h4
          | false =>
            cases h5 : takeB ⟨#[114, 97, 105, 115, 101]⟩ S with
            | true => exact fStmt5 h hok h0 h1 h2 h3 h4 h5
            | false =>
              cases h6 : takeB ⟨#[99, 97, 108, 108]⟩ S with
              | true => exact fStmt6 h hok h0 h1 h2 h3 h4 h5 h6
              | false =>
                exact fStmt7 h hok h0 h1 h2 h3 h4 h5 h6

end Go.Proofs.YtjlmcnbmhgabpaaGreat

/- The walk of the document's Parse. -/
namespace Go.Proofs.YtjlmcnbmhgabpaaGreat
open Go.RowKit
set_option linter.unusedVariables false

theorem Rf.start {w : World} {ts : List Tk} {ao : Option Addr} {n c : Nat} (h : RdT w ao n c ts) (he : Ended ts) (hf : ts.length ≤ 500) : Rf (w.alloc (.cells #[.slice ao n c, .int .i64 0, .int .i64 0, .int .i64 0, .int .i64 0] 51)) w.heap.size (.inr ts) 0 := by
  have hp : 0 < n := by have := he.pos; rw [h.len] at this; exact this
  obtain ⟨b, o, rfl, hc⟩ := h.cells hp
  have hb : b < w.heap.size := World.block_lt_of_cell? _ _ (hc 0 hp).1
  exact Rf.of_ok (n := 0) (all := ts) (by simp) ⟨he, by omega⟩ ⟨heap_alloc_new w _⟩ ⟨hb, hf, h.later (bal (Below.refl _ w) _), hp⟩
theorem parse_fault {ts : List Tk} {x : Int × Int} (h : stO (stmtP ts) = .inl x) : parseW ts = .inl x := by
  rw [parseW]
  cases hs : stmtP ts with
  | inl y => rw [hs] at h; cases h; rfl
  | inr y => rw [hs] at h; cases h
theorem parse_end {ts us : List Tk} (h : stO (stmtP ts) = .inr us) (h6 : kdOf us = 6) : ∃ m, stmtP ts = .inr (m, us) ∧ parseW ts = .inr (m, us) := by
  obtain ⟨m, hm⟩ := stO_inr h
  refine ⟨m, hm, ?_⟩
  rw [parseW, hm]
  show (if kdOf us = 6 then _ else _) = _
  rw [if_pos h6]
theorem parse_more {ts us : List Tk} (h : stO (stmtP ts) = .inr us) (h6 : kdOf us ≠ 6) : parseW ts = .inl (atOf us, 5) := by
  obtain ⟨m, hm⟩ := stO_inr h
  rw [parseW, hm]
  show (if kdOf us = 6 then _ else _) = _
  rw [if_neg h6]

set_option maxRecDepth 100000 in
set_option maxHeartbeats 8000000 in
theorem refStmt_any (s : ByteArray) (hs : s.size ≤ 9223372036854775807) (w : World) : Calls Tryz.prog 9 #[.string s] w (TeP s w) := by
  have HL : Hid _ := hid (refLex_any s hs (w.alloc (.cells #[.int .i64 0, .string ⟨#[]⟩, .string ⟨#[]⟩, .slice none 0 0, .slice none 0 0, .slice none 0 0, .slice none 0 0, .string ⟨#[]⟩, .slice none 0 0, .slice none 0 0, .slice none 0 0, .bool false, .slice none 0 0] 29)))
  have b0 := Bs.new w (zS 0)
  go_enter Tryz.func9, Tryz.ntmps9
  go_wp2_with fail
  refine Calls.mono HL.out ?_
  rintro e w1 ⟨ao, n, c, ts, a1, e1, rfl, hrd, hlx, hb1⟩
  have z1 := b0.later hb1
  have hB1 : Below w.heap.size w w1 := ((Below.refl _ w).alloc (Nat.le_refl _) _).trans (hb1.mono (by simp))
  have hsz1 : w.heap.size < w1.heap.size := z1.lt
  clear HL b0 hb1
  by_cases he : e1 = 0
  · subst he
    obtain ⟨hen, hfw, rfl⟩ := hlx.ended rfl
    have hr2 := Rf.start hrd hen hfw
    have HX : Hid _ := hid hlx
    have z2 := z1.later (bal (Below.refl _ _) (.cells #[.slice ao n c, .int .i64 0, .int .i64 0, .int .i64 0, .int .i64 0] 51))
    have hB2 := hB1.alloc hB1.size (.cells #[.slice ao n c, .int .i64 0, .int .i64 0, .int .i64 0, .int .i64 0] 51)
    have HS : Hid _ := hid (fStmt_any hr2 rfl)
    clear hlx hrd hen hfw z1 hr2
    go_wp2_with fail
    refine Calls.mono HS.out ?_
    rintro e w3 ⟨s3, rfl, hb3, hr3, hx3⟩
    have z3 := z2.but hb3 (by omega)
    have hB3 := but_below hB2 hb3 (by omega)
    have hsz3 := hb3.size
    rw [World.size_alloc] at hsz3
    have z4 := z3.later (bal (Below.refl _ w3) (.cells #[.int .i64 s3.k, .string s3.tb, .string s3.nm, .slice s3.co.1 s3.co.2.1 s3.co.2.2, .slice s3.ta.1 s3.ta.2.1 s3.ta.2.2, .slice s3.va.1 s3.va.2.1 s3.va.2.2, .slice s3.it.1 s3.it.2.1 s3.it.2.2, .string s3.jn, .slice s3.on.1 s3.on.2.1 s3.on.2.2, .slice s3.wh.1 s3.wh.2.1 s3.wh.2.2, .slice s3.od.1 s3.od.2.1 s3.od.2.2, .bool s3.ds, .slice s3.inn.1 s3.inn.2.1 s3.inn.2.2] 29))
    have hr4 := hr3.alloc (.cells #[.int .i64 s3.k, .string s3.tb, .string s3.nm, .slice s3.co.1 s3.co.2.1 s3.co.2.2, .slice s3.ta.1 s3.ta.2.1 s3.ta.2.2, .slice s3.va.1 s3.va.2.1 s3.va.2.2, .slice s3.it.1 s3.it.2.1 s3.it.2.2, .string s3.jn, .slice s3.on.1 s3.on.2.1 s3.on.2.2, .slice s3.wh.1 s3.wh.2.1 s3.wh.2.2, .slice s3.od.1 s3.od.2.1 s3.od.2.2, .bool s3.ds, .slice s3.inn.1 s3.inn.2.1 s3.inn.2.2] 29)
    have hB4 := hB3.alloc hB3.size (.cells #[.int .i64 s3.k, .string s3.tb, .string s3.nm, .slice s3.co.1 s3.co.2.1 s3.co.2.2, .slice s3.ta.1 s3.ta.2.1 s3.ta.2.2, .slice s3.va.1 s3.va.2.1 s3.va.2.2, .slice s3.it.1 s3.it.2.1 s3.it.2.2, .string s3.jn, .slice s3.on.1 s3.on.2.1 s3.on.2.2, .slice s3.wh.1 s3.wh.2.1 s3.wh.2.2, .slice s3.od.1 s3.od.2.1 s3.od.2.2, .bool s3.ds, .slice s3.inn.1 s3.inn.2.1 s3.inn.2.2] 29)
    have x4 := Bs.new w3 s3
    have HX4 : Hid (∀ m r, stmtP ts = .inr (m, r) → IsS (fun b => w1.heap.size + 1 ≤ b) (w3.alloc (.cells #[.int .i64 s3.k, .string s3.tb, .string s3.nm, .slice s3.co.1 s3.co.2.1 s3.co.2.2, .slice s3.ta.1 s3.ta.2.1 s3.ta.2.2, .slice s3.va.1 s3.va.2.1 s3.va.2.2, .slice s3.it.1 s3.it.2.1 s3.it.2.2, .string s3.jn, .slice s3.on.1 s3.on.2.1 s3.on.2.2, .slice s3.wh.1 s3.wh.2.1 s3.wh.2.2, .slice s3.od.1 s3.od.2.1 s3.od.2.2, .bool s3.ds, .slice s3.inn.1 s3.inn.2.1 s3.inn.2.2] 29)) m.1 s3 ∧ RowIs eStmt (fun b => w1.heap.size + 1 ≤ b) (w3.alloc (.cells #[.int .i64 s3.k, .string s3.tb, .string s3.nm, .slice s3.co.1 s3.co.2.1 s3.co.2.2, .slice s3.ta.1 s3.ta.2.1 s3.ta.2.2, .slice s3.va.1 s3.va.2.1 s3.va.2.2, .slice s3.it.1 s3.it.2.1 s3.it.2.2, .string s3.jn, .slice s3.on.1 s3.on.2.1 s3.on.2.2, .slice s3.wh.1 s3.wh.2.1 s3.wh.2.2, .slice s3.od.1 s3.od.2.1 s3.od.2.2, .bool s3.ds, .slice s3.inn.1 s3.inn.2.1 s3.inn.2.2] 29)) (slV s3.inn) m.2) := hid fun m r e => by
      obtain ⟨h1, h2⟩ := hx3 m r e
      simp only [World.size_alloc] at h1 h2
      exact ⟨h1.keep fun b hq hlt => (bal (Below.refl _ w3) _).block b hlt, h2.keep (by decide) fun b hq hlt => (bal (Below.refl _ w3) _).block b hlt⟩
    have hst : stO (runP stmtP (.inr ts)) = stO (stmtP ts) := rfl
    rw [hst] at hr4
    clear HS hb3 hr3 hx3 hB2 hB3 z2 z3 hst
    unfold stV
    go_upto_region 6 with fail
    generalize w3.alloc (.cells #[.int .i64 s3.k, .string s3.tb, .string s3.nm, .slice s3.co.1 s3.co.2.1 s3.co.2.2, .slice s3.ta.1 s3.ta.2.1 s3.ta.2.2, .slice s3.va.1 s3.va.2.1 s3.va.2.2, .slice s3.it.1 s3.it.2.1 s3.it.2.2, .string s3.jn, .slice s3.on.1 s3.on.2.1 s3.on.2.2, .slice s3.wh.1 s3.wh.2.1 s3.wh.2.2, .slice s3.od.1 s3.od.2.1 s3.od.2.2, .bool s3.ds, .slice s3.inn.1 s3.inn.2.1 s3.inn.2.2] 29) = w4 at *
    generalize w3.heap.size = q at *
    generalize w1.heap.size = g at *
    cases hST : stO (stmtP ts) with
    | inl x =>
      rw [hST] at hr4
      have HF : Hid _ := hid (parse_fault hST)
      have hr6 := hr4
      have z6 := z4
      have hB6 := hB4
      clear hST hr4 z4 hB4 HX4 x4
      obtain ⟨b', o', N', c', n', all', d', hx2, -, -, hq, -⟩ := Rf.bad (x := x) hr6
      obtain ⟨c0, c1, c2, c3, c4⟩ := hq.cells
      have g3 : (x.2 != 0) = true := by simpa using hx2
      have g4 : (x.2 == 0) = false := by simpa using hx2
      have hgl6 := hr6.lt
      obtain ⟨m0, m1, m2, m3, m4, m5, m6, m7, m8, m9, m10, m11, m12⟩ := z6.cells
      obtain ⟨n0, n1, n2, n3, n4, n5, n6, n7, n8, n9, n10, n11, n12⟩ := z6.free
      have hzl := z6.lt
      have HF2 : Hid (PaR s none x.1 x.2) := hid ⟨ts, 0, 0, HX.out, .inr ⟨rfl, .inl ⟨x, HF.out, rfl, rfl, rfl, hx2⟩⟩⟩
      have hB8 : Hid (Below w.heap.size w (set13 w4 w.heap.size (zS 0)).drew) := hid (set13_below hB6 (zS 0)).drew
      clear HX HF hx2 hB6 z6 hq hr6
      go_upto_region 9 with fail
      go_region
      all_goals
        go_wp2
        refine bodyPost_ret (v := .tuple #[stV (zS 0), .int .i64 x.1, .int .i64 x.2]) (by simp [results, Tryz.results9, go_sem, stV, m0, m1, m2, m3, m4, m5, m6, m7, m8, m9, m10, m11, m12]) rfl ?_
        exact ⟨zS 0, none, x.1, x.2, rfl, hB8.out, HF2.out, fun _ => rfl, fun m e => by cases e⟩
    | inr us =>
      rw [hST] at hr4
      have HN : Hid _ := hid (fNow_any hr4)
      have hf := fld_kind
      unfold TfNow tkA at HN
      obtain ⟨b', o', N', c', n', all', -, hend, hq, -⟩ := hr4.ok
      obtain ⟨c0, c1, c2, c3, c4⟩ := hq.cells
      have hgl4 := hr4.lt
      clear hq
      match us, hST, hr4, hend, HN with
      | [], hST, hr4, hend, HN => exact hend.1.elim
      | t :: us, hST, hr4, hend, HN =>
        clear hend
        by_cases h6 : t.1 = 6
        · obtain ⟨m, hm, hP⟩ := parse_end hST h6
          have HF : Hid (PaR s (some m) 0 0) := hid ⟨ts, 0, 0, HX.out, .inr ⟨rfl, .inr ⟨m, _, hP, rfl, rfl, rfl⟩⟩⟩
          go_wp2_with fail
          refine Calls.mono HN.out ?_
          rintro e w5 ⟨t', rfl, hb5, ht⟩
          obtain rfl : t' = t := ht rfl
          obtain ⟨t0, t1, t2, t3⟩ := t'
          replace h6 : t0 = 6 := h6
          subst h6
          have hr6 := hr4.later hb5
          have z6 := z4.later hb5
          have x6 := x4.later hb5
          have hB6 : Below w.heap.size w w5 := hB4.trans (hb5.mono (by have := z4.lt; omega))
          obtain ⟨b'', o'', N'', c'', n'', all'', -, -, hq, -⟩ := hr6.ok
          obtain ⟨d0, d1, d2, d3, d4⟩ := hq.cells
          have hgl6 := hr6.lt
          obtain ⟨k0, k1, k2, k3, k4, k5, k6, k7, k8, k9, k10, k11, k12⟩ := x6.cells
          have hxl := x6.lt
          obtain ⟨m0, m1, m2, m3, m4, m5, m6, m7, m8, m9, m10, m11, m12⟩ := z6.cells
          obtain ⟨n0, n1, n2, n3, n4, n5, n6, n7, n8, n9, n10, n11, n12⟩ := z6.free
          have hzl := z6.lt
          have T : Hid (IsS (fun b => w.heap.size ≤ b) (set13 w5 w.heap.size s3) m.1 s3 ∧ RowIs eStmt (fun b => w.heap.size ≤ b) (set13 w5 w.heap.size s3) (slV s3.inn) m.2) := hid (by
            obtain ⟨h1, h2⟩ := HX4.out m _ hm
            exact ⟨((h1.keep fun b hq hlt => hb5.block b hlt).keep fun b hq hlt => set13_heap _ _ _ (by omega)).mono fun b hb _ => by omega, ((h2.keep (by decide) fun b hq hlt => hb5.block b hlt).keep (by decide) fun b hq hlt => set13_heap _ _ _ (by omega)).mono (by decide) fun b hb _ => by omega⟩)
          have hB7 : Hid _ := hid (set13_below hB6 s3)
          clear HN HX HX4 hST hm hP hr4 hr6 hq hb5 hB4 hB6 z4 z6 x4 x6 ht c0 c1 c2 c3 c4
          go_wp2
          refine bodyPost_ret (v := .tuple #[stV s3, .int .i64 0, .int .i64 0]) (by simp [results, Tryz.results9, go_sem, stV, m0, m1, m2, m3, m4, m5, m6, m7, m8, m9, m10, m11, m12]) rfl ?_
          exact ⟨s3, some m, 0, 0, rfl, hB7.out, HF.out, fun e => (by cases e), fun m' e => by cases e; exact T.out⟩
        · have HF : Hid _ := hid (parse_more hST h6)
          go_wp2_with fail
          refine Calls.mono HN.out ?_
          rintro e w5 ⟨t', rfl, hb5, ht⟩
          obtain rfl : t' = t := ht rfl
          obtain ⟨t0, t1, t2, t3⟩ := t'
          replace h6 : t0 ≠ 6 := h6
          have g6 : (t0 != 6) = true := by simpa using h6
          have hr5 := hr4.later hb5
          have z5 := z4.later hb5
          have hB5 : Below w.heap.size w w5 := hB4.trans (hb5.mono (by have := z4.lt; omega))
          have HFl : Hid _ := hid (fFail_any hr5 5 (by decide))
          clear HN HX4 hST hr4 hr5 hb5 hB4 z4 x4 ht c0 c1 c2 c3 c4 h6
          go_wp2_with fail
          refine Calls.mono HFl.out ?_
          rintro e w6 ⟨rfl, hr6, hb6⟩
          have z6 := z5.but hb6 (by omega)
          have hB6 := but_below hB5 hb6 (by omega)
          rw [show failS 5 (.inr ((t0, t1, t2, t3) :: us)) = .inl (t3, 5) from rfl] at hr6
          replace HF : Hid (parseW ts = .inl (t3, 5)) := HF
          generalize hx : ((t3, 5) : Int × Int) = x at *
          clear HFl hb6 z5 hB5 hx
          obtain ⟨b', o', N', c', n', all', d', hx2, -, -, hq, -⟩ := Rf.bad (x := x) hr6
          obtain ⟨c0, c1, c2, c3, c4⟩ := hq.cells
          have g3 : (x.2 != 0) = true := by simpa using hx2
          have g4 : (x.2 == 0) = false := by simpa using hx2
          have hgl6 := hr6.lt
          obtain ⟨m0, m1, m2, m3, m4, m5, m6, m7, m8, m9, m10, m11, m12⟩ := z6.cells
          obtain ⟨n0, n1, n2, n3, n4, n5, n6, n7, n8, n9, n10, n11, n12⟩ := z6.free
          have hzl := z6.lt
          have HF2 : Hid (PaR s none x.1 x.2) := hid ⟨ts, 0, 0, HX.out, .inr ⟨rfl, .inl ⟨x, HF.out, rfl, rfl, rfl, hx2⟩⟩⟩
          have hB8 : Hid (Below w.heap.size w (set13 w6 w.heap.size (zS 0)).drew) := hid (set13_below hB6 (zS 0)).drew
          clear HX HF hx2 hB6 z6 hq hr6
          go_upto_region 9 with fail
          go_region
          all_goals
            go_wp2
            refine bodyPost_ret (v := .tuple #[stV (zS 0), .int .i64 x.1, .int .i64 x.2]) (by simp [results, Tryz.results9, go_sem, stV, m0, m1, m2, m3, m4, m5, m6, m7, m8, m9, m10, m11, m12]) rfl ?_
            exact ⟨zS 0, none, x.1, x.2, rfl, hB8.out, HF2.out, fun _ => rfl, fun m e => by cases e⟩
  · have g1 : (e1 != 0) = true := by simpa using he
    have HF : Hid (PaR s none a1 e1) := hid ⟨ts, a1, e1, hlx, .inl ⟨he, rfl, rfl, rfl⟩⟩
    obtain ⟨m0, m1, m2, m3, m4, m5, m6, m7, m8, m9, m10, m11, m12⟩ := z1.cells
    obtain ⟨n0, n1, n2, n3, n4, n5, n6, n7, n8, n9, n10, n11, n12⟩ := z1.free
    have hB7 : Hid _ := hid (set13_below hB1 (zS 0))
    clear hlx hrd he hB1 z1
    go_wp2
    refine bodyPost_ret (v := .tuple #[stV (zS 0), .int .i64 a1, .int .i64 e1]) (by simp [results, Tryz.results9, go_sem, stV, m0, m1, m2, m3, m4, m5, m6, m7, m8, m9, m10, m11, m12]) rfl ?_
    exact ⟨zS 0, none, a1, e1, rfl, hB7.out, HF.out, fun _ => rfl, fun m e => by cases e⟩

end Go.Proofs.YtjlmcnbmhgabpaaGreat

