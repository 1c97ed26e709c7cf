import Derived.Test.YtnboooaockgoiaaGreatDoorPao
import Derived.Test.YtnboooaockgoiaaGreatDoorPak
namespace Go.Proofs.YtnboooaockgoiaaGreatDoor
open Go.RowKit
set_option linter.unusedVariables false

set_option maxRecDepth 100000 in
set_option maxHeartbeats 4000000 in
theorem fStmt0 {g : Nat} {S : Sa} {w : World} (h : Rf w g S 0) (hok : okSe S = true) (h0 : takeB ⟨#[99, 114, 101, 97, 116, 101]⟩ S = true) : Calls Tryz.prog 38 #[.pointer (some ⟨g, 0, none⟩)] w (TfF g w (runP stmtP S)) := by
  have hgl := h.lt
  have W0 := Wf.start h
  have HR : Hid (runP stmtP S = runP createP (takeS ⟨#[99, 114, 101, 97, 116, 101]⟩ S)) := hid (disp_true h0)
  clear h
  go_enter Tryz.func38, Tryz.ntmps38

  have HT1 := fTake_any W0.rf ⟨#[99, 114, 101, 97, 116, 101]⟩
  rw [h0] at HT1
  replace HT1 : Hid _ := hid HT1
  go_wp2_with fail
  refine Calls.mono HT1.out ?_
  rintro e w1 ⟨rfl, hr1, hb1⟩
  have W1 := W0.on hgl hr1 hb1
  clear HT1 hr1 hb1 W0
  have HC : Hid _ := hid (fCreate_any W1.rf)
  go_wp2_with fail
  refine Calls.mono HC.out ?_
  rintro e w9 ⟨s9, rfl, hb9, hr9, hx9⟩
  have T : Hid _ := hid (W1.tef (P := createP) hgl HR.out hb9 hr9 hx9)
  have z9 := W1.zero.but hb9 (by omega)
  obtain ⟨m0, m1, m2, m3, m4, m5, m6, m7, m8, m9, m10, m11, m12⟩ := z9.cells
  obtain ⟨n0, n1, n2, n3, n4, n5, n6, n7, n8, n9, n10, n11, n12⟩ := z9.free
  have hzl := z9.lt
  clear HC hb9 hr9 hx9 z9 W1 HR
  unfold stV
  go_wp2
  refine bodyPost_ret (v := stV s9) (by simp [results, Tryz.results38, go_sem, stV, m0, m1, m2, m3, m4, m5, m6, m7, m8, m9, m10, m11, m12]) rfl ?_
  exact T.out

set_option maxRecDepth 100000 in
set_option maxHeartbeats 4000000 in
theorem fStmt1 {g : Nat} {S : Sa} {w : World} (h : Rf w g S 0) (hok : okSe S = true) (h0 : takeB ⟨#[99, 114, 101, 97, 116, 101]⟩ S = false) (h1 : takeB ⟨#[115, 101, 108, 101, 99, 116]⟩ S = true) : Calls Tryz.prog 38 #[.pointer (some ⟨g, 0, none⟩)] w (TfF g w (runP stmtP S)) := by
  have hgl := h.lt
  have W0 := Wf.start h
  have HR : Hid (runP stmtP S = runP (plain queryP) (S)) := hid ((disp_false h0).trans (is_true h1))
  clear h
  go_enter Tryz.func38, Tryz.ntmps38
  have HT1 := fTake_any W0.rf ⟨#[99, 114, 101, 97, 116, 101]⟩
  rw [h0, takeB_false h0] at HT1
  replace HT1 : Hid _ := hid HT1
  go_wp2_with fail
  refine Calls.mono HT1.out ?_
  rintro e w1 ⟨rfl, hr1, hb1⟩
  have W1 := W0.on hgl hr1 hb1
  clear HT1 hr1 hb1 W0
  have HT2 : Hid _ := hid (fIs_any W1.rf ⟨#[115, 101, 108, 101, 99, 116]⟩)
  go_wp2_with fail
  refine Calls.mono HT2.out ?_
  rintro e w2 ⟨B, rfl, hb2, hB⟩
  obtain rfl : B = true := (hB hok).trans h1
  have W2 := W1.on hgl (W1.rf.later hb2) (But.of hb2)
  clear HT2 hb2 hB W1
  have HC : Hid _ := hid (fSelectedE_any W2.rf)
  go_wp2_with fail
  refine Calls.mono HC.out ?_
  rintro e w9 ⟨s9, rfl, hb9, hr9, hx9⟩
  have T : Hid _ := hid (W2.teg (P := queryP) hgl HR.out hb9 hr9 hx9)
  have z9 := W2.zero.but hb9 (by omega)
  obtain ⟨m0, m1, m2, m3, m4, m5, m6, m7, m8, m9, m10, m11, m12⟩ := z9.cells
  obtain ⟨n0, n1, n2, n3, n4, n5, n6, n7, n8, n9, n10, n11, n12⟩ := z9.free
  have hzl := z9.lt
  clear HC hb9 hr9 hx9 z9 W2 HR
  unfold stV
  go_wp2
  refine bodyPost_ret (v := stV s9) (by simp [results, Tryz.results38, go_sem, stV, m0, m1, m2, m3, m4, m5, m6, m7, m8, m9, m10, m11, m12]) rfl ?_
  exact T.out

set_option maxRecDepth 100000 in
set_option maxHeartbeats 4000000 in
theorem fStmt2 {g : Nat} {S : Sa} {w : World} (h : Rf w g S 0) (hok : okSe S = true) (h0 : takeB ⟨#[99, 114, 101, 97, 116, 101]⟩ S = false) (h1 : takeB ⟨#[115, 101, 108, 101, 99, 116]⟩ S = false) (h2 : takeB ⟨#[98, 101, 103, 105, 110]⟩ S = true) : Calls Tryz.prog 38 #[.pointer (some ⟨g, 0, none⟩)] w (TfF g w (runP stmtP S)) := by
  have hgl := h.lt
  have W0 := Wf.start h
  have HR : Hid (runP stmtP S = runP (onlyP 9) (takeS ⟨#[98, 101, 103, 105, 110]⟩ S)) := hid ((disp_false h0).trans ((is_false h1).trans (disp_true h2)))
  clear h
  go_enter Tryz.func38, Tryz.ntmps38
  have HT1 := fTake_any W0.rf ⟨#[99, 114, 101, 97, 116, 101]⟩
  rw [h0, takeB_false h0] at HT1
  replace HT1 : Hid _ := hid HT1
  go_wp2_with fail
  refine Calls.mono HT1.out ?_
  rintro e w1 ⟨rfl, hr1, hb1⟩
  have W1 := W0.on hgl hr1 hb1
  clear HT1 hr1 hb1 W0
  have HT2 : Hid _ := hid (fIs_any W1.rf ⟨#[115, 101, 108, 101, 99, 116]⟩)
  go_wp2_with fail
  refine Calls.mono HT2.out ?_
  rintro e w2 ⟨B, rfl, hb2, hB⟩
  obtain rfl : B = false := (hB hok).trans h1
  have W2 := W1.on hgl (W1.rf.later hb2) (But.of hb2)
  clear HT2 hb2 hB W1
  have HT3 := fTake_any W2.rf ⟨#[98, 101, 103, 105, 110]⟩
  rw [h2] at HT3
  replace HT3 : Hid _ := hid HT3
  go_wp2_with fail
  refine Calls.mono HT3.out ?_
  rintro e w3 ⟨rfl, hr3, hb3⟩
  have W3 := W2.on hgl hr3 hb3
  clear HT3 hr3 hb3 W2
  have T : Hid _ := hid (TfF.fin (R := runP stmtP S) (s := zS 9) hgl W3.but (by rw [HR.out, (only_run 9 _).1]; exact W3.rf) fun m r e => by
    rw [HR.out] at e
    rw [(only_run 9 _).2 m r e]
    exact ⟨IsS.zero _ _ 9, RowIs.nil _ _ _⟩)
  have z9 := W3.zero
  obtain ⟨m0, m1, m2, m3, m4, m5, m6, m7, m8, m9, m10, m11, m12⟩ := z9.cells
  obtain ⟨n0, n1, n2, n3, n4, n5, n6, n7, n8, n9, n10, n11, n12⟩ := z9.free
  have hzl := z9.lt
  clear z9 W3 HR
  go_wp2
  refine bodyPost_ret (v := stV (zS 9)) (by simp [results, Tryz.results38, go_sem, stV, m0, m1, m2, m3, m4, m5, m6, m7, m8, m9, m10, m11, m12]) rfl ?_
  exact T.out

set_option maxRecDepth 100000 in
set_option maxHeartbeats 4000000 in
theorem fStmt3 {g : Nat} {S : Sa} {w : World} (h : Rf w g S 0) (hok : okSe S = true) (h0 : takeB ⟨#[99, 114, 101, 97, 116, 101]⟩ S = false) (h1 : takeB ⟨#[115, 101, 108, 101, 99, 116]⟩ S = false) (h2 : takeB ⟨#[98, 101, 103, 105, 110]⟩ S = false) (h3 : takeB ⟨#[99, 111, 109, 109, 105, 116]⟩ S = true) : Calls Tryz.prog 38 #[.pointer (some ⟨g, 0, none⟩)] w (TfF g w (runP stmtP S)) := by
  have hgl := h.lt
  have W0 := Wf.start h
  have HR : Hid (runP stmtP S = runP (onlyP 10) (takeS ⟨#[99, 111, 109, 109, 105, 116]⟩ S)) := hid ((disp_false h0).trans ((is_false h1).trans ((disp_false h2).trans (disp_true h3))))
  clear h
  go_enter Tryz.func38, Tryz.ntmps38
  have HT1 := fTake_any W0.rf ⟨#[99, 114, 101, 97, 116, 101]⟩
  rw [h0, takeB_false h0] at HT1
  replace HT1 : Hid _ := hid HT1
  go_wp2_with fail
  refine Calls.mono HT1.out ?_
  rintro e w1 ⟨rfl, hr1, hb1⟩
  have W1 := W0.on hgl hr1 hb1
  clear HT1 hr1 hb1 W0
  have HT2 : Hid _ := hid (fIs_any W1.rf ⟨#[115, 101, 108, 101, 99, 116]⟩)
  go_wp2_with fail
  refine Calls.mono HT2.out ?_
  rintro e w2 ⟨B, rfl, hb2, hB⟩
  obtain rfl : B = false := (hB hok).trans h1
  have W2 := W1.on hgl (W1.rf.later hb2) (But.of hb2)
  clear HT2 hb2 hB W1
  have HT3 := fTake_any W2.rf ⟨#[98, 101, 103, 105, 110]⟩
  rw [h2, takeB_false h2] at HT3
  replace HT3 : Hid _ := hid HT3
  go_wp2_with fail
  refine Calls.mono HT3.out ?_
  rintro e w3 ⟨rfl, hr3, hb3⟩
  have W3 := W2.on hgl hr3 hb3
  clear HT3 hr3 hb3 W2
  have HT4 := fTake_any W3.rf ⟨#[99, 111, 109, 109, 105, 116]⟩
  rw [h3] at HT4
  replace HT4 : Hid _ := hid HT4
  go_wp2_with fail
  refine Calls.mono HT4.out ?_
  rintro e w4 ⟨rfl, hr4, hb4⟩
  have W4 := W3.on hgl hr4 hb4
  clear HT4 hr4 hb4 W3
  have T : Hid _ := hid (TfF.fin (R := runP stmtP S) (s := zS 10) hgl W4.but (by rw [HR.out, (only_run 10 _).1]; exact W4.rf) fun m r e => by
    rw [HR.out] at e
    rw [(only_run 10 _).2 m r e]
    exact ⟨IsS.zero _ _ 10, RowIs.nil _ _ _⟩)
  have z9 := W4.zero
  obtain ⟨m0, m1, m2, m3, m4, m5, m6, m7, m8, m9, m10, m11, m12⟩ := z9.cells
  obtain ⟨n0, n1, n2, n3, n4, n5, n6, n7, n8, n9, n10, n11, n12⟩ := z9.free
  have hzl := z9.lt
  clear z9 W4 HR
  go_wp2
  refine bodyPost_ret (v := stV (zS 10)) (by simp [results, Tryz.results38, go_sem, stV, m0, m1, m2, m3, m4, m5, m6, m7, m8, m9, m10, m11, m12]) rfl ?_
  exact T.out

set_option maxRecDepth 100000 in
set_option maxHeartbeats 4000000 in
theorem fStmt4 {g : Nat} {S : Sa} {w : World} (h : Rf w g S 0) (hok : okSe S = true) (h0 : takeB ⟨#[99, 114, 101, 97, 116, 101]⟩ S = false) (h1 : takeB ⟨#[115, 101, 108, 101, 99, 116]⟩ S = false) (h2 : takeB ⟨#[98, 101, 103, 105, 110]⟩ S = false) (h3 : takeB ⟨#[99, 111, 109, 109, 105, 116]⟩ S = false) (h4 : takeB ⟨#[114, 111, 108, 108, 98, 97, 99, 107]⟩ S = true) : Calls Tryz.prog 38 #[.pointer (some ⟨g, 0, none⟩)] w (TfF g w (runP stmtP S)) := by
  have hgl := h.lt
  have W0 := Wf.start h
  have HR : Hid (runP stmtP S = runP (onlyP 11) (takeS ⟨#[114, 111, 108, 108, 98, 97, 99, 107]⟩ S)) := hid ((disp_false h0).trans ((is_false h1).trans ((disp_false h2).trans ((disp_false h3).trans (disp_true h4)))))
  clear h
  go_enter Tryz.func38, Tryz.ntmps38
  have HT1 := fTake_any W0.rf ⟨#[99, 114, 101, 97, 116, 101]⟩
  rw [h0, takeB_false h0] at HT1
  replace HT1 : Hid _ := hid HT1
  go_wp2_with fail
  refine Calls.mono HT1.out ?_
  rintro e w1 ⟨rfl, hr1, hb1⟩
  have W1 := W0.on hgl hr1 hb1
  clear HT1 hr1 hb1 W0
  have HT2 : Hid _ := hid (fIs_any W1.rf ⟨#[115, 101, 108, 101, 99, 116]⟩)
  go_wp2_with fail
  refine Calls.mono HT2.out ?_
  rintro e w2 ⟨B, rfl, hb2, hB⟩
  obtain rfl : B = false := (hB hok).trans h1
  have W2 := W1.on hgl (W1.rf.later hb2) (But.of hb2)
  clear HT2 hb2 hB W1
  have HT3 := fTake_any W2.rf ⟨#[98, 101, 103, 105, 110]⟩
  rw [h2, takeB_false h2] at HT3
  replace HT3 : Hid _ := hid HT3
  go_wp2_with fail
  refine Calls.mono HT3.out ?_
  rintro e w3 ⟨rfl, hr3, hb3⟩
  have W3 := W2.on hgl hr3 hb3
  clear HT3 hr3 hb3 W2
  have HT4 := fTake_any W3.rf ⟨#[99, 111, 109, 109, 105, 116]⟩
  rw [h3, takeB_false h3] at HT4
  replace HT4 : Hid _ := hid HT4
  go_wp2_with fail
  refine Calls.mono HT4.out ?_
  rintro e w4 ⟨rfl, hr4, hb4⟩
  have W4 := W3.on hgl hr4 hb4
  clear HT4 hr4 hb4 W3
  have HT5 := fTake_any W4.rf ⟨#[114, 111, 108, 108, 98, 97, 99, 107]⟩
  rw [h4] at HT5
  replace HT5 : Hid _ := hid HT5
  go_wp2_with fail
  refine Calls.mono HT5.out ?_
  rintro e w5 ⟨rfl, hr5, hb5⟩
  have W5 := W4.on hgl hr5 hb5
  clear HT5 hr5 hb5 W4
  have T : Hid _ := hid (TfF.fin (R := runP stmtP S) (s := zS 11) hgl W5.but (by rw [HR.out, (only_run 11 _).1]; exact W5.rf) fun m r e => by
    rw [HR.out] at e
    rw [(only_run 11 _).2 m r e]
    exact ⟨IsS.zero _ _ 11, RowIs.nil _ _ _⟩)
  have z9 := W5.zero
  obtain ⟨m0, m1, m2, m3, m4, m5, m6, m7, m8, m9, m10, m11, m12⟩ := z9.cells
  obtain ⟨n0, n1, n2, n3, n4, n5, n6, n7, n8, n9, n10, n11, n12⟩ := z9.free
  have hzl := z9.lt
  clear z9 W5 HR
  go_wp2
  refine bodyPost_ret (v := stV (zS 11)) (by simp [results, Tryz.results38, go_sem, stV, m0, m1, m2, m3, m4, m5, m6, m7, m8, m9, m10, m11, m12]) rfl ?_
  exact T.out

set_option maxRecDepth 100000 in
set_option maxHeartbeats 4000000 in
theorem fStmt5 {g : Nat} {S : Sa} {w : World} (h : Rf w g S 0) (hok : okSe S = true) (h0 : takeB ⟨#[99, 114, 101, 97, 116, 101]⟩ S = false) (h1 : takeB ⟨#[115, 101, 108, 101, 99, 116]⟩ S = false) (h2 : takeB ⟨#[98, 101, 103, 105, 110]⟩ S = false) (h3 : takeB ⟨#[99, 111, 109, 109, 105, 116]⟩ S = false) (h4 : takeB ⟨#[114, 111, 108, 108, 98, 97, 99, 107]⟩ S = false) (h5 : takeB ⟨#[114, 97, 105, 115, 101]⟩ S = true) : Calls Tryz.prog 38 #[.pointer (some ⟨g, 0, none⟩)] w (TfF g w (runP stmtP S)) := by
  have hgl := h.lt
  have W0 := Wf.start h
  have HR : Hid (runP stmtP S = runP raiseP (takeS ⟨#[114, 97, 105, 115, 101]⟩ S)) := hid ((disp_false h0).trans ((is_false h1).trans ((disp_false h2).trans ((disp_false h3).trans ((disp_false h4).trans (disp_true h5))))))
  clear h
  go_enter Tryz.func38, Tryz.ntmps38
  have HT1 := fTake_any W0.rf ⟨#[99, 114, 101, 97, 116, 101]⟩
  rw [h0, takeB_false h0] at HT1
  replace HT1 : Hid _ := hid HT1
  go_wp2_with fail
  refine Calls.mono HT1.out ?_
  rintro e w1 ⟨rfl, hr1, hb1⟩
  have W1 := W0.on hgl hr1 hb1
  clear HT1 hr1 hb1 W0
  have HT2 : Hid _ := hid (fIs_any W1.rf ⟨#[115, 101, 108, 101, 99, 116]⟩)
  go_wp2_with fail
  refine Calls.mono HT2.out ?_
  rintro e w2 ⟨B, rfl, hb2, hB⟩
  obtain rfl : B = false := (hB hok).trans h1
  have W2 := W1.on hgl (W1.rf.later hb2) (But.of hb2)
  clear HT2 hb2 hB W1
  have HT3 := fTake_any W2.rf ⟨#[98, 101, 103, 105, 110]⟩
  rw [h2, takeB_false h2] at HT3
  replace HT3 : Hid _ := hid HT3
  go_wp2_with fail
  refine Calls.mono HT3.out ?_
  rintro e w3 ⟨rfl, hr3, hb3⟩
  have W3 := W2.on hgl hr3 hb3
  clear HT3 hr3 hb3 W2
  have HT4 := fTake_any W3.rf ⟨#[99, 111, 109, 109, 105, 116]⟩
  rw [h3, takeB_false h3] at HT4
  replace HT4 : Hid _ := hid HT4
  go_wp2_with fail
  refine Calls.mono HT4.out ?_
  rintro e w4 ⟨rfl, hr4, hb4⟩
  have W4 := W3.on hgl hr4 hb4
  clear HT4 hr4 hb4 W3
  have HT5 := fTake_any W4.rf ⟨#[114, 111, 108, 108, 98, 97, 99, 107]⟩
  rw [h4, takeB_false h4] at HT5
  replace HT5 : Hid _ := hid HT5
  go_wp2_with fail
  refine Calls.mono HT5.out ?_
  rintro e w5 ⟨rfl, hr5, hb5⟩
  have W5 := W4.on hgl hr5 hb5
  clear HT5 hr5 hb5 W4
  have HT6 := fTake_any W5.rf ⟨#[114, 97, 105, 115, 101]⟩
  rw [h5] at HT6
  replace HT6 : Hid _ := hid HT6
  go_wp2_with fail
  refine Calls.mono HT6.out ?_
  rintro e w6 ⟨rfl, hr6, hb6⟩
  have W6 := W5.on hgl hr6 hb6
  clear HT6 hr6 hb6 W5
  have HC : Hid _ := hid (fTags_any W6.rf)
  go_wp2_with fail
  refine Calls.mono HC.out ?_
  rintro e w9 ⟨ao, ln, cp, rfl, hb9, hr9, hu9⟩
  have hlt := W6.lt
  have T : Hid _ := hid (TfF.fin (R := runP stmtP S) (s := { zS 12 with ta := (ao, ln, cp) }) hgl (W6.but.trans hb9) (by rw [HR.out, raise_run, stO_mapR]; exact hr9) fun m r e => by
    rw [HR.out, raise_run] at e
    obtain ⟨u, e2, rfl⟩ := mapR_inr e
    exact ⟨{ IsS.zero _ _ 12 with ta := (hu9 u r e2).mono (by decide) fun b hb _ => by omega }, RowIs.nil _ _ _⟩)
  have z9 := W6.zero.but hb9 (by omega)
  obtain ⟨m0, m1, m2, m3, m4, m5, m6, m7, m8, m9, m10, m11, m12⟩ := z9.cells
  obtain ⟨n0, n1, n2, n3, n4, n5, n6, n7, n8, n9, n10, n11, n12⟩ := z9.free
  have hzl := z9.lt
  clear HC hb9 hr9 hu9 z9 W6 HR
  go_wp2
  refine bodyPost_ret (v := stV { zS 12 with ta := (ao, ln, cp) }) (by simp [results, Tryz.results38, go_sem, stV, m0, m1, m2, m3, m4, m5, m6, m7, m8, m9, m10, m11, m12]) rfl ?_
  exact T.out

set_option maxRecDepth 100000 in
set_option maxHeartbeats 4000000 in
theorem fStmt6 {g : Nat} {S : Sa} {w : World} (h : Rf w g S 0) (hok : okSe S = true) (h0 : takeB ⟨#[99, 114, 101, 97, 116, 101]⟩ S = false) (h1 : takeB ⟨#[115, 101, 108, 101, 99, 116]⟩ S = false) (h2 : takeB ⟨#[98, 101, 103, 105, 110]⟩ S = false) (h3 : takeB ⟨#[99, 111, 109, 109, 105, 116]⟩ S = false) (h4 : takeB ⟨#[114, 111, 108, 108, 98, 97, 99, 107]⟩ S = false) (h5 : takeB ⟨#[114, 97, 105, 115, 101]⟩ S = false) (h6 : takeB ⟨#[99, 97, 108, 108]⟩ S = true) : Calls Tryz.prog 38 #[.pointer (some ⟨g, 0, none⟩)] w (TfF g w (runP stmtP S)) := by
  have hgl := h.lt
  have W0 := Wf.start h
  have HR : Hid (runP stmtP S = runP callP (takeS ⟨#[99, 97, 108, 108]⟩ S)) := hid ((disp_false h0).trans ((is_false h1).trans ((disp_false h2).trans ((disp_false h3).trans ((disp_false h4).trans ((disp_false h5).trans (disp_true h6)))))))
  clear h
  go_enter Tryz.func38, Tryz.ntmps38
  have HT1 := fTake_any W0.rf ⟨#[99, 114, 101, 97, 116, 101]⟩
  rw [h0, takeB_false h0] at HT1
  replace HT1 : Hid _ := hid HT1
  go_wp2_with fail
  refine Calls.mono HT1.out ?_
  rintro e w1 ⟨rfl, hr1, hb1⟩
  have W1 := W0.on hgl hr1 hb1
  clear HT1 hr1 hb1 W0
  have HT2 : Hid _ := hid (fIs_any W1.rf ⟨#[115, 101, 108, 101, 99, 116]⟩)
  go_wp2_with fail
  refine Calls.mono HT2.out ?_
  rintro e w2 ⟨B, rfl, hb2, hB⟩
  obtain rfl : B = false := (hB hok).trans h1
  have W2 := W1.on hgl (W1.rf.later hb2) (But.of hb2)
  clear HT2 hb2 hB W1
  have HT3 := fTake_any W2.rf ⟨#[98, 101, 103, 105, 110]⟩
  rw [h2, takeB_false h2] at HT3
  replace HT3 : Hid _ := hid HT3
  go_wp2_with fail
  refine Calls.mono HT3.out ?_
  rintro e w3 ⟨rfl, hr3, hb3⟩
  have W3 := W2.on hgl hr3 hb3
  clear HT3 hr3 hb3 W2
  have HT4 := fTake_any W3.rf ⟨#[99, 111, 109, 109, 105, 116]⟩
  rw [h3, takeB_false h3] at HT4
  replace HT4 : Hid _ := hid HT4
  go_wp2_with fail
  refine Calls.mono HT4.out ?_
  rintro e w4 ⟨rfl, hr4, hb4⟩
  have W4 := W3.on hgl hr4 hb4
  clear HT4 hr4 hb4 W3
  have HT5 := fTake_any W4.rf ⟨#[114, 111, 108, 108, 98, 97, 99, 107]⟩
  rw [h4, takeB_false h4] at HT5
  replace HT5 : Hid _ := hid HT5
  go_wp2_with fail
  refine Calls.mono HT5.out ?_
  rintro e w5 ⟨rfl, hr5, hb5⟩
  have W5 := W4.on hgl hr5 hb5
  clear HT5 hr5 hb5 W4
  have HT6 := fTake_any W5.rf ⟨#[114, 97, 105, 115, 101]⟩
  rw [h5, takeB_false h5] at HT6
  replace HT6 : Hid _ := hid HT6
  go_wp2_with fail
  refine Calls.mono HT6.out ?_
  rintro e w6 ⟨rfl, hr6, hb6⟩
  have W6 := W5.on hgl hr6 hb6
  clear HT6 hr6 hb6 W5
  have HT7 := fTake_any W6.rf ⟨#[99, 97, 108, 108]⟩
  rw [h6] at HT7
  replace HT7 : Hid _ := hid HT7
  go_wp2_with fail
  refine Calls.mono HT7.out ?_
  rintro e w7 ⟨rfl, hr7, hb7⟩
  have W7 := W6.on hgl hr7 hb7
  clear HT7 hr7 hb7 W6
  have HC : Hid _ := hid (fName_any W7.rf)
  go_wp2_with fail
  refine Calls.mono HC.out ?_
  rintro e w9 ⟨s9, rfl, hb9, hr9, hu9⟩
  have T : Hid _ := hid (TfF.fin (R := runP stmtP S) (s := { zS 13 with nm := s9 }) hgl (W7.but.trans hb9) (by rw [HR.out, call_run, stO_mapR]; exact hr9) fun m r e => by
    rw [HR.out, call_run] at e
    obtain ⟨u, e2, rfl⟩ := mapR_inr e
    exact ⟨{ IsS.zero _ _ 13 with nm := hu9 u r e2 }, RowIs.nil _ _ _⟩)
  have z9 := W7.zero.but hb9 (by omega)
  obtain ⟨m0, m1, m2, m3, m4, m5, m6, m7, m8, m9, m10, m11, m12⟩ := z9.cells
  obtain ⟨n0, n1, n2, n3, n4, n5, n6, n7, n8, n9, n10, n11, n12⟩ := z9.free
  have hzl := z9.lt
  clear HC hb9 hr9 hu9 z9 W7 HR
  go_wp2
  refine bodyPost_ret (v := stV { zS 13 with nm := s9 }) (by simp [results, Tryz.results38, go_sem, stV, m0, m1, m2, m3, m4, m5, m6, m7, m8, m9, m10, m11, m12]) rfl ?_
  exact T.out

set_option maxRecDepth 100000 in
set_option maxHeartbeats 4000000 in
theorem fStmt7 {g : Nat} {S : Sa} {w : World} (h : Rf w g S 0) (hok : okSe S = true) (h0 : takeB ⟨#[99, 114, 101, 97, 116, 101]⟩ S = false) (h1 : takeB ⟨#[115, 101, 108, 101, 99, 116]⟩ S = false) (h2 : takeB ⟨#[98, 101, 103, 105, 110]⟩ S = false) (h3 : takeB ⟨#[99, 111, 109, 109, 105, 116]⟩ S = false) (h4 : takeB ⟨#[114, 111, 108, 108, 98, 97, 99, 107]⟩ S = false) (h5 : takeB ⟨#[114, 97, 105, 115, 101]⟩ S = false) (h6 : takeB ⟨#[99, 97, 108, 108]⟩ S = false) : Calls Tryz.prog 38 #[.pointer (some ⟨g, 0, none⟩)] w (TfF g w (runP stmtP S)) := by
  have hgl := h.lt
  have W0 := Wf.start h
  have HR : Hid (runP stmtP S = runP (plain changeP) (S)) := hid ((disp_false h0).trans ((is_false h1).trans ((disp_false h2).trans ((disp_false h3).trans ((disp_false h4).trans ((disp_false h5).trans (disp_false h6)))))))
  clear h
  go_enter Tryz.func38, Tryz.ntmps38
  have HT1 := fTake_any W0.rf ⟨#[99, 114, 101, 97, 116, 101]⟩
  rw [h0, takeB_false h0] at HT1
  replace HT1 : Hid _ := hid HT1
  go_wp2_with fail
  refine Calls.mono HT1.out ?_
  rintro e w1 ⟨rfl, hr1, hb1⟩
  have W1 := W0.on hgl hr1 hb1
  clear HT1 hr1 hb1 W0
  have HT2 : Hid _ := hid (fIs_any W1.rf ⟨#[115, 101, 108, 101, 99, 116]⟩)
  go_wp2_with fail
  refine Calls.mono HT2.out ?_
  rintro e w2 ⟨B, rfl, hb2, hB⟩
  obtain rfl : B = false := (hB hok).trans h1
  have W2 := W1.on hgl (W1.rf.later hb2) (But.of hb2)
  clear HT2 hb2 hB W1
  have HT3 := fTake_any W2.rf ⟨#[98, 101, 103, 105, 110]⟩
  rw [h2, takeB_false h2] at HT3
  replace HT3 : Hid _ := hid HT3
  go_wp2_with fail
  refine Calls.mono HT3.out ?_
  rintro e w3 ⟨rfl, hr3, hb3⟩
  have W3 := W2.on hgl hr3 hb3
  clear HT3 hr3 hb3 W2
  have HT4 := fTake_any W3.rf ⟨#[99, 111, 109, 109, 105, 116]⟩
  rw [h3, takeB_false h3] at HT4
  replace HT4 : Hid _ := hid HT4
  go_wp2_with fail
  refine Calls.mono HT4.out ?_
  rintro e w4 ⟨rfl, hr4, hb4⟩
  have W4 := W3.on hgl hr4 hb4
  clear HT4 hr4 hb4 W3
  have HT5 := fTake_any W4.rf ⟨#[114, 111, 108, 108, 98, 97, 99, 107]⟩
  rw [h4, takeB_false h4] at HT5
  replace HT5 : Hid _ := hid HT5
  go_wp2_with fail
  refine Calls.mono HT5.out ?_
  rintro e w5 ⟨rfl, hr5, hb5⟩
  have W5 := W4.on hgl hr5 hb5
  clear HT5 hr5 hb5 W4
  have HT6 := fTake_any W5.rf ⟨#[114, 97, 105, 115, 101]⟩
  rw [h5, takeB_false h5] at HT6
  replace HT6 : Hid _ := hid HT6
  go_wp2_with fail
  refine Calls.mono HT6.out ?_
  rintro e w6 ⟨rfl, hr6, hb6⟩
  have W6 := W5.on hgl hr6 hb6
  clear HT6 hr6 hb6 W5
  have HT7 := fTake_any W6.rf ⟨#[99, 97, 108, 108]⟩
  rw [h6, takeB_false h6] at HT7
  replace HT7 : Hid _ := hid HT7
  go_wp2_with fail
  refine Calls.mono HT7.out ?_
  rintro e w7 ⟨rfl, hr7, hb7⟩
  have W7 := W6.on hgl hr7 hb7
  clear HT7 hr7 hb7 W6
  have HC : Hid _ := hid (fWrites_any W7.rf)
  go_wp2_with fail
  refine Calls.mono HC.out ?_
  rintro e w9 ⟨s9, rfl, hb9, hr9, hx9⟩
  have T : Hid _ := hid (W7.teg (P := changeP) hgl HR.out hb9 hr9 hx9)
  have z9 := W7.zero.but hb9 (by omega)
  obtain ⟨m0, m1, m2, m3, m4, m5, m6, m7, m8, m9, m10, m11, m12⟩ := z9.cells
  obtain ⟨n0, n1, n2, n3, n4, n5, n6, n7, n8, n9, n10, n11, n12⟩ := z9.free
  have hzl := z9.lt
  clear HC hb9 hr9 hx9 z9 W7 HR
  unfold stV
  go_wp2
  refine bodyPost_ret (v := stV s9) (by simp [results, Tryz.results38, go_sem, stV, m0, m1, m2, m3, m4, m5, m6, m7, m8, m9, m10, m11, m12]) rfl ?_
  exact T.out

theorem fStmt_any {g : Nat} {S : Sa} {w : World} (h : Rf w g S 0) (hok : okSe S = true) : Calls Tryz.prog 38 #[.pointer (some ⟨g, 0, none⟩)] w (TfF g w (runP stmtP S)) := by
  cases h0 : takeB ⟨#[99, 114, 101, 97, 116, 101]⟩ S with
  | true => exact fStmt0 h hok h0
  | false =>
    cases h1 : takeB ⟨#[115, 101, 108, 101, 99, 116]⟩ S with
    | true => exact fStmt1 h hok h0 h1
    | false =>
      cases h2 : takeB ⟨#[98, 101, 103, 105, 110]⟩ S with
      | true => exact fStmt2 h hok h0 h1 h2
      | false =>
        cases h3 : takeB ⟨#[99, 111, 109, 109, 105, 116]⟩ S with
        | true => exact fStmt3 h hok h0 h1 h2 h3
        | false =>
          cases h4 : takeB ⟨#[114, 111, 108, 108, 98, 97, 99, 107]⟩ S with
          | true => exact fStmt4 h hok h0 h1 h2 h3 h4
          | false =>
            cases h5 : takeB ⟨#[114, 97, 105, 115, 101]⟩ S with
            | true => exact fStmt5 h hok h0 h1 h2 h3 h4 h5
            | false =>
              cases h6 : takeB ⟨#[99, 97, 108, 108]⟩ S with
              | true => exact fStmt6 h hok h0 h1 h2 h3 h4 h5 h6
              | false =>
                exact fStmt7 h hok h0 h1 h2 h3 h4 h5 h6

end Go.Proofs.YtnboooaockgoiaaGreatDoor
namespace Go.Proofs.YtnboooaockgoiaaGreatDoor
open Go.RowKit
set_option linter.unusedVariables false

end Go.Proofs.YtnboooaockgoiaaGreatDoor
namespace Go.Proofs.YtnboooaockgoiaaGreatDoor
open Go.RowKit
set_option linter.unusedVariables false

theorem Lx.ended {s : ByteArray} {k : Nat} {l : List Tk} {a e : Int} (h : Lx s k l a e) : e = 0 → k ≤ s.size → Ended l ∧ l.length + k ≤ s.size + 1 :=
  Lx.all (fun k l a e => e = 0 → k ≤ s.size → Ended l ∧ l.length + k ≤ s.size + 1)
    (fun k h1 h2 => absurd h2 h1)
    (fun k h1 h2 _ hk => ⟨.inl h2, by simp; omega⟩)
    (fun k l h1 h2 _ ih _ hk => by
      rcases wordW_on hk h1 with ⟨h6, _⟩ | ⟨_, h3, h4⟩
      · exact absurd h6 h2
      · obtain ⟨i1, i2⟩ := ih rfl h4
        exact ⟨.inr i1, by simp; omega⟩)
    (fun k a e h1 h2 _ he _ h0 => absurd h0 he) h
theorem LexR.ended {s : ByteArray} {l : List Tk} {a e : Int} (h : LexR s l a e) (he : e = 0) : Ended l ∧ l.length ≤ 500 ∧ a = 0 := by
  rcases h with ⟨_, _, _, rfl⟩ | ⟨h4, hx⟩
  · cases he
  · obtain ⟨h1, h2⟩ := hx.ended he (Nat.zero_le _)
    exact ⟨h1, by omega, hx.zero he⟩
/-- The statement that words are. -/
def parseW (ts : List Tk) : Re Sf := thenR (stmtP ts) fun m r => if kdOf r = 6 then .inr (m, r) else .inl (atOf r, 5)
/-- What is told of a text: the statement, if it is one; the fault's place, the fault. -/
def PaR (s : ByteArray) (X : Option Sf) (a f : Int) : Prop :=
  ∃ ts b e, LexR s ts b e ∧ ((e ≠ 0 ∧ X = none ∧ a = b ∧ f = e) ∨ (e = 0 ∧ ((∃ x, parseW ts = .inl x ∧ X = none ∧ a = x.1 ∧ f = x.2 ∧ f ≠ 0) ∨ ∃ m r, parseW ts = .inr (m, r) ∧ X = some m ∧ a = 0 ∧ f = 0)))
theorem end_run (ts : List Tk) : stO (parseW ts) = endS (stO (stmtP ts)) ∧ ∀ m r, parseW ts = .inr (m, r) → stmtP ts = .inr (m, r) := by
  rw [parseW]
  cases stmtP ts with
  | inl x => exact ⟨rfl, fun m r e => by cases e⟩
  | inr x =>
    show stO (if kdOf x.2 = 6 then _ else _) = (if kdOf x.2 = 6 then _ else _) ∧ ∀ m r, (if kdOf x.2 = 6 then (.inr (x.1, x.2) : Re Sf) else .inl (atOf x.2, 5)) = .inr (m, r) → _
    split
    · exact ⟨rfl, fun m r e => e⟩
    · exact ⟨rfl, fun m r e => by cases e⟩
/-- What Parse tells. -/
def TeP (s : ByteArray) (w : World) (e : Ending) (w' : World) : Prop :=
  ∃ sv X a f, e = .returned (.tuple #[stV sv, .int .i64 a, .int .i64 f]) ∧ Below w.heap.size w w' ∧ PaR s X a f ∧ (X = none → sv = zS 0) ∧ ∀ m, X = some m → IsS (fun b => w.heap.size ≤ b) w' m.1 sv ∧ RowIs eStmt (fun b => w.heap.size ≤ b) w' (slV sv.inn) m.2
theorem but_below {g : Nat} {a w w' : World} (h : Below a.heap.size a w) (hb : But g w w') (hg : a.heap.size ≤ g) : Below a.heap.size a w' := hb.below h hg h.size
theorem set13_below {a w : World} (h : Below a.heap.size a w) (s : Sv) : Below a.heap.size a (set13 w a.heap.size s) := by
  have B := (But.of (g := a.heap.size) h).set13 (Nat.le_refl _) s
  exact ⟨B.os, B.tape, B.output, B.size, fun k hk => B.block k hk (by omega)⟩
end Go.Proofs.YtnboooaockgoiaaGreatDoor
