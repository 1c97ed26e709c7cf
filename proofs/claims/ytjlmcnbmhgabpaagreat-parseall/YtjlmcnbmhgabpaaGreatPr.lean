/- The walks of table, index, insert, delete. -/
import Derived.Test.YtjlmcnbmhgabpaaGreatPq
namespace Go.Proofs.YtjlmcnbmhgabpaaGreat
open Go.RowKit
set_option linter.unusedVariables false

def tableP (ts : List Tk) : Re Sm := fillR (brP colP) up_co (fillR nameP up_nm (startR 1 (.inr ts)))
def indexP (ts : List Tk) : Re Sm := wantR ⟨#[41]⟩ (fillR nameP up_nm (wantR ⟨#[40]⟩ (fillR nameP up_tb (wantR ⟨#[111, 110]⟩ (startR 2 (.inr ts))))))
def insertP (ts : List Tk) : Re Sm := fillR (brP (exprP 64)) up_va (wantR ⟨#[118, 97, 108, 117, 101, 115]⟩ (fillR nameP up_tb (wantR ⟨#[105, 110, 116, 111]⟩ (startR 5 (.inr ts)))))
def deleteP (ts : List Tk) : Re Sm := fillR behindP up_wh (fillR nameP up_tb (wantR ⟨#[102, 114, 111, 109]⟩ (startR 8 (.inr ts))))
theorem shr_seq {α β γ : Type} {f : α → β → γ} {P : List Tk → Re α} {P' : List Tk → Re β} (h : Shr P) (h' : Shr P') : Shr (seqP f P P') := by
  intro ts t r e
  obtain ⟨a, q, h1, h2⟩ := thenR_inr e
  obtain ⟨b, h3, _⟩ := mapR_inr h2
  have := h ts a q h1
  have := h' q b r h3
  omega
theorem shr_want (s : ByteArray) : Shr (wantU s) := by
  intro ts t r e
  rw [wantU] at e
  split at e
  · cases e; rw [List.length_tail]; omega
  · cases e
theorem shr_opt {α : Type} {s : ByteArray} {z : α} {P : List Tk → Re α} (h : Shr P) : Shr (optP s z P) := by
  intro ts t r e
  rw [optP] at e
  split at e
  · have := h _ t r e
    rw [List.length_tail] at this
    omega
  · cases e; exact Nat.le_refl _
theorem shr_choice (l : List (ByteArray × Int)) : Shr (choiceP l) := by
  intro ts t r e
  rw [choiceP] at e
  split at e
  · cases e
  · cases e; rw [List.length_tail]; omega
theorem shr_col : Shr colP := shr_seq shr_name (shr_seq (shr_choice _) (shr_opt shr_name))
theorem shr_tag : Shr tagP := by
  intro ts t r e
  cases ts with
  | nil => cases e
  | cons x l =>
    rw [tagP] at e
    split at e
    · split at e
      · cases e
      · cases e; simp
    · cases e
theorem shr_item : Shr itemP := by
  intro ts t r e
  rw [itemP] at e
  split at e
  · have := shr_seq (shr_want _) (shr_seq (shr_want _) (shr_want _)) _ t r e
    rw [List.length_tail] at this
    omega
  · split at e
    · obtain ⟨u, h1, _⟩ := mapR_inr e
      exact shr_column ts u r h1
    · have := shr_seq (shr_want _) (shr_seq shr_column (shr_want _)) _ t r e
      rw [List.length_tail] at this
      omega
theorem part_expr (g : Nat) : PartV g (TeE g 0) (exprP 64) (.func (.func 86) #[.pointer (some ⟨g, 0, none⟩)] #[]) := ⟨86, rfl, fun _ _ => by kernel_rfl, fun S w h => expr_any h⟩
theorem part_col (g : Nat) : PartV g (TeCol g) colP (.func (.func 115) #[.pointer (some ⟨g, 0, none⟩)] #[]) := ⟨115, rfl, fun _ _ => by kernel_rfl, fun S w h => pCol_any h⟩
theorem part_item (g : Nat) : PartV g (TeItem g) itemP (.func (.func 83) #[.pointer (some ⟨g, 0, none⟩)] #[]) := ⟨83, rfl, fun _ _ => by kernel_rfl, fun S w h => pItem_any h⟩
theorem part_tag (g : Nat) : PartV g (TeTag g) tagP (.func (.func 41) #[.pointer (some ⟨g, 0, none⟩)] #[]) := ⟨41, rfl, fun _ _ => by kernel_rfl, fun S w h => pTag_any h⟩

theorem tableP_run (S : Sa) : runP tableP S = fillR (brP colP) up_co (fillR nameP up_nm (startR 1 S)) := by cases S <;> rfl
theorem indexP_run (S : Sa) : runP indexP S = wantR ⟨#[41]⟩ (fillR nameP up_nm (wantR ⟨#[40]⟩ (fillR nameP up_tb (wantR ⟨#[111, 110]⟩ (startR 2 S))))) := by cases S <;> rfl
theorem insertP_run (S : Sa) : runP insertP S = fillR (brP (exprP 64)) up_va (wantR ⟨#[118, 97, 108, 117, 101, 115]⟩ (fillR nameP up_tb (wantR ⟨#[105, 110, 116, 111]⟩ (startR 5 S)))) := by cases S <;> rfl
theorem deleteP_run (S : Sa) : runP deleteP S = fillR behindP up_wh (fillR nameP up_tb (wantR ⟨#[102, 114, 111, 109]⟩ (startR 8 S))) := by cases S <;> rfl
set_option maxRecDepth 100000 in
set_option maxHeartbeats 2000000 in
theorem pTable_any {g : Nat} {S : Sa} {w : World} (h : Rp w g S 0) : Calls Tryz.prog 78 #[.pointer (some ⟨g, 0, none⟩)] w (TeS g w (runP tableP S)) := by
  have hgl := h.lt
  have hmf : ∀ (fn : Fn) (first cap : Array Value) (w : World), (Instr.makeFunc fn first cap).run Tryz.prog w = .ok (.func fn first cap) w := fun _ _ _ _ => rfl
  have I0 : Inv g w (startR 1 S) ((w.alloc (.cells #[.int .i64 0, .string ⟨#[]⟩, .string ⟨#[]⟩, .slice none 0 0, .slice none 0 0, .slice none 0 0, .slice none 0 0, .string ⟨#[]⟩, .slice none 0 0, .slice none 0 0, .slice none 0 0, .bool false, .slice none 0 0] 29)).alloc (.cells #[.int .i64 1, .string ⟨#[]⟩, .string ⟨#[]⟩, .slice none 0 0, .slice none 0 0, .slice none 0 0, .slice none 0 0, .string ⟨#[]⟩, .slice none 0 0, .slice none 0 0, .slice none 0 0, .bool false, .slice none 0 0] 29)) (zS 1) := Inv.start h 1
  have HR : Hid (runP tableP S = _) := hid (tableP_run S)
  clear h
  go_enter Tryz.func78, Tryz.ntmps78
  have H1 : Hid _ := hid (pName_any I0.rp)
  go_wp2_with fail
  refine Calls.mono H1.out ?_
  rintro e w1 ⟨s1, rfl, hb1, hr1, hu1⟩
  have y1 := I0.box.but hb1 (by omega)
  have cy1 := y1.cells.2.2.1
  have fy1 := y1.free.2.2.1
  have I1 := I0.nm hgl hb1 hr1 hu1
  clear H1 hr1 hb1 hu1 I0 y1
  have H2 : Hid _ := hid (pBrCol_any I1.rp (part_col g) shr_col)
  go_wp2_with fail
  refine Calls.mono H2.out ?_
  rintro e w2 ⟨ao2, ln2, cp2, rfl, hb2, hr2, hu2⟩
  have y2 := I1.box.but hb2 (by omega)
  have cy2 := y2.cells.2.2.2.1
  have fy2 := y2.free.2.2.2.1
  have I2 := I1.co (v := (ao2, ln2, cp2)) hgl hb2 hr2 hu2
  clear H2 hr2 hb2 hu2 I1 y2
  obtain ⟨sv, J⟩ : ∃ sv, Inv g w _ _ sv := ⟨_, I2⟩
  go_upto_region 4 with fail
  generalize w2.setCell ⟨w.heap.size + 1, 3, none⟩ (.slice ao2 ln2 cp2) = W at *
  have hq := J.lt
  have T := TeS.fin HR.out hgl J
  obtain ⟨k0, k1, k2, k3, k4, k5, k6, k7, k8, k9, k10, k11, k12⟩ := J.box.cells
  obtain ⟨m0, m1, m2, m3, m4, m5, m6, m7, m8, m9, m10, m11, m12⟩ := J.zero.cells
  obtain ⟨n0, n1, n2, n3, n4, n5, n6, n7, n8, n9, n10, n11, n12⟩ := J.zero.free
  replace T : Hid _ := hid T
  clear I2 J HR
  go_wp2
  refine bodyPost_ret (v := stV sv) (by simp [results, Tryz.results78, go_sem, stV, m0, m1, m2, m3, m4, m5, m6, m7, m8, m9, m10, m11, m12]) rfl ?_
  exact T.out

set_option maxRecDepth 100000 in
set_option maxHeartbeats 2000000 in
theorem pIndex_any {g : Nat} {S : Sa} {w : World} (h : Rp w g S 0) : Calls Tryz.prog 79 #[.pointer (some ⟨g, 0, none⟩)] w (TeS g w (runP indexP S)) := by
  have hgl := h.lt
  have hmf : ∀ (fn : Fn) (first cap : Array Value) (w : World), (Instr.makeFunc fn first cap).run Tryz.prog w = .ok (.func fn first cap) w := fun _ _ _ _ => rfl
  have I0 : Inv g w (startR 2 S) ((w.alloc (.cells #[.int .i64 0, .string ⟨#[]⟩, .string ⟨#[]⟩, .slice none 0 0, .slice none 0 0, .slice none 0 0, .slice none 0 0, .string ⟨#[]⟩, .slice none 0 0, .slice none 0 0, .slice none 0 0, .bool false, .slice none 0 0] 29)).alloc (.cells #[.int .i64 2, .string ⟨#[]⟩, .string ⟨#[]⟩, .slice none 0 0, .slice none 0 0, .slice none 0 0, .slice none 0 0, .string ⟨#[]⟩, .slice none 0 0, .slice none 0 0, .slice none 0 0, .bool false, .slice none 0 0] 29)) (zS 2) := Inv.start h 2
  have HR : Hid (runP indexP S = _) := hid (indexP_run S)
  clear h
  go_enter Tryz.func79, Tryz.ntmps79
  have H1 : Hid _ := hid (pWant1 I0.rp ⟨#[111, 110]⟩ (b := w.heap.size + 1 + 1) (by simp))
  go_wp2_with fail
  refine Calls.mono H1.out ?_
  rintro e w1 ⟨rfl, hr1, hb1⟩
  have I1 := I0.want hgl hr1 hb1
  clear H1 hr1 hb1 I0
  have H2 : Hid _ := hid (pName_any I1.rp)
  go_wp2_with fail
  refine Calls.mono H2.out ?_
  rintro e w2 ⟨s2, rfl, hb2, hr2, hu2⟩
  have y2 := I1.box.but hb2 (by omega)
  have cy2 := y2.cells.2.1
  have fy2 := y2.free.2.1
  have I2 := I1.tb hgl hb2 hr2 hu2
  clear H2 hr2 hb2 hu2 I1 y2
  have H3 : Hid _ := hid (pWant1 I2.rp ⟨#[40]⟩ (sz_set _ _ _))
  go_wp2_with fail
  refine Calls.mono H3.out ?_
  rintro e w3 ⟨rfl, hr3, hb3⟩
  have I3 := I2.want hgl hr3 hb3
  clear H3 hr3 hb3 I2
  have H4 : Hid _ := hid (pName_any I3.rp)
  go_wp2_with fail
  refine Calls.mono H4.out ?_
  rintro e w4 ⟨s4, rfl, hb4, hr4, hu4⟩
  have y4 := I3.box.but hb4 (by omega)
  have cy4 := y4.cells.2.2.1
  have fy4 := y4.free.2.2.1
  have I4 := I3.nm hgl hb4 hr4 hu4
  clear H4 hr4 hb4 hu4 I3 y4
  have H5 : Hid _ := hid (pWant1 I4.rp ⟨#[41]⟩ (sz_set _ _ _))
  go_wp2_with fail
  refine Calls.mono H5.out ?_
  rintro e w5 ⟨rfl, hr5, hb5⟩
  have I5 := I4.want hgl hr5 hb5
  clear H5 hr5 hb5 I4
  obtain ⟨sv, J⟩ : ∃ sv, Inv g w _ _ sv := ⟨_, I5⟩
  have hq := J.lt
  have T := TeS.fin HR.out hgl J
  obtain ⟨k0, k1, k2, k3, k4, k5, k6, k7, k8, k9, k10, k11, k12⟩ := J.box.cells
  obtain ⟨m0, m1, m2, m3, m4, m5, m6, m7, m8, m9, m10, m11, m12⟩ := J.zero.cells
  obtain ⟨n0, n1, n2, n3, n4, n5, n6, n7, n8, n9, n10, n11, n12⟩ := J.zero.free
  replace T : Hid _ := hid T
  clear I5 J HR
  go_wp2
  refine bodyPost_ret (v := stV sv) (by simp [results, Tryz.results79, go_sem, stV, m0, m1, m2, m3, m4, m5, m6, m7, m8, m9, m10, m11, m12]) rfl ?_
  exact T.out

set_option maxRecDepth 100000 in
set_option maxHeartbeats 2000000 in
theorem pInsert_any {g : Nat} {S : Sa} {w : World} (h : Rp w g S 0) : Calls Tryz.prog 89 #[.pointer (some ⟨g, 0, none⟩)] w (TeS g w (runP insertP S)) := by
  have hgl := h.lt
  have hmf : ∀ (fn : Fn) (first cap : Array Value) (w : World), (Instr.makeFunc fn first cap).run Tryz.prog w = .ok (.func fn first cap) w := fun _ _ _ _ => rfl
  have I0 : Inv g w (startR 5 S) ((w.alloc (.cells #[.int .i64 0, .string ⟨#[]⟩, .string ⟨#[]⟩, .slice none 0 0, .slice none 0 0, .slice none 0 0, .slice none 0 0, .string ⟨#[]⟩, .slice none 0 0, .slice none 0 0, .slice none 0 0, .bool false, .slice none 0 0] 29)).alloc (.cells #[.int .i64 5, .string ⟨#[]⟩, .string ⟨#[]⟩, .slice none 0 0, .slice none 0 0, .slice none 0 0, .slice none 0 0, .string ⟨#[]⟩, .slice none 0 0, .slice none 0 0, .slice none 0 0, .bool false, .slice none 0 0] 29)) (zS 5) := Inv.start h 5
  have HR : Hid (runP insertP S = _) := hid (insertP_run S)
  clear h
  go_enter Tryz.func89, Tryz.ntmps89
  have H1 : Hid _ := hid (pWant1 I0.rp ⟨#[105, 110, 116, 111]⟩ (b := w.heap.size + 1 + 1) (by simp))
  go_wp2_with fail
  refine Calls.mono H1.out ?_
  rintro e w1 ⟨rfl, hr1, hb1⟩
  have I1 := I0.want hgl hr1 hb1
  clear H1 hr1 hb1 I0
  have H2 : Hid _ := hid (pName_any I1.rp)
  go_wp2_with fail
  refine Calls.mono H2.out ?_
  rintro e w2 ⟨s2, rfl, hb2, hr2, hu2⟩
  have y2 := I1.box.but hb2 (by omega)
  have cy2 := y2.cells.2.1
  have fy2 := y2.free.2.1
  have I2 := I1.tb hgl hb2 hr2 hu2
  clear H2 hr2 hb2 hu2 I1 y2
  have H3 : Hid _ := hid (pWant1 I2.rp ⟨#[118, 97, 108, 117, 101, 115]⟩ (sz_set _ _ _))
  go_wp2_with fail
  refine Calls.mono H3.out ?_
  rintro e w3 ⟨rfl, hr3, hb3⟩
  have I3 := I2.want hgl hr3 hb3
  clear H3 hr3 hb3 I2
  have H4 : Hid _ := hid (pBrExpr_any I3.rp (part_expr g) (shr_expr 64))
  go_wp2_with fail
  refine Calls.mono H4.out ?_
  rintro e w4 ⟨ao4, ln4, cp4, rfl, hb4, hr4, hu4⟩
  have y4 := I3.box.but hb4 (by omega)
  have cy4 := y4.cells.2.2.2.2.2.1
  have fy4 := y4.free.2.2.2.2.2.1
  have I4 := I3.va (v := (ao4, ln4, cp4)) hgl hb4 hr4 hu4
  clear H4 hr4 hb4 hu4 I3 y4
  obtain ⟨sv, J⟩ : ∃ sv, Inv g w _ _ sv := ⟨_, I4⟩
  go_upto_region 6 with fail
  generalize w4.setCell ⟨w.heap.size + 1, 5, none⟩ (.slice ao4 ln4 cp4) = W at *
  have hq := J.lt
  have T := TeS.fin HR.out hgl J
  obtain ⟨k0, k1, k2, k3, k4, k5, k6, k7, k8, k9, k10, k11, k12⟩ := J.box.cells
  obtain ⟨m0, m1, m2, m3, m4, m5, m6, m7, m8, m9, m10, m11, m12⟩ := J.zero.cells
  obtain ⟨n0, n1, n2, n3, n4, n5, n6, n7, n8, n9, n10, n11, n12⟩ := J.zero.free
  replace T : Hid _ := hid T
  clear I4 J HR
  go_wp2
  refine bodyPost_ret (v := stV sv) (by simp [results, Tryz.results89, go_sem, stV, m0, m1, m2, m3, m4, m5, m6, m7, m8, m9, m10, m11, m12]) rfl ?_
  exact T.out

set_option maxRecDepth 100000 in
set_option maxHeartbeats 2000000 in
theorem pDelete_any {g : Nat} {S : Sa} {w : World} (h : Rp w g S 0) : Calls Tryz.prog 91 #[.pointer (some ⟨g, 0, none⟩)] w (TeS g w (runP deleteP S)) := by
  have hgl := h.lt
  have hmf : ∀ (fn : Fn) (first cap : Array Value) (w : World), (Instr.makeFunc fn first cap).run Tryz.prog w = .ok (.func fn first cap) w := fun _ _ _ _ => rfl
  have I0 : Inv g w (startR 8 S) ((w.alloc (.cells #[.int .i64 0, .string ⟨#[]⟩, .string ⟨#[]⟩, .slice none 0 0, .slice none 0 0, .slice none 0 0, .slice none 0 0, .string ⟨#[]⟩, .slice none 0 0, .slice none 0 0, .slice none 0 0, .bool false, .slice none 0 0] 29)).alloc (.cells #[.int .i64 8, .string ⟨#[]⟩, .string ⟨#[]⟩, .slice none 0 0, .slice none 0 0, .slice none 0 0, .slice none 0 0, .string ⟨#[]⟩, .slice none 0 0, .slice none 0 0, .slice none 0 0, .bool false, .slice none 0 0] 29)) (zS 8) := Inv.start h 8
  have HR : Hid (runP deleteP S = _) := hid (deleteP_run S)
  clear h
  go_enter Tryz.func91, Tryz.ntmps91
  have H1 : Hid _ := hid (pWant1 I0.rp ⟨#[102, 114, 111, 109]⟩ (b := w.heap.size + 1 + 1) (by simp))
  go_wp2_with fail
  refine Calls.mono H1.out ?_
  rintro e w1 ⟨rfl, hr1, hb1⟩
  have I1 := I0.want hgl hr1 hb1
  clear H1 hr1 hb1 I0
  have H2 : Hid _ := hid (pName_any I1.rp)
  go_wp2_with fail
  refine Calls.mono H2.out ?_
  rintro e w2 ⟨s2, rfl, hb2, hr2, hu2⟩
  have y2 := I1.box.but hb2 (by omega)
  have cy2 := y2.cells.2.1
  have fy2 := y2.free.2.1
  have I2 := I1.tb hgl hb2 hr2 hu2
  clear H2 hr2 hb2 hu2 I1 y2
  have H3 : Hid _ := hid (pBehind_any ⟨#[119, 104, 101, 114, 101]⟩ I2.rp (part_expr g))
  go_wp2_with fail
  refine Calls.mono H3.out ?_
  rintro e w3 ⟨ao3, ln3, cp3, rfl, hb3, hr3, hu3⟩
  have y3 := I2.box.but hb3 (by omega)
  have cy3 := y3.cells.2.2.2.2.2.2.2.2.2.1
  have fy3 := y3.free.2.2.2.2.2.2.2.2.2.1
  have I3 := I2.wh (v := (ao3, ln3, cp3)) hgl hb3 hr3 hu3
  clear H3 hr3 hb3 hu3 I2 y3
  obtain ⟨sv, J⟩ : ∃ sv, Inv g w _ _ sv := ⟨_, I3⟩
  go_upto_region 5 with fail
  generalize w3.setCell ⟨w.heap.size + 1, 9, none⟩ (.slice ao3 ln3 cp3) = W at *
  have hq := J.lt
  have T := TeS.fin HR.out hgl J
  obtain ⟨k0, k1, k2, k3, k4, k5, k6, k7, k8, k9, k10, k11, k12⟩ := J.box.cells
  obtain ⟨m0, m1, m2, m3, m4, m5, m6, m7, m8, m9, m10, m11, m12⟩ := J.zero.cells
  obtain ⟨n0, n1, n2, n3, n4, n5, n6, n7, n8, n9, n10, n11, n12⟩ := J.zero.free
  replace T : Hid _ := hid T
  clear I3 J HR
  go_wp2
  refine bodyPost_ret (v := stV sv) (by simp [results, Tryz.results91, go_sem, stV, m0, m1, m2, m3, m4, m5, m6, m7, m8, m9, m10, m11, m12]) rfl ?_
  exact T.out

end Go.Proofs.YtjlmcnbmhgabpaaGreat
