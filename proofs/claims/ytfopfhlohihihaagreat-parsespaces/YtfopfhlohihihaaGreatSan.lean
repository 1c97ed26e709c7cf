import Derived.Test.YtfopfhlohihihaaGreatSam
namespace Go.Proofs.YtfopfhlohihihaaGreat
open Go.RowKit
set_option linter.unusedVariables false
set_option linter.unusedSimpArgs false
def expr1P (r : List Tk) : Re (List Tr) := mapR (fun x => [x]) (exprP 64 r)
theorem expr1_st (S : Sa) : stO (runP expr1P S) = stO (runP (exprP 64) S) := by
 rw [show runP expr1P S = mapR (fun x => [x]) (runP (exprP 64) S) from map_run _ _ S,stO_mapR]
theorem expr_row {g : Nat} {S : Sa} {w1 w2 : World} {o : Int} {p : Pay} {a : Option Addr} {m c : Nat} (hb : But g w1 w2) (hx : ∀ t r,runP (exprP 64) S = .inr (t,r) → Ex (fun b => w1.heap.size ≤ b) w2 t (exV o p (.slice a m c))) :
  ∀ u r,runP expr1P S = .inr (u,r) → RowIs eExpr (fun b => w1.heap.size ≤ b) (w2.alloc (.cells #[.int .i64 o,.int .i64 p.1,.int .i64 p.2.1,.string p.2.2.1,.string p.2.2.2.1,.string p.2.2.2.2,.slice a m c] 60)) (.slice (some ⟨w2.heap.size,0,none⟩) 1 1) u := by
 intro u r e
 rw [show runP expr1P S = mapR (fun x => [x]) (runP (exprP 64) S) from map_run _ _ S] at e
 obtain ⟨t,e2,rfl⟩ := mapR_inr e
 exact row_one w2 t o p a m c _ hb.size (hx t r e2)
theorem Inv.swap {g : Nat} {w : World} {R : Re Sm} {w1 : World} {s : Sv} {o : Obj} {i : Nat} {v : Value} (h : Inv g w R ((w1.alloc o).setCell ⟨w.heap.size + 1,i,none⟩ v) s) (hl : w.heap.size + 1 < w1.heap.size) : Inv g w R ((w1.setCell ⟨w.heap.size + 1,i,none⟩ v).alloc o) s := by
 rw [World.setCell_alloc_past o _ i v hl] at h
 exact h
def updateP (ts : List Tk) : Re Sm := fillR behindP up_wh (fillR expr1P up_va (wantR ⟨#[61]⟩ (fillR nameP up_nm (wantR ⟨#[115,101,116]⟩ (fillR nameP up_tb (startR 7 (.inr ts)))))))
theorem updateP_run (S : Sa) : runP updateP S = fillR behindP up_wh (fillR expr1P up_va (wantR ⟨#[61]⟩ (fillR nameP up_nm (wantR ⟨#[115,101,116]⟩ (fillR nameP up_tb (startR 7 S)))))) := by cases S <;> rfl
set_option maxRecDepth 100000 in
set_option maxHeartbeats 2000000 in
theorem pUpdate_any {g : Nat} {S : Sa} {w : World} (h : Rp w g S 0) : Calls Tryz.prog 84 #[.pointer (some ⟨g,0,none⟩)] w (TeS g w (runP updateP S)) := by
 have hgl := h.lt
 have hmf : ∀ (fn : Fn) (first cap : Array Value) (w : World),(Instr.makeFunc fn first cap).run Tryz.prog w = .ok (.func fn first cap) w := fun _ _ _ _ => rfl
 have I0 : Inv g w (startR 7 S) ((w.alloc (.cells #[.int .i64 0,.string ⟨#[]⟩,.string ⟨#[]⟩,.slice none 0 0,.slice none 0 0,.slice none 0 0,.slice none 0 0,.string ⟨#[]⟩,.slice none 0 0,.slice none 0 0,.slice none 0 0,.bool false,.slice none 0 0] 30)).alloc (.cells #[.int .i64 7,.string ⟨#[]⟩,.string ⟨#[]⟩,.slice none 0 0,.slice none 0 0,.slice none 0 0,.slice none 0 0,.string ⟨#[]⟩,.slice none 0 0,.slice none 0 0,.slice none 0 0,.bool false,.slice none 0 0] 30)) (zS 7) := Inv.start h 7
 have HR : Hid (runP updateP S = _) := hid (updateP_run S)
 clear h
 go_enter Tryz.func84,Tryz.ntmps84
 have H1 : Hid _ := hid (pName_any I0.rp)
 go_wp2_with fail
 refine Calls.mono H1.out ?_
 rintro e w1 ⟨s1,rfl,hb1,hr1,hu1⟩
 have y1 := I0.box.but hb1 (by omega)
 have cy1 := y1.cells.2.1
 have fy1 := y1.free.2.1
 have I1 := I0.tb hgl hb1 hr1 hu1
 clear H1 hr1 hb1 hu1 I0 y1
 have H2 : Hid _ := hid (pWant1 I1.rp ⟨#[115,101,116]⟩ (sz_set _ _ _))
 go_wp2_with fail
 refine Calls.mono H2.out ?_
 rintro e w2 ⟨rfl,hr2,hb2⟩
 have I2 := I1.want hgl hr2 hb2
 clear H2 hr2 hb2 I1
 have H3 : Hid _ := hid (pName_any I2.rp)
 go_wp2_with fail
 refine Calls.mono H3.out ?_
 rintro e w3 ⟨s3,rfl,hb3,hr3,hu3⟩
 have y3 := I2.box.but hb3 (by omega)
 have cy3 := y3.cells.2.2.1
 have fy3 := y3.free.2.2.1
 have I3 := I2.nm hgl hb3 hr3 hu3
 clear H3 hr3 hb3 hu3 I2 y3
 have H4 : Hid _ := hid (pWant1 I3.rp ⟨#[61]⟩ (sz_set _ _ _))
 go_wp2_with fail
 refine Calls.mono H4.out ?_
 rintro e w4 ⟨rfl,hr4,hb4⟩
 have I4 := I3.want hgl hr4 hb4
 clear H4 hr4 hb4 I3
 have H5 : Hid _ := hid (expr_any I4.rp)
 go_wp2_with fail
 refine Calls.mono H5.out ?_
 rintro e w5 ⟨o5,p5,a5,l5,c5,rfl,hb5,hr5,hx5⟩
 have hu5 := expr_row hb5 hx5
 have hbb5 := hb5.alloc (.cells #[.int .i64 o5,.int .i64 p5.1,.int .i64 p5.2.1,.string p5.2.2.1,.string p5.2.2.2.1,.string p5.2.2.2.2,.slice a5 l5 c5] 60)
 have hrr5 := hr5.alloc (.cells #[.int .i64 o5,.int .i64 p5.1,.int .i64 p5.2.1,.string p5.2.2.1,.string p5.2.2.2.1,.string p5.2.2.2.2,.slice a5 l5 c5] 60)
 rw [← expr1_st] at hrr5
 have y5 := I4.box.but hb5 (by omega)
 have cy5 := y5.cells.2.2.2.2.2.1
 have fy5 := y5.free.2.2.2.2.2.1
 have hz5 := y5.lt
 have I5 := (I4.va (v := (some ⟨w5.heap.size,0,none⟩,1,1)) hgl hbb5 hrr5 hu5).swap hz5
 clear H5 hr5 hb5 hx5 hu5 hbb5 hrr5 I4 y5
 unfold exV
 have H6 : Hid _ := hid (pBehind_any ⟨#[119,104,101,114,101]⟩ I5.rp (part_expr g))
 go_wp2_with fail
 refine Calls.mono H6.out ?_
 rintro e w6 ⟨ao6,ln6,cp6,rfl,hb6,hr6,hu6⟩
 have y6 := I5.box.but hb6 (by omega)
 have cy6 := y6.cells.2.2.2.2.2.2.2.2.2.1
 have fy6 := y6.free.2.2.2.2.2.2.2.2.2.1
 have I6 := I5.wh (v := (ao6,ln6,cp6)) hgl hb6 hr6 hu6
 clear H6 hr6 hb6 hu6 I5 y6
 obtain ⟨sv,J⟩ : ∃ sv,Inv g w _ _ sv := ⟨_,I6⟩
 go_upto_region 8 with fail
 generalize w6.setCell ⟨w.heap.size + 1,9,none⟩ (.slice ao6 ln6 cp6) = W at *
 have hq := J.lt
 have T := TeS.fin HR.out hgl J
 obtain ⟨k0,k1,k2,k3,k4,k5,k6,k7,k8,k9,k10,k11,k12⟩ := J.box.cells
 obtain ⟨m0,m1,m2,m3,m4,m5,m6,m7,m8,m9,m10,m11,m12⟩ := J.zero.cells
 obtain ⟨n0,n1,n2,n3,n4,n5,n6,n7,n8,n9,n10,n11,n12⟩ := J.zero.free
 replace T : Hid _ := hid T
 clear I6 J HR
 go_wp2
 refine bodyPost_ret (v := stV sv) (by simp [results,Tryz.results84,go_sem,stV,m0,m1,m2,m3,m4,m5,m6,m7,m8,m9,m10,m11,m12]) rfl ?_
 exact T.out
def takeR (s : ByteArray) (R : Re Sm) : Re Sm := thenR R fun m r => .inr (m,if isTk s r then r.tail else r)
theorem take_st (s : ByteArray) (R : Re Sm) : stO (takeR s R) = takeS s (stO R) := by
 cases R with
 | inl x => rfl
 | inr x =>
  show (Sum.inr (if isTk s x.2 then x.2.tail else x.2) : Sa) = (if isTk s x.2 then .inr x.2.tail else .inr x.2)
  split <;> rfl
theorem Inv.take {g : Nat} {w : World} {R : Re Sm} {w1 w2 : World} {s : Sv} (h : Inv g w R w1 s) (hg : g < w.heap.size) {t : ByteArray} (hr : Rp w2 g (takeS t (stO R)) 0) (hb : But g w1 w2) : Inv g w (takeR t R) w2 s := by
 refine ⟨h.but.trans hb,by rw [take_st]; exact hr,h.box.but hb (by omega),h.zero.but hb (by omega),fun m r e => ?_⟩
 obtain ⟨m',q,e1,e2⟩ := thenR_inr e
 cases e2
 exact ⟨(h.is m q e1).1.keep fun b hq hlt => hb.block b hlt (by omega),(h.is m q e1).2⟩
theorem Inv.same {g : Nat} {w : World} {R : Re Sm} {w1 w2 : World} {s : Sv} (h : Inv g w R w1 s) (hg : g < w.heap.size) (hr : Rp w2 g (stO R) 0) (hb : But g w1 w2) : Inv g w R w2 s :=
 ⟨h.but.trans hb,hr,h.box.but hb (by omega),h.zero.but hb (by omega),fun m r e => ⟨(h.is m r e).1.keep fun b hq hlt => hb.block b hlt (by omega),(h.is m r e).2⟩⟩
theorem Inv.conv {g : Nat} {w : World} {R R' : Re Sm} {w1 : World} {s : Sv} (h : Inv g w R w1 s) (e : R' = R) : Inv g w R' w1 s := e ▸ h
theorem takeB_inr {s : ByteArray} {R : Re Sm} (h : takeB s (stO R) = true) : ∃ m t ts,R = .inr (m,t :: ts) ∧ isTk s (t :: ts) = true := by
 obtain ⟨t,ts,hS,_,_⟩ := takeB_true h
 obtain ⟨m,hm⟩ := stO_inr hS
 rw [hS] at h
 exact ⟨m,t,ts,hm,h⟩
def starP (ts : List Tk) : Re (List It) := if isTk ⟨#[42]⟩ ts then .inr ([],ts.tail) else listP itemP ts
theorem star_true {R : Re Sm} (h : takeB ⟨#[42]⟩ (stO R) = true) : fillR starP up_it R = fillR (fun ts => .inr ([],ts)) up_it (takeR ⟨#[42]⟩ R) := by
 obtain ⟨m,t,ts,rfl,hb⟩ := takeB_inr h
 show mapR (up_it m) (starP (t :: ts)) = mapR (up_it m) (Sum.inr ([],if isTk ⟨#[42]⟩ (t :: ts) then ts else t :: ts))
 rw [starP,if_pos hb,if_pos hb]
 rfl
theorem star_false {R : Re Sm} (h : takeB ⟨#[42]⟩ (stO R) = false) : fillR starP up_it R = fillR (listP itemP) up_it R := by
 match R with
 | .inl x => rfl
 | .inr (m,ts) =>
  have h' : isTk ⟨#[42]⟩ ts = false := h
  show mapR (up_it m) (starP ts) = mapR (up_it m) (listP itemP ts)
  rw [starP,if_neg (by rw [h']; simp)]
theorem Inv.it0 {g : Nat} {w : World} {R : Re Sm} {w1 : World} {s : Sv} (h : Inv g w R w1 s) (hs : s.it = (none,0,0)) : Inv g w (fillR (fun ts => .inr ([],ts)) up_it R) w1 s := by
 refine ⟨h.but,by rw [fill_st]; have := h.rp; cases R <;> exact this,h.box,h.zero,fun m r e => ?_⟩
 obtain ⟨m0,q,x,e1,e2,rfl⟩ := fill_inr e
 rw [e1] at e2
 cases e2
 exact ⟨{ (h.is m0 q e1).1 with it := by rw [hs]; exact RowIs.nil _ _ _ },(h.is m0 q e1).2⟩
def up_jo (m : Sm) (x : ByteArray × List Tr) : Sm := { m with join := x.1,on := x.2 }
def joinP : List Tk → Re (ByteArray × List Tr) := optP ⟨#[106,111,105,110]⟩ (⟨#[]⟩,[]) (seqP Prod.mk nameP onP)
theorem join_true {R : Re Sm} (h : takeB ⟨#[106,111,105,110]⟩ (stO R) = true) : fillR joinP up_jo R = fillR onP up_on (fillR nameP up_jn (takeR ⟨#[106,111,105,110]⟩ R)) := by
 obtain ⟨m,t,ts,rfl,hb⟩ := takeB_inr h
 show mapR (up_jo m) (joinP (t :: ts)) = fillR onP up_on (mapR (up_jn m) (nameP (if isTk ⟨#[106,111,105,110]⟩ (t :: ts) then ts else t :: ts)))
 rw [joinP,optP,if_pos hb,if_pos hb]
 show mapR (up_jo m) (thenR (nameP ts) fun a r => mapR (Prod.mk a) (onP r)) = _
 cases nameP ts with
 | inl x => rfl
 | inr x =>
  show mapR (up_jo m) (mapR (Prod.mk x.1) (onP x.2)) = mapR (up_on (up_jn m x.1)) (onP x.2)
  cases onP x.2 <;> rfl
theorem Inv.jo0 {g : Nat} {w : World} {R : Re Sm} {w1 : World} {s : Sv} (h : Inv g w R w1 s) (hb : takeB ⟨#[106,111,105,110]⟩ (stO R) = false) (hs : s.jn = ⟨#[]⟩) (ho : s.on = (none,0,0)) : Inv g w (fillR joinP up_jo R) w1 s := by
 obtain ⟨q1,q2⟩ := opt_false (z := ((⟨#[]⟩,[]) : ByteArray × List Tr)) (P := seqP Prod.mk nameP onP) hb
 refine ⟨h.but,by rw [fill_st,joinP,q1]; exact h.rp,h.box,h.zero,fun m r e => ?_⟩
 obtain ⟨m0,q,x,e1,e2,rfl⟩ := fill_inr e
 have := q2 x r e2
 subst this
 exact ⟨{ (h.is m0 q e1).1 with jn := hs,on := by rw [ho]; exact RowIs.nil _ _ _ },(h.is m0 q e1).2⟩
def up_oo (m : Sm) (x : List Tr × Bool) : Sm := { m with order := x.1,desc := x.2 }
def descP (ts : List Tk) : Re Bool := .inr (isTk ⟨#[100,101,115,99]⟩ ts,if isTk ⟨#[100,101,115,99]⟩ ts then ts.tail else ts)
def ordP : List Tk → Re (List Tr × Bool) := optP ⟨#[111,114,100,101,114]⟩ ([],false) (seqP Prod.mk orderP descP)
theorem desc_st (S : Sa) : stO (runP descP S) = takeS ⟨#[100,101,115,99]⟩ S := by
 match S with
 | .inl x => rfl
 | .inr ts =>
  show (Sum.inr (if isTk ⟨#[100,101,115,99]⟩ ts then ts.tail else ts) : Sa) = (if isTk ⟨#[100,101,115,99]⟩ ts then .inr ts.tail else .inr ts)
  split <;> rfl
theorem desc_inr {S : Sa} {x : Bool} {r : List Tk} (h : runP descP S = .inr (x,r)) : takeB ⟨#[100,101,115,99]⟩ S = x := by
 match S with
 | .inl y => cases h
 | .inr ts => cases h; rfl
theorem ord_true {R : Re Sm} (h : takeB ⟨#[111,114,100,101,114]⟩ (stO R) = true) : fillR ordP up_oo R = fillR descP up_ds (fillR orderP up_od (takeR ⟨#[111,114,100,101,114]⟩ R)) := by
 obtain ⟨m,t,ts,rfl,hb⟩ := takeB_inr h
 show mapR (up_oo m) (ordP (t :: ts)) = fillR descP up_ds (mapR (up_od m) (orderP (if isTk ⟨#[111,114,100,101,114]⟩ (t :: ts) then ts else t :: ts)))
 rw [ordP,optP,if_pos hb,if_pos hb]
 show mapR (up_oo m) (thenR (orderP ts) fun a r => mapR (Prod.mk a) (descP r)) = _
 cases orderP ts with
 | inl x => rfl
 | inr x => rfl
theorem Inv.oo0 {g : Nat} {w : World} {R : Re Sm} {w1 : World} {s : Sv} (h : Inv g w R w1 s) (hb : takeB ⟨#[111,114,100,101,114]⟩ (stO R) = false) (hs : s.ds = false) (ho : s.od = (none,0,0)) : Inv g w (fillR ordP up_oo R) w1 s := by
 obtain ⟨q1,q2⟩ := opt_false (z := (([],false) : List Tr × Bool)) (P := seqP Prod.mk orderP descP) hb
 refine ⟨h.but,by rw [fill_st,ordP,q1]; exact h.rp,h.box,h.zero,fun m r e => ?_⟩
 obtain ⟨m0,q,x,e1,e2,rfl⟩ := fill_inr e
 have := q2 x r e2
 subst this
 exact ⟨{ (h.is m0 q e1).1 with ds := hs,od := by rw [ho]; exact RowIs.nil _ _ _ },(h.is m0 q e1).2⟩
def queryP (ts : List Tk) : Re Sm := fillR ordP up_oo (fillR behindP up_wh (fillR joinP up_jo (fillR nameP up_tb (wantR ⟨#[102,114,111,109]⟩ (fillR starP up_it (wantR ⟨#[115,101,108,101,99,116]⟩ (startR 6 (.inr ts))))))))
theorem queryP_run (S : Sa) : runP queryP S = fillR ordP up_oo (fillR behindP up_wh (fillR joinP up_jo (fillR nameP up_tb (wantR ⟨#[102,114,111,109]⟩ (fillR starP up_it (wantR ⟨#[115,101,108,101,99,116]⟩ (startR 6 S))))))) := by cases S <;> rfl
set_option maxRecDepth 100000 in
set_option maxHeartbeats 4000000 in
theorem pQuery_any {g : Nat} {S : Sa} {w : World} (h : Rp w g S 0) : Calls Tryz.prog 47 #[.pointer (some ⟨g,0,none⟩)] w (TeS g w (runP queryP S)) := by
 have hgl := h.lt
 have hmf : ∀ (fn : Fn) (first cap : Array Value) (w : World),(Instr.makeFunc fn first cap).run Tryz.prog w = .ok (.func fn first cap) w := fun _ _ _ _ => rfl
 have I0 : Inv g w (startR 6 S) ((w.alloc (.cells #[.int .i64 0,.string ⟨#[]⟩,.string ⟨#[]⟩,.slice none 0 0,.slice none 0 0,.slice none 0 0,.slice none 0 0,.string ⟨#[]⟩,.slice none 0 0,.slice none 0 0,.slice none 0 0,.bool false,.slice none 0 0] 30)).alloc (.cells #[.int .i64 6,.string ⟨#[]⟩,.string ⟨#[]⟩,.slice none 0 0,.slice none 0 0,.slice none 0 0,.slice none 0 0,.string ⟨#[]⟩,.slice none 0 0,.slice none 0 0,.slice none 0 0,.bool false,.slice none 0 0] 30)) (zS 6) := Inv.start h 6
 have HR : Hid (runP queryP S = _) := hid (queryP_run S)
 clear h
 go_enter Tryz.func47,Tryz.ntmps47
 have H1 : Hid _ := hid (pWant1 I0.rp ⟨#[115,101,108,101,99,116]⟩ (b := w.heap.size + 1 + 1) (by simp))
 go_wp2_with fail
 refine Calls.mono H1.out ?_
 rintro e w1 ⟨rfl,hr1,hb1⟩
 have I1 := I0.want hgl hr1 hb1
 clear H1 hr1 hb1 I0
 have HT : Hid _ := hid (pTake_any I1.rp ⟨#[42]⟩)
 go_wp2_with fail
 refine Calls.mono HT.out ?_
 rintro e w2 ⟨rfl,hr2,hb2⟩
 clear HT
 go_upto_if 10 with fail
 go_cut [] (fun w' => ∃ sv,Inv g w (fillR starP up_it (wantR ⟨#[115,101,108,101,99,116]⟩ (startR 6 S))) w' sv ∧ sv.jn = ⟨#[]⟩ ∧ sv.on = (none,0,0) ∧ sv.od = (none,0,0) ∧ sv.ds = false)
 case first =>
  cases hb : takeB ⟨#[42]⟩ (stO (wantR ⟨#[115,101,108,101,99,116]⟩ (startR 6 S))) with
  | true =>
   have I2 := ((I1.take hgl hr2 hb2).it0 rfl).conv (star_true hb)
   clear hb hr2 hb2 I1
   go_wp2_with fail
   go_meet
   exact ⟨_,I2,rfl,rfl,rfl,rfl⟩
  | false =>
   rw [takeB_false hb] at hr2
   have I2 := I1.same hgl hr2 hb2
   have HL : Hid _ := hid (pListItem_any I2.rp (part_item g) shr_item)
   have e1 := star_false hb
   have E1 : Hid _ := hid e1
   clear hb hr2 hb2 I1 e1
   go_wp2_with fail
   refine Calls.mono HL.out ?_
   rintro e w3 ⟨ao3,ln3,cp3,rfl,hb3,hr3,hu3⟩
   have y3 := I2.box.but hb3 (by omega)
   have cy3 := y3.cells.2.2.2.2.2.2.1
   have fy3 := y3.free.2.2.2.2.2.2.1
   have I3 := (I2.it (v := (ao3,ln3,cp3)) hgl hb3 hr3 hu3).conv E1.out
   clear HL hb3 hr3 hu3 y3 I2 E1
   go_wp2_with fail
   go_meet
   exact ⟨_,I3,rfl,rfl,rfl,rfl⟩
 case rest =>
  obtain ⟨sv2,I2,hj2,ho2,hd2,hs2⟩ := hcut
  clear I1 hr2 hb2
  have H3 : Hid _ := hid (pWant1 I2.rp ⟨#[102,114,111,109]⟩ )
  go_wp2_with fail
  refine Calls.mono H3.out ?_
  rintro e w3 ⟨rfl,hr3,hb3⟩
  have I3 := I2.want hgl hr3 hb3
  clear H3 hr3 hb3 I2
  have H4 : Hid _ := hid (pName_any I3.rp)
  go_wp2_with fail
  refine Calls.mono H4.out ?_
  rintro e w4 ⟨s4,rfl,hb4,hr4,hu4⟩
  have y4 := I3.box.but hb4 (by omega)
  have cy4 := y4.cells.2.1
  have fy4 := y4.free.2.1
  have I4 := I3.tb hgl hb4 hr4 hu4
  clear H4 hr4 hb4 hu4 I3 y4
  have HT : Hid _ := hid (pTake_any I4.rp ⟨#[106,111,105,110]⟩)
  go_wp2_with fail
  refine Calls.mono HT.out ?_
  rintro e w5 ⟨rfl,hr5,hb5⟩
  clear HT
  go_upto_if 23 with fail
  go_cut [] (fun w' => ∃ sv,Inv g w (fillR joinP up_jo (fillR nameP up_tb (wantR ⟨#[102,114,111,109]⟩ (fillR starP up_it (wantR ⟨#[115,101,108,101,99,116]⟩ (startR 6 S)))))) w' sv ∧ sv.od = (none,0,0) ∧ sv.ds = false)
  case first =>
   generalize hRR : fillR nameP up_tb (wantR ⟨#[102,114,111,109]⟩ (fillR starP up_it (wantR ⟨#[115,101,108,101,99,116]⟩ (startR 6 S)))) = RR at *
   cases hb : takeB ⟨#[106,111,105,110]⟩ (stO RR) with
   | false =>
    rw [takeB_false hb] at hr5
    have I5 := (I4.same hgl hr5 hb5).jo0 hb hj2 ho2
    clear hb hr5 hb5 I4 hRR
    go_wp2_with fail
    go_meet
    exact ⟨_,I5,hd2,hs2⟩
   | true =>
    have I5 := I4.take hgl hr5 hb5
    have E1 : Hid _ := hid (join_true hb)
    have HN : Hid _ := hid (pName_any I5.rp)
    clear hb hr5 hb5 I4 hRR
    go_wp2_with fail
    refine Calls.mono HN.out ?_
    rintro e w6 ⟨s6,rfl,hb6,hr6,hu6⟩
    have y6 := I5.box.but hb6 (by omega)
    have cy6 := y6.cells.2.2.2.2.2.2.2.1
    have fy6 := y6.free.2.2.2.2.2.2.2.1
    have I6 := I5.jn hgl hb6 hr6 hu6
    have HL : Hid _ := hid (pOn_any I6.rp)
    clear HN hb6 hr6 hu6 y6 I5
    go_wp2_with fail
    refine Calls.mono HL.out ?_
    rintro e w7 ⟨ao7,ln7,cp7,rfl,hb7,hr7,hu7⟩
    have y7 := I6.box.but hb7 (by omega)
    have cy7 := y7.cells.2.2.2.2.2.2.2.2.1
    have fy7 := y7.free.2.2.2.2.2.2.2.2.1
    have I7 := (I6.on (v := (ao7,ln7,cp7)) hgl hb7 hr7 hu7).conv E1.out
    clear HL hb7 hr7 hu7 y7 I6 E1
    go_wp2_with fail
    go_meet
    exact ⟨_,I7,hd2,hs2⟩
  case rest =>
   obtain ⟨sv6,I6,hd6,hs6⟩ := hcut
   clear I4 hr5 hb5 hj2 ho2 hd2 hs2
   have H7 : Hid _ := hid (pBehind_any ⟨#[119,104,101,114,101]⟩ I6.rp (part_expr g))
   go_wp2_with fail
   refine Calls.mono H7.out ?_
   rintro e w7 ⟨ao7,ln7,cp7,rfl,hb7,hr7,hu7⟩
   have y7 := I6.box.but hb7 (by omega)
   have cy7 := y7.cells.2.2.2.2.2.2.2.2.2.1
   have fy7 := y7.free.2.2.2.2.2.2.2.2.2.1
   have I7 := I6.wh (v := (ao7,ln7,cp7)) hgl hb7 hr7 hu7
   clear H7 hr7 hb7 hu7 I6 y7
   have HT := pTake_any I7.rp ⟨#[111,114,100,101,114]⟩
   have HR' : Hid (runP queryP S = fillR ordP up_oo (fillR behindP up_wh (fillR joinP up_jo (fillR nameP up_tb (wantR ⟨#[102,114,111,109]⟩ (fillR starP up_it (wantR ⟨#[115,101,108,101,99,116]⟩ (startR 6 S)))))))) := HR
   generalize hRR : fillR (optP ⟨#[119,104,101,114,101]⟩ [] fun r => mapR (fun x => [x]) (exprP 64 r)) up_wh (fillR joinP up_jo (fillR nameP up_tb (wantR ⟨#[102,114,111,109]⟩ (fillR starP up_it (wantR ⟨#[115,101,108,101,99,116]⟩ (startR 6 S)))))) = RR at *
   have HR2 : Hid (runP queryP S = fillR ordP up_oo RR) := hid (by rw [← hRR]; exact HR'.out)
   clear HR HR' hRR
   cases hb : takeB ⟨#[111,114,100,101,114]⟩ (stO RR) with
   | false =>
    rw [hb,takeB_false hb] at HT
    replace HT : Hid _ := hid HT
    have HB : Hid _ := hid hb
    clear hb
    go_wp2_with fail
    refine Calls.mono HT.out ?_
    rintro e w8 ⟨rfl,hr8,hb8⟩
    have I8 := (I7.same hgl hr8 hb8).oo0 HB.out hs6 hd6
    have HR : Hid _ := HR2
    clear HT hr8 hb8 I7
    obtain ⟨sv,J⟩ : ∃ sv,Inv g w _ _ sv := ⟨_,I8⟩
    have hq := J.lt
    have T := TeS.fin HR.out hgl J
    obtain ⟨k0,k1,k2,k3,k4,k5,k6,k7,k8,k9,k10,k11,k12⟩ := J.box.cells
    obtain ⟨m0,m1,m2,m3,m4,m5,m6,m7,m8,m9,m10,m11,m12⟩ := J.zero.cells
    obtain ⟨n0,n1,n2,n3,n4,n5,n6,n7,n8,n9,n10,n11,n12⟩ := J.zero.free
    replace T : Hid _ := hid T
    clear I8 J HR
    go_wp2
    refine bodyPost_ret (v := stV sv) (by simp [results,Tryz.results47,go_sem,stV,m0,m1,m2,m3,m4,m5,m6,m7,m8,m9,m10,m11,m12]) rfl ?_
    exact T.out
   | true =>
    rw [hb] at HT
    replace HT : Hid _ := hid HT
    have E1 : Hid _ := hid (ord_true hb)
    clear hb
    go_wp2_with fail
    refine Calls.mono HT.out ?_
    rintro e w8 ⟨rfl,hr8,hb8⟩
    have I8 := I7.take hgl hr8 hb8
    clear HT hr8 hb8 I7
    have H9 : Hid _ := hid (pOrder_any I8.rp)
    go_wp2_with fail
    refine Calls.mono H9.out ?_
    rintro e w9 ⟨ao9,ln9,cp9,rfl,hb9,hr9,hu9⟩
    have y9 := I8.box.but hb9 (by omega)
    have cy9 := y9.cells.2.2.2.2.2.2.2.2.2.2.1
    have fy9 := y9.free.2.2.2.2.2.2.2.2.2.2.1
    have I9 := I8.od (v := (ao9,ln9,cp9)) hgl hb9 hr9 hu9
    clear H9 hr9 hb9 hu9 I8 y9
    have HT : Hid _ := hid (pTake_any I9.rp ⟨#[100,101,115,99]⟩)
    go_wp2_with fail
    refine Calls.mono HT.out ?_
    rintro e w10 ⟨rfl,hr10,hb10⟩
    have y10 := I9.box.but hb10 (by omega)
    have cy10 := y10.cells.2.2.2.2.2.2.2.2.2.2.2.1
    have fy10 := y10.free.2.2.2.2.2.2.2.2.2.2.2.1
    rw [← desc_st] at hr10
    have I10 := I9.ds (P := descP) hgl hb10 hr10 fun u r e => desc_inr e
    have HR : Hid _ := hid (HR2.out.trans E1.out)
    clear HT hr10 hb10 y10 I9
    obtain ⟨sv,J⟩ : ∃ sv,Inv g w _ _ sv := ⟨_,I10⟩
    go_upto_region 14 with fail
    generalize w10.setCell ⟨w.heap.size + 1,11,none⟩ (.bool (takeB ⟨#[100,101,115,99]⟩ (stO (fillR orderP up_od (takeR ⟨#[111,114,100,101,114]⟩ RR))))) = W at *
    have hq := J.lt
    have T := TeS.fin HR.out hgl J
    obtain ⟨k0,k1,k2,k3,k4,k5,k6,k7,k8,k9,k10,k11,k12⟩ := J.box.cells
    obtain ⟨m0,m1,m2,m3,m4,m5,m6,m7,m8,m9,m10,m11,m12⟩ := J.zero.cells
    obtain ⟨n0,n1,n2,n3,n4,n5,n6,n7,n8,n9,n10,n11,n12⟩ := J.zero.free
    replace T : Hid _ := hid T
    clear I10 J HR
    go_wp2
    refine bodyPost_ret (v := stV sv) (by simp [results,Tryz.results47,go_sem,stV,m0,m1,m2,m3,m4,m5,m6,m7,m8,m9,m10,m11,m12]) rfl ?_
    exact T.out
end Go.Proofs.YtfopfhlohihihaaGreat
