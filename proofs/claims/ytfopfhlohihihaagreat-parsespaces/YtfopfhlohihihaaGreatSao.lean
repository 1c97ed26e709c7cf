import Derived.Test.YtfopfhlohihihaaGreatSan
namespace Go.Proofs.YtfopfhlohihihaaGreat
open Go.RowKit
set_option linter.unusedVariables false
set_option linter.unusedSimpArgs false
theorem TeF.fin {g : Nat} {w w1 : World} {R : Re Sf} {s : Sv} (hg : g < w.heap.size) (hB : But g w w1) (hr : Rp w1 g (stO R) 0)
  (hx : ∀ m r,R = .inr (m,r) → IsS (fun b => w.heap.size + 1 ≤ b) w1 m.1 s ∧ RowIs eStmt (fun b => w.heap.size + 1 ≤ b) w1 (slV s.inn) m.2) : TeF g w R (.returned (stV s)) (set13 w1 w.heap.size s) := by
 refine ⟨s,rfl,hB.set13 (Nat.le_refl _) s,hr.set13 hg s,fun m r e => ?_⟩
 obtain ⟨h1,h2⟩ := hx m r e
 exact ⟨(h1.keep fun b hq hlt => set13_heap _ _ _ (by omega)).mono fun b hb _ => by omega,(h2.keep (by decide) fun b hq hlt => set13_heap _ _ _ (by omega)).mono (by decide) fun b hb _ => by omega⟩
theorem TeS.fin2 {g : Nat} {w w1 : World} {R : Re Sm} {s : Sv} (hg : g < w.heap.size) (hB : But g w w1) (hr : Rp w1 g (stO R) 0)
  (hx : ∀ m r,R = .inr (m,r) → IsS (fun b => w.heap.size + 1 ≤ b) w1 m s ∧ s.inn = (none,0,0)) : TeS g w R (.returned (stV s)) (set13 w1 w.heap.size s) := by
 refine ⟨s,rfl,hB.set13 (Nat.le_refl _) s,hr.set13 hg s,fun m r e => ?_⟩
 obtain ⟨h1,h2⟩ := hx m r e
 exact ⟨(h1.keep fun b hq hlt => set13_heap _ _ _ (by omega)).mono fun b hb _ => by omega,h2⟩
theorem row_stmt (w : World) (m : Sm) (s : Sv) (Q : Nat → Prop) {b : Nat} (hb : w.heap.size = b) (hq : Q b) (h : IsS Q w m s) (hi : s.inn = (none,0,0)) :
  RowIs eStmt Q (w.alloc (.cells #[.int .i64 s.k,.string s.tb,.string s.nm,.slice s.co.1 s.co.2.1 s.co.2.2,.slice s.ta.1 s.ta.2.1 s.ta.2.2,.slice s.va.1 s.va.2.1 s.va.2.2,.slice s.it.1 s.it.2.1 s.it.2.2,.string s.jn,.slice s.on.1 s.on.2.1 s.on.2.2,.slice s.wh.1 s.wh.2.1 s.wh.2.2,.slice s.od.1 s.od.2.1 s.od.2.2,.bool s.ds,.slice s.inn.1 s.inn.2.1 s.inn.2.2] 30)) (.slice (some ⟨b,0,none⟩) 1 1) [m] := by
 subst hb
 refine ⟨_,1,1,rfl,rfl,Nat.le_refl _,by omega,fun _ => ⟨w.heap.size,0,rfl,hq,fun i hi' => ?_⟩⟩
 obtain rfl : i = 0 := by simp at hi'; omega
 refine ⟨svC s,⟨s,rfl,h.keep fun b _ hlt => (bal (Below.refl _ w) _).block b hlt,hi⟩,rfl,fun j hj => ?_⟩
 have hj' : j < 13 := hj
 match j,hj' with
 | 0,_ => exact cell_new w _ _ _ 0
 | 1,_ => exact cell_new w _ _ _ 1
 | 2,_ => exact cell_new w _ _ _ 2
 | 3,_ => exact cell_new w _ _ _ 3
 | 4,_ => exact cell_new w _ _ _ 4
 | 5,_ => exact cell_new w _ _ _ 5
 | 6,_ => exact cell_new w _ _ _ 6
 | 7,_ => exact cell_new w _ _ _ 7
 | 8,_ => exact cell_new w _ _ _ 8
 | 9,_ => exact cell_new w _ _ _ 9
 | 10,_ => exact cell_new w _ _ _ 10
 | 11,_ => exact cell_new w _ _ _ 11
 | 12,_ => exact cell_new w _ _ _ 12
def tagsP (ts : List Tk) : Re (List Int) := if kdOf ts = 3 then listP tagP ts else .inr ([],ts)
theorem tags_3 {S : Sa} (h : (nxT S).1 = 3) : runP tagsP S = runP (listP tagP) S := by
 match S with
 | .inl x => rfl
 | .inr [] => exact absurd h (by decide)
 | .inr (t :: ts) =>
  have h' : kdOf (t :: ts) = 3 := h
  show tagsP (t :: ts) = _
  rw [tagsP,if_pos h']
  rfl
theorem tags_no {S : Sa} (h : (nxT S).1 ≠ 3) : stO (runP tagsP S) = S ∧ ∀ l r,runP tagsP S = .inr (l,r) → l = [] := by
 match S with
 | .inl x => exact ⟨rfl,fun l r e => by cases e⟩
 | .inr [] => exact ⟨rfl,fun l r e => by cases e; rfl⟩
 | .inr (t :: ts) =>
  have h' : kdOf (t :: ts) ≠ 3 := h
  have e : runP tagsP (.inr (t :: ts)) = .inr ([],t :: ts) := by
   show tagsP (t :: ts) = _
   rw [tagsP,if_neg h']
  rw [e]
  exact ⟨rfl,fun l r e => by cases e; rfl⟩
theorem Inv.ta0 {g : Nat} {w : World} {R : Re Sm} {w1 : World} {s : Sv} (h : Inv g w R w1 s) (hb : (nxT (stO R)).1 ≠ 3) (hs : s.ta = (none,0,0)) : Inv g w (fillR tagsP up_ta R) w1 s := by
 obtain ⟨q1,q2⟩ := tags_no hb
 refine ⟨h.but,by rw [fill_st,q1]; exact h.rp,h.box,h.zero,fun m r e => ?_⟩
 obtain ⟨m0,q,x,e1,e2,rfl⟩ := fill_inr e
 have := q2 x r e2
 subst this
 exact ⟨{ (h.is m0 q e1).1 with ta := by rw [hs]; exact RowIs.nil _ _ _ },(h.is m0 q e1).2⟩
theorem fill_run {α : Type} {P P' : List Tk → Re α} {f : Sm → α → Sm} {R : Re Sm} (h : runP P (stO R) = runP P' (stO R)) : fillR P f R = fillR P' f R := by
 cases R with
 | inl x => rfl
 | inr x =>
  have h' : P x.2 = P' x.2 := h
  show mapR (f x.1) (P x.2) = mapR (f x.1) (P' x.2)
  rw [h']
def doorR (k : Int) (P : List Tk → Re Sm) (S : Sa) : Re Sf := thenR (wantR ⟨#[97,115]⟩ (fillR tagsP up_ta (wantR ⟨#[115,116,114,105,112]⟩ (fillR nameP up_nm (startR k S))))) fun m r => mapR (fun x => (m,[x])) (P r)
def doorP (k : Int) (P : List Tk → Re Sm) (ts : List Tk) : Re Sf := doorR k P (.inr ts)
theorem doorP_run (k : Int) (P : List Tk → Re Sm) (S : Sa) : runP (doorP k P) S = doorR k P S := by cases S <;> rfl
theorem inner_st {R : Re Sm} {P : List Tk → Re Sm} : stO (thenR R fun m r => mapR (fun x => ((m,[x]) : Sf)) (P r)) = stO (runP P (stO R)) := by
 cases R with
 | inl x => rfl
 | inr x =>
  show stO (mapR (fun y => ((x.1,[y]) : Sf)) (P x.2)) = stO (P x.2)
  exact stO_mapR _ _
theorem inner_inr {R : Re Sm} {P : List Tk → Re Sm} {m : Sf} {r : List Tk} (h : (thenR R fun m r => mapR (fun x => ((m,[x]) : Sf)) (P r)) = .inr (m,r)) : ∃ a q x,R = .inr (a,q) ∧ runP P (stO R) = .inr (x,r) ∧ m = (a,[x]) := by
 obtain ⟨a,q,h1,h2⟩ := thenR_inr h
 obtain ⟨x,h3,h4⟩ := mapR_inr h2
 subst h1
 exact ⟨a,q,x,rfl,h3,h4⟩
set_option maxRecDepth 100000 in
set_option maxHeartbeats 4000000 in
theorem pDoor_any {g : Nat} {S : Sa} {w : World} {k : Int} {P : List Tk → Re Sm} {v : Value} (h : Rp w g S 0) (hv : PartV g (TeS g) P v) : Calls Tryz.prog 74 #[.pointer (some ⟨g,0,none⟩),.int .i64 k,v] w (TeF g w (runP (doorP k P) S)) := by
 have hgl := h.lt
 obtain ⟨N,rfl,hN,hc⟩ := hv
 have HC : Hid _ := hid hc
 have hmf : ∀ (fn : Fn) (first cap : Array Value) (w : World),(Instr.makeFunc fn first cap).run Tryz.prog w = .ok (.func fn first cap) w := fun _ _ _ _ => rfl
 have I0 : Inv g w (startR k S) ((w.alloc (.cells #[.int .i64 0,.string ⟨#[]⟩,.string ⟨#[]⟩,.slice none 0 0,.slice none 0 0,.slice none 0 0,.slice none 0 0,.string ⟨#[]⟩,.slice none 0 0,.slice none 0 0,.slice none 0 0,.bool false,.slice none 0 0] 30)).alloc (.cells #[.int .i64 k,.string ⟨#[]⟩,.string ⟨#[]⟩,.slice none 0 0,.slice none 0 0,.slice none 0 0,.slice none 0 0,.string ⟨#[]⟩,.slice none 0 0,.slice none 0 0,.slice none 0 0,.bool false,.slice none 0 0] 30)) (zS k) := Inv.start h k
 have HR : Hid (runP (doorP k P) S = _) := hid (doorP_run k P S)
 clear h hc
 go_enter Tryz.func74,Tryz.ntmps74
 have H1 : Hid _ := hid (pName_any I0.rp)
 go_wp2_with fail
 refine Calls.mono H1.out ?_
 rintro e w1 ⟨s1,rfl,hb1,hr1,hu1⟩
 have y1 := I0.box.but hb1 (by omega)
 have cy1 := y1.cells.2.2.1
 have fy1 := y1.free.2.2.1
 have I1 := I0.nm hgl hb1 hr1 hu1
 clear H1 hr1 hb1 hu1 I0 y1
 have H2 : Hid _ := hid (pWant1 I1.rp ⟨#[115,116,114,105,112]⟩ (sz_set _ _ _))
 go_wp2_with fail
 refine Calls.mono H2.out ?_
 rintro e w2 ⟨rfl,hr2,hb2⟩
 have I2 := I1.want hgl hr2 hb2
 clear H2 hr2 hb2 I1
 have HT := pNext_any I2.rp
 have hfk := fld_kind
 unfold tkA at HT
 replace HT : Hid _ := hid HT
 generalize hR2 : wantR ⟨#[115,116,114,105,112]⟩ (fillR nameP up_nm (startR k S)) = R2 at *
 have hta : Hid (I2 = I2) := hid rfl
 generalize htk : nxT (stO R2) = tk at *
 obtain ⟨t0,t1,t2,t3⟩ := tk
 clear hta
 go_wp2_with fail
 refine Calls.mono HT.out ?_
 rintro e w3 ⟨rfl,hb3⟩
 have I3 := I2.same hgl (I2.rp.later hb3) (But.of hb3)
 clear HT I2
 go_upto_if 19 with fail
 go_cut [] (fun w' => ∃ sv,Inv g w (fillR tagsP up_ta R2) w' sv)
 case first =>
  by_cases h3 : t0 = 3
  ·subst h3
   have HL : Hid _ := hid (pListTag_any I3.rp (part_tag g) shr_tag)
   have E1 : Hid _ := hid (fill_run (f := up_ta) (tags_3 (S := stO R2) (by rw [htk])))
   clear htk
   go_wp2_with fail
   refine Calls.mono HL.out ?_
   rintro e w4 ⟨ao4,ln4,cp4,rfl,hb4,hr4,hu4⟩
   have y4 := I3.box.but hb4 (by omega)
   have cy4 := y4.cells.2.2.2.2.1
   have fy4 := y4.free.2.2.2.2.1
   have I4 := (I3.ta (v := (ao4,ln4,cp4)) hgl hb4 hr4 hu4).conv E1.out
   clear HL hb4 hr4 hu4 y4 I3 E1
   go_wp2_with fail
   go_meet
   exact ⟨_,I4⟩
  ·have g3 : (t0 == 3) = false := by simpa using h3
   have I4 := I3.ta0 (by rw [htk]; exact h3) rfl
   clear htk h3 I3
   go_wp2_with fail
   go_meet
   exact ⟨_,I4⟩
 case rest =>
  obtain ⟨sv4,I4⟩ := hcut
  clear I3 htk hb3
  have H5 : Hid _ := hid (pWant1 I4.rp ⟨#[97,115]⟩ )
  go_wp2_with fail
  refine Calls.mono H5.out ?_
  rintro e w5 ⟨rfl,hr5,hb5⟩
  have I5 := I4.want hgl hr5 hb5
  clear H5 hr5 hb5 I4
  have HI : Hid _ := hid (HC.out _ _ I5.rp)
  have HR5 : Hid (runP (doorP k P) S = thenR (wantR ⟨#[97,115]⟩ (fillR tagsP up_ta R2)) fun m r => mapR (fun x => (m,[x])) (P r)) := hid (by rw [← hR2]; exact HR.out)
  generalize wantR ⟨#[97,115]⟩ (fillR tagsP up_ta R2) = R5 at *
  clear HC HR hR2
  go_wp2_with fail
  refine Calls.mono HI.out ?_
  rintro e w6 ⟨s6,rfl,hb6,hr6,hx6⟩
  have y6 := I5.box.but hb6 (by omega)
  have z6 := I5.zero.but hb6 (by omega)
  have hB6 := I5.but.trans hb6
  have hlt5 := I5.lt
  have hsz6 := hb6.size
  have cy6 := y6.cells.2.2.2.2.2.2.2.2.2.2.2.2
  have fy6 := y6.free.2.2.2.2.2.2.2.2.2.2.2.2
  have y7 := (y6.set12 (some ⟨w6.heap.size,0,none⟩,1,1)).later (bal (Below.refl _ _) (.cells #[.int .i64 s6.k,.string s6.tb,.string s6.nm,.slice s6.co.1 s6.co.2.1 s6.co.2.2,.slice s6.ta.1 s6.ta.2.1 s6.ta.2.2,.slice s6.va.1 s6.va.2.1 s6.va.2.2,.slice s6.it.1 s6.it.2.1 s6.it.2.2,.string s6.jn,.slice s6.on.1 s6.on.2.1 s6.on.2.2,.slice s6.wh.1 s6.wh.2.1 s6.wh.2.2,.slice s6.od.1 s6.od.2.1 s6.od.2.2,.bool s6.ds,.slice s6.inn.1 s6.inn.2.1 s6.inn.2.2] 30))
  have z7 := (z6.other (r := w.heap.size + 1) (by omega) 12 (.slice (some ⟨w6.heap.size,0,none⟩) 1 1)).later (bal (Below.refl _ _) (.cells #[.int .i64 s6.k,.string s6.tb,.string s6.nm,.slice s6.co.1 s6.co.2.1 s6.co.2.2,.slice s6.ta.1 s6.ta.2.1 s6.ta.2.2,.slice s6.va.1 s6.va.2.1 s6.va.2.2,.slice s6.it.1 s6.it.2.1 s6.it.2.2,.string s6.jn,.slice s6.on.1 s6.on.2.1 s6.on.2.2,.slice s6.wh.1 s6.wh.2.1 s6.wh.2.2,.slice s6.od.1 s6.od.2.1 s6.od.2.2,.bool s6.ds,.slice s6.inn.1 s6.inn.2.1 s6.inn.2.2] 30))
  have hB7 := (hB6.new (r := w.heap.size + 1) (by omega) 12 (.slice (some ⟨w6.heap.size,0,none⟩) 1 1)).alloc (.cells #[.int .i64 s6.k,.string s6.tb,.string s6.nm,.slice s6.co.1 s6.co.2.1 s6.co.2.2,.slice s6.ta.1 s6.ta.2.1 s6.ta.2.2,.slice s6.va.1 s6.va.2.1 s6.va.2.2,.slice s6.it.1 s6.it.2.1 s6.it.2.2,.string s6.jn,.slice s6.on.1 s6.on.2.1 s6.on.2.2,.slice s6.wh.1 s6.wh.2.1 s6.wh.2.2,.slice s6.od.1 s6.od.2.1 s6.od.2.2,.bool s6.ds,.slice s6.inn.1 s6.inn.2.1 s6.inn.2.2] 30)
  have hr7 := (hr6.other (r := w.heap.size + 1) (by omega) 12 (.slice (some ⟨w6.heap.size,0,none⟩) 1 1)).alloc (.cells #[.int .i64 s6.k,.string s6.tb,.string s6.nm,.slice s6.co.1 s6.co.2.1 s6.co.2.2,.slice s6.ta.1 s6.ta.2.1 s6.ta.2.2,.slice s6.va.1 s6.va.2.1 s6.va.2.2,.slice s6.it.1 s6.it.2.1 s6.it.2.2,.string s6.jn,.slice s6.on.1 s6.on.2.1 s6.on.2.2,.slice s6.wh.1 s6.wh.2.1 s6.wh.2.2,.slice s6.od.1 s6.od.2.1 s6.od.2.2,.bool s6.ds,.slice s6.inn.1 s6.inn.2.1 s6.inn.2.2] 30)
  have HX7 : Hid (∀ m r,runP (doorP k P) S = .inr (m,r) → IsS (fun b => w.heap.size + 1 ≤ b) ((w6.setCell ⟨w.heap.size + 1,12,none⟩ (.slice (some ⟨w6.heap.size,0,none⟩) 1 1)).alloc (.cells #[.int .i64 s6.k,.string s6.tb,.string s6.nm,.slice s6.co.1 s6.co.2.1 s6.co.2.2,.slice s6.ta.1 s6.ta.2.1 s6.ta.2.2,.slice s6.va.1 s6.va.2.1 s6.va.2.2,.slice s6.it.1 s6.it.2.1 s6.it.2.2,.string s6.jn,.slice s6.on.1 s6.on.2.1 s6.on.2.2,.slice s6.wh.1 s6.wh.2.1 s6.wh.2.2,.slice s6.od.1 s6.od.2.1 s6.od.2.2,.bool s6.ds,.slice s6.inn.1 s6.inn.2.1 s6.inn.2.2] 30)) m.1 { sv4 with inn := (some ⟨w6.heap.size,0,none⟩,1,1) } ∧ RowIs eStmt (fun b => w.heap.size + 1 ≤ b) ((w6.setCell ⟨w.heap.size + 1,12,none⟩ (.slice (some ⟨w6.heap.size,0,none⟩) 1 1)).alloc (.cells #[.int .i64 s6.k,.string s6.tb,.string s6.nm,.slice s6.co.1 s6.co.2.1 s6.co.2.2,.slice s6.ta.1 s6.ta.2.1 s6.ta.2.2,.slice s6.va.1 s6.va.2.1 s6.va.2.2,.slice s6.it.1 s6.it.2.1 s6.it.2.2,.string s6.jn,.slice s6.on.1 s6.on.2.1 s6.on.2.2,.slice s6.wh.1 s6.wh.2.1 s6.wh.2.2,.slice s6.od.1 s6.od.2.1 s6.od.2.2,.bool s6.ds,.slice s6.inn.1 s6.inn.2.1 s6.inn.2.2] 30)) (.slice (some ⟨w6.heap.size,0,none⟩) 1 1) m.2) := hid fun m r e => by
   rw [HR5.out] at e
   obtain ⟨a,q,x,e1,e2,rfl⟩ := inner_inr e
   have h1 := (I5.is a q e1).1
   obtain ⟨h2,h3⟩ := hx6 x r e2
   have h4 : IsS (fun b => w.heap.size + 2 ≤ b) ((w6.setCell ⟨w.heap.size + 1,12,none⟩ (.slice (some ⟨w6.heap.size,0,none⟩) 1 1)).alloc (.cells #[.int .i64 s6.k,.string s6.tb,.string s6.nm,.slice s6.co.1 s6.co.2.1 s6.co.2.2,.slice s6.ta.1 s6.ta.2.1 s6.ta.2.2,.slice s6.va.1 s6.va.2.1 s6.va.2.2,.slice s6.it.1 s6.it.2.1 s6.it.2.2,.string s6.jn,.slice s6.on.1 s6.on.2.1 s6.on.2.2,.slice s6.wh.1 s6.wh.2.1 s6.wh.2.2,.slice s6.od.1 s6.od.2.1 s6.od.2.2,.bool s6.ds,.slice s6.inn.1 s6.inn.2.1 s6.inn.2.2] 30)) a sv4 := ((h1.keep fun b hq hlt => hb6.block b hlt (by omega)).keep fun b hq hlt => Below.heap_setCell _ _ _ _ (by show b ≠ w.heap.size + 1; omega)).keep fun b hq hlt => (bal (Below.refl _ _) _).block b hlt
   have h5 := h4.mono (Q' := fun b => w.heap.size + 1 ≤ b) fun b hb _ => by omega
   refine ⟨{ h5 with },?_⟩
   have h6 : IsS (fun b => w.heap.size + 2 ≤ b) (w6.setCell ⟨w.heap.size + 1,12,none⟩ (.slice (some ⟨w6.heap.size,0,none⟩) 1 1)) x s6 := (h2.mono fun b hb _ => by omega).keep fun b hq hlt => Below.heap_setCell _ _ _ _ (by show b ≠ w.heap.size + 1; omega)
   exact row_stmt _ x s6 _ (sz_set _ _ _) (by omega) (h6.mono fun b hb _ => by omega) h3
  have HS7 : Hid (stO (runP (doorP k P) S) = stO (runP P (stO R5))) := hid (by rw [HR5.out,inner_st])
  have T : Hid _ := hid (TeF.fin hgl hB7 (by rw [HS7.out]; exact hr7) HX7.out)
  have hltq := y6.lt
  clear HI hb6 hr6 hx6 hB6 hB7 hr7 HX7 HS7 I5 y6 z6 HR5
  unfold stV
  go_upto_region 8 with fail
  generalize (w6.setCell ⟨w.heap.size + 1,12,none⟩ (.slice (some ⟨w6.heap.size,0,none⟩) 1 1)).alloc (.cells #[.int .i64 s6.k,.string s6.tb,.string s6.nm,.slice s6.co.1 s6.co.2.1 s6.co.2.2,.slice s6.ta.1 s6.ta.2.1 s6.ta.2.2,.slice s6.va.1 s6.va.2.1 s6.va.2.2,.slice s6.it.1 s6.it.2.1 s6.it.2.2,.string s6.jn,.slice s6.on.1 s6.on.2.1 s6.on.2.2,.slice s6.wh.1 s6.wh.2.1 s6.wh.2.2,.slice s6.od.1 s6.od.2.1 s6.od.2.2,.bool s6.ds,.slice s6.inn.1 s6.inn.2.1 s6.inn.2.2] 30) = W at *
  generalize ({ sv4 with inn := (some ⟨w6.heap.size,0,none⟩,1,1) } : Sv) = sv at *
  obtain ⟨k0,k1,k2,k3,k4,k5,k6,k7,k8,k9,k10,k11,k12⟩ := y7.cells
  obtain ⟨m0,m1,m2,m3,m4,m5,m6,m7,m8,m9,m10,m11,m12⟩ := z7.cells
  obtain ⟨n0,n1,n2,n3,n4,n5,n6,n7,n8,n9,n10,n11,n12⟩ := z7.free
  clear y7 z7
  go_wp2
  refine bodyPost_ret (v := stV sv) (by simp [results,Tryz.results74,go_sem,stV,m0,m1,m2,m3,m4,m5,m6,m7,m8,m9,m10,m11,m12]) rfl ?_
  exact T.out
def dispP {α : Type} (s : ByteArray) (P Q : List Tk → Re α) (ts : List Tk) : Re α := if isTk s ts then P ts.tail else Q ts
theorem disp_true {α : Type} {s : ByteArray} {P Q : List Tk → Re α} {S : Sa} (h : takeB s S = true) : runP (dispP s P Q) S = runP P (takeS s S) := by
 match S with
 | .inl x => cases h
 | .inr ts =>
  have h' : isTk s ts = true := h
  show dispP s P Q ts = runP P (if isTk s ts then .inr ts.tail else .inr ts)
  rw [dispP,if_pos h',if_pos h']
  rfl
theorem disp_false {α : Type} {s : ByteArray} {P Q : List Tk → Re α} {S : Sa} (h : takeB s S = false) : runP (dispP s P Q) S = runP Q S := by
 match S with
 | .inl x => rfl
 | .inr ts =>
  have h' : isTk s ts = false := h
  show dispP s P Q ts = _
  rw [dispP,if_neg (by rw [h']; simp)]
  rfl
def failP {α : Type} (ts : List Tk) : Re α := .inl (atOf ts,5)
theorem fail_run {α : Type} (S : Sa) : stO (runP (failP (α := α)) S) = failS 5 S ∧ ∀ m r,runP (failP (α := α)) S ≠ .inr (m,r) := by
 cases S with
 | inl x => exact ⟨rfl,fun m r e => by cases e⟩
 | inr ts => exact ⟨rfl,fun m r e => by cases e⟩
def isP {α : Type} (s : ByteArray) (P Q : List Tk → Re α) (ts : List Tk) : Re α := if isTk s ts then P ts else Q ts
theorem is_true {α : Type} {s : ByteArray} {P Q : List Tk → Re α} {S : Sa} (h : takeB s S = true) : runP (isP s P Q) S = runP P S := by
 match S with
 | .inl x => cases h
 | .inr ts =>
  have h' : isTk s ts = true := h
  show isP s P Q ts = _
  rw [isP,if_pos h']
  rfl
theorem is_false {α : Type} {s : ByteArray} {P Q : List Tk → Re α} {S : Sa} (h : takeB s S = false) : runP (isP s P Q) S = runP Q S := by
 match S with
 | .inl x => rfl
 | .inr ts =>
  have h' : isTk s ts = false := h
  show isP s P Q ts = _
  rw [isP,if_neg (by rw [h']; simp)]
  rfl
def changeP : List Tk → Re Sm := dispP ⟨#[105,110,115,101,114,116]⟩ insertP (dispP ⟨#[117,112,100,97,116,101]⟩ updateP (dispP ⟨#[100,101,108,101,116,101]⟩ deleteP failP))
def plain (P : List Tk → Re Sm) (ts : List Tk) : Re Sf := mapR (fun m => (m,[])) (P ts)
theorem plain_run (P : List Tk → Re Sm) (S : Sa) : runP (plain P) S = mapR (fun m => (m,[])) (runP P S) := by cases S <;> rfl
def createP : List Tk → Re Sf := dispP ⟨#[116,97,98,108,101]⟩ (plain tableP) (dispP ⟨#[105,110,100,101,120]⟩ (plain indexP) (dispP ⟨#[118,105,101,119]⟩ (doorP 3 queryP) (dispP ⟨#[99,108,111,115,117,114,101]⟩ (doorP 4 changeP) failP)))
def onlyP (k : Int) (ts : List Tk) : Re Sf := .inr ((sm k,[]),ts)
theorem only_run (k : Int) (S : Sa) : stO (runP (onlyP k) S) = S ∧ ∀ m r,runP (onlyP k) S = .inr (m,r) → m = (sm k,[]) := by
 cases S with
 | inl x => exact ⟨rfl,fun m r e => by cases e⟩
 | inr ts => exact ⟨rfl,fun m r e => by cases e; rfl⟩
def raiseP (ts : List Tk) : Re Sf := mapR (fun l => (up_ta (sm 12) l,[])) (listP tagP ts)
theorem raise_run (S : Sa) : runP raiseP S = mapR (fun l => (up_ta (sm 12) l,[])) (runP (listP tagP) S) := by cases S <;> rfl
def callP (ts : List Tk) : Re Sf := mapR (fun x => (up_nm (sm 13) x,[])) (nameP ts)
theorem call_run (S : Sa) : runP callP S = mapR (fun x => (up_nm (sm 13) x,[])) (runP nameP S) := by cases S <;> rfl
def stmtP : List Tk → Re Sf := dispP ⟨#[99,114,101,97,116,101]⟩ createP (isP ⟨#[115,101,108,101,99,116]⟩ (plain queryP) (dispP ⟨#[98,101,103,105,110]⟩ (onlyP 9) (dispP ⟨#[99,111,109,109,105,116]⟩ (onlyP 10) (dispP ⟨#[114,111,108,108,98,97,99,107]⟩ (onlyP 11) (dispP ⟨#[114,97,105,115,101]⟩ raiseP (dispP ⟨#[99,97,108,108]⟩ callP (plain changeP)))))))
theorem part_query (g : Nat) : PartV g (TeS g) queryP (.func (.func 47) #[.pointer (some ⟨g,0,none⟩)] #[]) := ⟨47,rfl,fun _ _ => by kernel_rfl,fun S w h => pQuery_any h⟩
structure Wait (g : Nat) (w w1 : World) (S : Sa) : Prop where
 but : But g w w1
 rp : Rp w1 g S 0
 zero : Bs w1 w.heap.size (zS 0)
theorem Wait.lt {g : Nat} {w w1 : World} {S : Sa} (h : Wait g w w1 S) : w.heap.size + 1 ≤ w1.heap.size := by have := h.zero.lt; omega
theorem Wait.start {g : Nat} {w : World} {S : Sa} (h : Rp w g S 0) : Wait g w (w.alloc (.cells #[.int .i64 0,.string ⟨#[]⟩,.string ⟨#[]⟩,.slice none 0 0,.slice none 0 0,.slice none 0 0,.slice none 0 0,.string ⟨#[]⟩,.slice none 0 0,.slice none 0 0,.slice none 0 0,.bool false,.slice none 0 0] 30)) S := ⟨(But.refl g w).alloc _,h.alloc _,Bs.new w (zS 0)⟩
theorem Wait.on {g : Nat} {w w1 w2 : World} {S S' : Sa} (h : Wait g w w1 S) (hg : g < w.heap.size) (hr : Rp w2 g S' 0) (hb : But g w1 w2) : Wait g w w2 S' := ⟨h.but.trans hb,hr,h.zero.but hb (by omega)⟩
theorem Wait.tes {g : Nat} {w w1 w2 : World} {S : Sa} {P : List Tk → Re Sm} {R : Re Sm} {s : Sv} (h : Wait g w w1 S) (hg : g < w.heap.size) (hR : R = runP P S) (hb : But g w1 w2) (hr : Rp w2 g (stO (runP P S)) 0)
  (hx : ∀ m r,runP P S = .inr (m,r) → IsS (fun b => w1.heap.size ≤ b) w2 m s ∧ s.inn = (none,0,0)) : TeS g w R (.returned (stV s)) (set13 w2 w.heap.size s) := by
 subst hR
 exact TeS.fin2 hg (h.but.trans hb) hr fun m r e => ⟨(hx m r e).1.mono fun b hb _ => by have := h.lt; omega,(hx m r e).2⟩
theorem Wait.tef {g : Nat} {w w1 w2 : World} {S : Sa} {P : List Tk → Re Sf} {R : Re Sf} {s : Sv} (h : Wait g w w1 S) (hg : g < w.heap.size) (hR : R = runP P S) (hb : But g w1 w2) (hr : Rp w2 g (stO (runP P S)) 0)
  (hx : ∀ m r,runP P S = .inr (m,r) → IsS (fun b => w1.heap.size ≤ b) w2 m.1 s ∧ RowIs eStmt (fun b => w1.heap.size ≤ b) w2 (slV s.inn) m.2) : TeF g w R (.returned (stV s)) (set13 w2 w.heap.size s) := by
 subst hR
 exact TeF.fin hg (h.but.trans hb) hr fun m r e => ⟨(hx m r e).1.mono fun b hb _ => by have := h.lt; omega,(hx m r e).2.mono (by decide) fun b hb _ => by have := h.lt; omega⟩
theorem Wait.teg {g : Nat} {w w1 w2 : World} {S : Sa} {P : List Tk → Re Sm} {R : Re Sf} {s : Sv} (h : Wait g w w1 S) (hg : g < w.heap.size) (hR : R = runP (plain P) S) (hb : But g w1 w2) (hr : Rp w2 g (stO (runP P S)) 0)
  (hx : ∀ m r,runP P S = .inr (m,r) → IsS (fun b => w1.heap.size ≤ b) w2 m s ∧ s.inn = (none,0,0)) : TeF g w R (.returned (stV s)) (set13 w2 w.heap.size s) := by
 refine h.tef (P := plain P) hg hR hb (by rw [plain_run,stO_mapR]; exact hr) fun m r e => ?_
 rw [plain_run] at e
 obtain ⟨u,e2,rfl⟩ := mapR_inr e
 obtain ⟨h1,h2⟩ := hx u r e2
 exact ⟨h1,by rw [h2]; exact RowIs.nil _ _ _⟩
set_option maxRecDepth 100000 in
set_option maxHeartbeats 8000000 in
theorem pChange_any {g : Nat} {S : Sa} {w : World} (h : Rp w g S 0) : Calls Tryz.prog 51 #[.pointer (some ⟨g,0,none⟩)] w (TeS g w (runP changeP S)) := by
 have hgl := h.lt
 have hmf : ∀ (fn : Fn) (first cap : Array Value) (w : World),(Instr.makeFunc fn first cap).run Tryz.prog w = .ok (.func fn first cap) w := fun _ _ _ _ => rfl
 have K0 : Wait g w (w.alloc (.cells #[.int .i64 0,.string ⟨#[]⟩,.string ⟨#[]⟩,.slice none 0 0,.slice none 0 0,.slice none 0 0,.slice none 0 0,.string ⟨#[]⟩,.slice none 0 0,.slice none 0 0,.slice none 0 0,.bool false,.slice none 0 0] 30)) S := Wait.start h
 have E0 : Hid (runP changeP S = runP changeP S) := hid rfl
 generalize hRR : runP changeP S = RR at *
 replace E0 : Hid (RR = runP changeP S) := hid hRR.symm
 unfold changeP at E0
 clear h hRR
 go_enter Tryz.func51,Tryz.ntmps51
 have HT1 := pTake_any K0.rp ⟨#[105,110,115,101,114,116]⟩
 cases hb1 : takeB ⟨#[105,110,115,101,114,116]⟩ S with
 | true =>
  rw [hb1] at HT1
  replace HT1 : Hid _ := hid HT1
  have E1 : Hid _ := hid (E0.out.trans (disp_true hb1))
  clear hb1 E0
  go_wp2_with fail
  refine Calls.mono HT1.out ?_
  rintro e w1 ⟨rfl,hr,hb⟩
  have K1 := K0.on hgl hr hb
  clear HT1 K0 hr hb
  have HC : Hid _ := hid (pInsert_any K1.rp)
  go_wp2_with fail
  refine Calls.mono HC.out ?_
  rintro e w2 ⟨s,rfl,hb,hr,hx⟩
  have T : Hid _ := hid (K1.tes hgl E1.out hb hr hx)
  have z := K1.zero.but hb (by omega)
  clear HC hb hr hx K1 E1
  unfold stV
  obtain ⟨m0,m1,m2,m3,m4,m5,m6,m7,m8,m9,m10,m11,m12⟩ := z.cells
  obtain ⟨n0,n1,n2,n3,n4,n5,n6,n7,n8,n9,n10,n11,n12⟩ := z.free
  clear z
  go_wp2
  refine bodyPost_ret (v := stV s) (by simp [results,Tryz.results51,go_sem,stV,m0,m1,m2,m3,m4,m5,m6,m7,m8,m9,m10,m11,m12]) rfl ?_
  exact T.out
 | false =>
  rw [hb1,takeB_false hb1] at HT1
  replace HT1 : Hid _ := hid HT1
  have E1 : Hid _ := hid (E0.out.trans (disp_false hb1))
  clear hb1 E0
  go_wp2_with fail
  refine Calls.mono HT1.out ?_
  rintro e w1 ⟨rfl,hr,hb⟩
  have K1 := K0.on hgl hr hb
  clear HT1 K0 hr hb
  have HT2 := pTake_any K1.rp ⟨#[117,112,100,97,116,101]⟩
  cases hb2 : takeB ⟨#[117,112,100,97,116,101]⟩ S with
  | true =>
   rw [hb2] at HT2
   replace HT2 : Hid _ := hid HT2
   have E2 : Hid _ := hid (E1.out.trans (disp_true hb2))
   clear hb2 E1
   go_wp2_with fail
   refine Calls.mono HT2.out ?_
   rintro e w2 ⟨rfl,hr,hb⟩
   have K2 := K1.on hgl hr hb
   clear HT2 K1 hr hb
   have HC : Hid _ := hid (pUpdate_any K2.rp)
   go_wp2_with fail
   refine Calls.mono HC.out ?_
   rintro e w3 ⟨s,rfl,hb,hr,hx⟩
   have T : Hid _ := hid (K2.tes hgl E2.out hb hr hx)
   have z := K2.zero.but hb (by omega)
   clear HC hb hr hx K2 E2
   unfold stV
   obtain ⟨m0,m1,m2,m3,m4,m5,m6,m7,m8,m9,m10,m11,m12⟩ := z.cells
   obtain ⟨n0,n1,n2,n3,n4,n5,n6,n7,n8,n9,n10,n11,n12⟩ := z.free
   clear z
   go_wp2
   refine bodyPost_ret (v := stV s) (by simp [results,Tryz.results51,go_sem,stV,m0,m1,m2,m3,m4,m5,m6,m7,m8,m9,m10,m11,m12]) rfl ?_
   exact T.out
  | false =>
   rw [hb2,takeB_false hb2] at HT2
   replace HT2 : Hid _ := hid HT2
   have E2 : Hid _ := hid (E1.out.trans (disp_false hb2))
   clear hb2 E1
   go_wp2_with fail
   refine Calls.mono HT2.out ?_
   rintro e w2 ⟨rfl,hr,hb⟩
   have K2 := K1.on hgl hr hb
   clear HT2 K1 hr hb
   have HT3 := pTake_any K2.rp ⟨#[100,101,108,101,116,101]⟩
   cases hb3 : takeB ⟨#[100,101,108,101,116,101]⟩ S with
   | true =>
    rw [hb3] at HT3
    replace HT3 : Hid _ := hid HT3
    have E3 : Hid _ := hid (E2.out.trans (disp_true hb3))
    clear hb3 E2
    go_wp2_with fail
    refine Calls.mono HT3.out ?_
    rintro e w3 ⟨rfl,hr,hb⟩
    have K3 := K2.on hgl hr hb
    clear HT3 K2 hr hb
    have HC : Hid _ := hid (pDelete_any K3.rp)
    go_wp2_with fail
    refine Calls.mono HC.out ?_
    rintro e w4 ⟨s,rfl,hb,hr,hx⟩
    have T : Hid _ := hid (K3.tes hgl E3.out hb hr hx)
    have z := K3.zero.but hb (by omega)
    clear HC hb hr hx K3 E3
    unfold stV
    obtain ⟨m0,m1,m2,m3,m4,m5,m6,m7,m8,m9,m10,m11,m12⟩ := z.cells
    obtain ⟨n0,n1,n2,n3,n4,n5,n6,n7,n8,n9,n10,n11,n12⟩ := z.free
    clear z
    go_wp2
    refine bodyPost_ret (v := stV s) (by simp [results,Tryz.results51,go_sem,stV,m0,m1,m2,m3,m4,m5,m6,m7,m8,m9,m10,m11,m12]) rfl ?_
    exact T.out
   | false =>
    rw [hb3,takeB_false hb3] at HT3
    replace HT3 : Hid _ := hid HT3
    have E3 : Hid _ := hid (E2.out.trans (disp_false hb3))
    clear hb3 E2
    go_wp2_with fail
    refine Calls.mono HT3.out ?_
    rintro e w3 ⟨rfl,hr,hb⟩
    have K3 := K2.on hgl hr hb
    clear HT3 K2 hr hb
    obtain ⟨q1,q2⟩ := fail_run (α := Sm) S
    have HC : Hid _ := hid (pFail_any K3.rp 5 (by decide))
    have Q1 : Hid _ := hid q1
    have Q2 : Hid _ := hid q2
    clear q1 q2
    go_wp2_with fail
    refine Calls.mono HC.out ?_
    rintro e w4 ⟨rfl,hr,hb⟩
    have T : Hid _ := hid (TeS.fin2 (s := zS 0) hgl (K3.but.trans hb) (by rw [E3.out,Q1.out]; exact hr) fun m r e => absurd (E3.out ▸ e) (Q2.out m r))
    have z := K3.zero.but hb (by omega)
    clear HC hb hr K3 E3 Q1 Q2
    obtain ⟨m0,m1,m2,m3,m4,m5,m6,m7,m8,m9,m10,m11,m12⟩ := z.cells
    obtain ⟨n0,n1,n2,n3,n4,n5,n6,n7,n8,n9,n10,n11,n12⟩ := z.free
    clear z
    go_wp2
    refine bodyPost_ret (v := stV (zS 0)) (by simp [results,Tryz.results51,go_sem,stV,m0,m1,m2,m3,m4,m5,m6,m7,m8,m9,m10,m11,m12]) rfl ?_
    exact T.out
theorem part_change (g : Nat) : PartV g (TeS g) changeP (.func (.func 51) #[.pointer (some ⟨g,0,none⟩)] #[]) := ⟨51,rfl,fun _ _ => by kernel_rfl,fun S w h => pChange_any h⟩
theorem TeF.fin2 {g : Nat} {w w1 : World} {R : Re Sf} {s : Sv} (hg : g < w.heap.size) (hB : But g w w1) (hr : Rp w1 g (stO R) 0)
  (hx : ∀ m r,R = .inr (m,r) → IsS (fun b => w.heap.size + 1 ≤ b) w1 m.1 s ∧ RowIs eStmt (fun b => w.heap.size + 1 ≤ b) w1 (slV s.inn) m.2) : TeF g w R (.returned (stV s)) (set13 w1 w.heap.size s) := TeF.fin hg hB hr hx
set_option maxRecDepth 100000 in
set_option maxHeartbeats 8000000 in
theorem pCreate_any {g : Nat} {S : Sa} {w : World} (h : Rp w g S 0) : Calls Tryz.prog 45 #[.pointer (some ⟨g,0,none⟩)] w (TeF g w (runP createP S)) := by
 have hgl := h.lt
 have hmf : ∀ (fn : Fn) (first cap : Array Value) (w : World),(Instr.makeFunc fn first cap).run Tryz.prog w = .ok (.func fn first cap) w := fun _ _ _ _ => rfl
 have K0 : Wait g w (w.alloc (.cells #[.int .i64 0,.string ⟨#[]⟩,.string ⟨#[]⟩,.slice none 0 0,.slice none 0 0,.slice none 0 0,.slice none 0 0,.string ⟨#[]⟩,.slice none 0 0,.slice none 0 0,.slice none 0 0,.bool false,.slice none 0 0] 30)) S := Wait.start h
 have E0 : Hid (runP createP S = runP createP S) := hid rfl
 generalize hRR : runP createP S = RR at *
 replace E0 : Hid (RR = runP createP S) := hid hRR.symm
 unfold createP at E0
 clear h hRR
 go_enter Tryz.func45,Tryz.ntmps45
 have HT1 := pTake_any K0.rp ⟨#[116,97,98,108,101]⟩
 cases hb1 : takeB ⟨#[116,97,98,108,101]⟩ S with
 | true =>
  rw [hb1] at HT1
  replace HT1 : Hid _ := hid HT1
  have E1 : Hid _ := hid (E0.out.trans (disp_true hb1))
  clear hb1 E0
  go_wp2_with fail
  refine Calls.mono HT1.out ?_
  rintro e w1 ⟨rfl,hr,hb⟩
  have K1 := K0.on hgl hr hb
  clear HT1 K0 hr hb
  have HC : Hid _ := hid (pTable_any K1.rp)
  go_wp2_with fail
  refine Calls.mono HC.out ?_
  rintro e w2 ⟨s,rfl,hb,hr,hx⟩
  have T : Hid _ := hid (K1.teg hgl E1.out hb hr hx)
  have z := K1.zero.but hb (by omega)
  clear HC hb hr hx K1 E1
  unfold stV
  obtain ⟨m0,m1,m2,m3,m4,m5,m6,m7,m8,m9,m10,m11,m12⟩ := z.cells
  obtain ⟨n0,n1,n2,n3,n4,n5,n6,n7,n8,n9,n10,n11,n12⟩ := z.free
  clear z
  go_wp2
  refine bodyPost_ret (v := stV s) (by simp [results,Tryz.results45,go_sem,stV,m0,m1,m2,m3,m4,m5,m6,m7,m8,m9,m10,m11,m12]) rfl ?_
  exact T.out
 | false =>
  rw [hb1,takeB_false hb1] at HT1
  replace HT1 : Hid _ := hid HT1
  have E1 : Hid _ := hid (E0.out.trans (disp_false hb1))
  clear hb1 E0
  go_wp2_with fail
  refine Calls.mono HT1.out ?_
  rintro e w1 ⟨rfl,hr,hb⟩
  have K1 := K0.on hgl hr hb
  clear HT1 K0 hr hb
  have HT2 := pTake_any K1.rp ⟨#[105,110,100,101,120]⟩
  cases hb2 : takeB ⟨#[105,110,100,101,120]⟩ S with
  | true =>
   rw [hb2] at HT2
   replace HT2 : Hid _ := hid HT2
   have E2 : Hid _ := hid (E1.out.trans (disp_true hb2))
   clear hb2 E1
   go_wp2_with fail
   refine Calls.mono HT2.out ?_
   rintro e w2 ⟨rfl,hr,hb⟩
   have K2 := K1.on hgl hr hb
   clear HT2 K1 hr hb
   have HC : Hid _ := hid (pIndex_any K2.rp)
   go_wp2_with fail
   refine Calls.mono HC.out ?_
   rintro e w3 ⟨s,rfl,hb,hr,hx⟩
   have T : Hid _ := hid (K2.teg hgl E2.out hb hr hx)
   have z := K2.zero.but hb (by omega)
   clear HC hb hr hx K2 E2
   unfold stV
   obtain ⟨m0,m1,m2,m3,m4,m5,m6,m7,m8,m9,m10,m11,m12⟩ := z.cells
   obtain ⟨n0,n1,n2,n3,n4,n5,n6,n7,n8,n9,n10,n11,n12⟩ := z.free
   clear z
   go_wp2
   refine bodyPost_ret (v := stV s) (by simp [results,Tryz.results45,go_sem,stV,m0,m1,m2,m3,m4,m5,m6,m7,m8,m9,m10,m11,m12]) rfl ?_
   exact T.out
  | false =>
   rw [hb2,takeB_false hb2] at HT2
   replace HT2 : Hid _ := hid HT2
   have E2 : Hid _ := hid (E1.out.trans (disp_false hb2))
   clear hb2 E1
   go_wp2_with fail
   refine Calls.mono HT2.out ?_
   rintro e w2 ⟨rfl,hr,hb⟩
   have K2 := K1.on hgl hr hb
   clear HT2 K1 hr hb
   have HT3 := pTake_any K2.rp ⟨#[118,105,101,119]⟩
   cases hb3 : takeB ⟨#[118,105,101,119]⟩ S with
   | true =>
    rw [hb3] at HT3
    replace HT3 : Hid _ := hid HT3
    have E3 : Hid _ := hid (E2.out.trans (disp_true hb3))
    clear hb3 E2
    go_wp2_with fail
    refine Calls.mono HT3.out ?_
    rintro e w3 ⟨rfl,hr,hb⟩
    have K3 := K2.on hgl hr hb
    clear HT3 K2 hr hb
    have HC : Hid _ := hid (pDoor_any (k := 3) K3.rp (part_query g))
    go_wp2_with fail
    refine Calls.mono HC.out ?_
    rintro e w4 ⟨s,rfl,hb,hr,hx⟩
    have T : Hid _ := hid (K3.tef hgl E3.out hb hr hx)
    have z := K3.zero.but hb (by omega)
    clear HC hb hr hx K3 E3
    unfold stV
    obtain ⟨m0,m1,m2,m3,m4,m5,m6,m7,m8,m9,m10,m11,m12⟩ := z.cells
    obtain ⟨n0,n1,n2,n3,n4,n5,n6,n7,n8,n9,n10,n11,n12⟩ := z.free
    clear z
    go_wp2
    refine bodyPost_ret (v := stV s) (by simp [results,Tryz.results45,go_sem,stV,m0,m1,m2,m3,m4,m5,m6,m7,m8,m9,m10,m11,m12]) rfl ?_
    exact T.out
   | false =>
    rw [hb3,takeB_false hb3] at HT3
    replace HT3 : Hid _ := hid HT3
    have E3 : Hid _ := hid (E2.out.trans (disp_false hb3))
    clear hb3 E2
    go_wp2_with fail
    refine Calls.mono HT3.out ?_
    rintro e w3 ⟨rfl,hr,hb⟩
    have K3 := K2.on hgl hr hb
    clear HT3 K2 hr hb
    have HT4 := pTake_any K3.rp ⟨#[99,108,111,115,117,114,101]⟩
    cases hb4 : takeB ⟨#[99,108,111,115,117,114,101]⟩ S with
    | true =>
     rw [hb4] at HT4
     replace HT4 : Hid _ := hid HT4
     have E4 : Hid _ := hid (E3.out.trans (disp_true hb4))
     clear hb4 E3
     go_wp2_with fail
     refine Calls.mono HT4.out ?_
     rintro e w4 ⟨rfl,hr,hb⟩
     have K4 := K3.on hgl hr hb
     clear HT4 K3 hr hb
     have HC : Hid _ := hid (pDoor_any (k := 4) K4.rp (part_change g))
     go_wp2_with fail
     refine Calls.mono HC.out ?_
     rintro e w5 ⟨s,rfl,hb,hr,hx⟩
     have T : Hid _ := hid (K4.tef hgl E4.out hb hr hx)
     have z := K4.zero.but hb (by omega)
     clear HC hb hr hx K4 E4
     unfold stV
     obtain ⟨m0,m1,m2,m3,m4,m5,m6,m7,m8,m9,m10,m11,m12⟩ := z.cells
     obtain ⟨n0,n1,n2,n3,n4,n5,n6,n7,n8,n9,n10,n11,n12⟩ := z.free
     clear z
     go_wp2
     refine bodyPost_ret (v := stV s) (by simp [results,Tryz.results45,go_sem,stV,m0,m1,m2,m3,m4,m5,m6,m7,m8,m9,m10,m11,m12]) rfl ?_
     exact T.out
    | false =>
     rw [hb4,takeB_false hb4] at HT4
     replace HT4 : Hid _ := hid HT4
     have E4 : Hid _ := hid (E3.out.trans (disp_false hb4))
     clear hb4 E3
     go_wp2_with fail
     refine Calls.mono HT4.out ?_
     rintro e w4 ⟨rfl,hr,hb⟩
     have K4 := K3.on hgl hr hb
     clear HT4 K3 hr hb
     obtain ⟨q1,q2⟩ := fail_run (α := Sf) S
     have HC : Hid _ := hid (pFail_any K4.rp 5 (by decide))
     have Q1 : Hid _ := hid q1
     have Q2 : Hid _ := hid q2
     clear q1 q2
     go_wp2_with fail
     refine Calls.mono HC.out ?_
     rintro e w5 ⟨rfl,hr,hb⟩
     have T : Hid _ := hid (TeF.fin2 (s := zS 0) hgl (K4.but.trans hb) (by rw [E4.out,Q1.out]; exact hr) fun m r e => absurd (E4.out ▸ e) (Q2.out m r))
     have z := K4.zero.but hb (by omega)
     clear HC hb hr K4 E4 Q1 Q2
     obtain ⟨m0,m1,m2,m3,m4,m5,m6,m7,m8,m9,m10,m11,m12⟩ := z.cells
     obtain ⟨n0,n1,n2,n3,n4,n5,n6,n7,n8,n9,n10,n11,n12⟩ := z.free
     clear z
     go_wp2
     refine bodyPost_ret (v := stV (zS 0)) (by simp [results,Tryz.results45,go_sem,stV,m0,m1,m2,m3,m4,m5,m6,m7,m8,m9,m10,m11,m12]) rfl ?_
     exact T.out
end Go.Proofs.YtfopfhlohihihaaGreat
