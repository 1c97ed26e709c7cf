import Derived.Test.YtfopfhlohihihaaGreatSah
namespace Go.Proofs.YtfopfhlohihihaaGreat
open Go.RowKit
set_option linter.unusedVariables false
set_option linter.unusedSimpArgs false
theorem opsComp_pos : ∀ c ∈ opsComp,0 < c.2 := by decide
theorem opsComp_cw (w : World) : Cw (w.alloc (.cells #[.string ⟨#[61]⟩,.int .i64 8,.string ⟨#[60,62]⟩,.int .i64 9,.string ⟨#[60]⟩,.int .i64 10,.string ⟨#[60,61]⟩,.int .i64 11,.string ⟨#[62]⟩,.int .i64 12,.string ⟨#[62,61]⟩,.int .i64 13] 128)) w.heap.size opsComp := by
 intro i hi
 have hi' : i < 6 := hi
 match i,hi' with
 | 0,_ => simp [go_sem,opsComp]
 | 1,_ => simp [go_sem,opsComp]
 | 2,_ => simp [go_sem,opsComp]
 | 3,_ => simp [go_sem,opsComp]
 | 4,_ => simp [go_sem,opsComp]
 | 5,_ => simp [go_sem,opsComp]
theorem comp_zero {U : List Tk → Re Tr} {S : Sa} (h : oneB opsComp (stO (runP (sumP U) S)) = 0) : runP (compP U) S = runP (sumP U) S ∧ oneS opsComp (stO (runP (sumP U) S)) = stO (runP (sumP U) S) := by
 match S with
 | .inl x => exact ⟨rfl,rfl⟩
 | .inr ts =>
  have e : runP (sumP U) (.inr ts) = sumP U ts := rfl
  have e2 : runP (compP U) (.inr ts) = compP U ts := rfl
  rw [e] at h ⊢
  rw [e2,compP]
  cases hn : sumP U ts with
  | inl x => exact ⟨rfl,rfl⟩
  | inr x =>
   rw [hn] at h
   have h' : oneOf opsComp x.2 = 0 := h
   refine ⟨?_,oneOf_zero opsComp_pos h'⟩
   show (if oneOf opsComp x.2 = 0 then _ else _) = _
   rw [if_pos h']
theorem comp_some {U : List Tk → Re Tr} {S : Sa} (h : oneB opsComp (stO (runP (sumP U) S)) ≠ 0) : 0 < oneB opsComp (stO (runP (sumP U) S)) ∧ ∃ t,(∃ r,runP (sumP U) S = .inr (t,r)) ∧
  runP (compP U) S = mapR (tTwo (oneB opsComp (stO (runP (sumP U) S))).toNat t) (runP (sumP U) (oneS opsComp (stO (runP (sumP U) S)))) := by
 match S with
 | .inl x => exact absurd rfl h
 | .inr ts =>
  have e : runP (sumP U) (.inr ts) = sumP U ts := rfl
  have e2 : runP (compP U) (.inr ts) = compP U ts := rfl
  rw [e] at h ⊢
  rw [e2,compP]
  cases hn : sumP U ts with
  | inl x => rw [hn] at h; exact absurd rfl h
  | inr x =>
   rw [hn] at h
   have h' : oneOf opsComp x.2 ≠ 0 := h
   obtain ⟨e1,e2,_⟩ := oneOf_some opsComp_pos h'
   refine ⟨e2,x.1,⟨x.2,rfl⟩,?_⟩
   show (if oneOf opsComp x.2 = 0 then _ else _) = mapR _ (runP (sumP U) (oneS opsComp (.inr x.2)))
   rw [if_neg h',e1]
   rfl
set_option maxRecDepth 100000 in
set_option maxHeartbeats 4000000 in
theorem pComp_any {g d : Nat} {U : List Tk → Re Tr} (hU : ∀ S w,Rp w g S d → Calls Tryz.prog 123 #[.pointer (some ⟨g,0,none⟩)] w (TeE g d w (runP (sumP U) S))) {S : Sa} {w : World} (h : Rp w g S d) :
  Calls Tryz.prog 119 #[.pointer (some ⟨g,0,none⟩)] w (TeE g d w (runP (compP U) S)) := by
 have hgl := h.lt
 have b0 := Be.new w 0 nilP (.slice none 0 0)
 have H1 : Hid _ := hid (hU S _ (h.alloc (.cells #[.int .i64 0,.int .i64 0,.int .i64 0,.string ⟨#[]⟩,.string ⟨#[]⟩,.string ⟨#[]⟩,.slice none 0 0] 60)))
 have HU : Hid _ := hid hU
 have HZ0 : Hid _ := hid (comp_zero (U := U) (S := S))
 have HZ1 : Hid _ := hid (comp_some (U := U) (S := S))
 generalize runP (compP U) S = R at *
 clear hU h
 go_enter Tryz.func119,Tryz.ntmps119
 go_wp2_with fail
 refine Calls.mono H1.out ?_
 rintro e w1 ⟨o1,p1,a1,l1,c1,rfl,hb1,hr1,hx1⟩
 have hB1 : But g w w1 := hb1.behind
 have hsz1 : w.heap.size + 1 ≤ w1.heap.size := by have := hb1.size; simp at this; omega
 have z1 := b0.but hb1 (by omega)
 have x2 := (Be.new w1 o1 p1 (.slice a1 l1 c1)).later (bal (Below.refl _ _) (.cells #[.string ⟨#[61]⟩,.int .i64 8,.string ⟨#[60,62]⟩,.int .i64 9,.string ⟨#[60]⟩,.int .i64 10,.string ⟨#[60,61]⟩,.int .i64 11,.string ⟨#[62]⟩,.int .i64 12,.string ⟨#[62,61]⟩,.int .i64 13] 128))
 have z2 := z1.later (bal (bal (Below.refl _ _) (.cells #[.int .i64 o1,.int .i64 p1.1,.int .i64 p1.2.1,.string p1.2.2.1,.string p1.2.2.2.1,.string p1.2.2.2.2,.slice a1 l1 c1] 60)) (.cells #[.string ⟨#[61]⟩,.int .i64 8,.string ⟨#[60,62]⟩,.int .i64 9,.string ⟨#[60]⟩,.int .i64 10,.string ⟨#[60,61]⟩,.int .i64 11,.string ⟨#[62]⟩,.int .i64 12,.string ⟨#[62,61]⟩,.int .i64 13] 128))
 have hr2 := (hr1.alloc (.cells #[.int .i64 o1,.int .i64 p1.1,.int .i64 p1.2.1,.string p1.2.2.1,.string p1.2.2.2.1,.string p1.2.2.2.2,.slice a1 l1 c1] 60)).alloc (.cells #[.string ⟨#[61]⟩,.int .i64 8,.string ⟨#[60,62]⟩,.int .i64 9,.string ⟨#[60]⟩,.int .i64 10,.string ⟨#[60,61]⟩,.int .i64 11,.string ⟨#[62]⟩,.int .i64 12,.string ⟨#[62,61]⟩,.int .i64 13] 128)
 have hB2 := (hB1.alloc (.cells #[.int .i64 o1,.int .i64 p1.1,.int .i64 p1.2.1,.string p1.2.2.1,.string p1.2.2.2.1,.string p1.2.2.2.2,.slice a1 l1 c1] 60)).alloc (.cells #[.string ⟨#[61]⟩,.int .i64 8,.string ⟨#[60,62]⟩,.int .i64 9,.string ⟨#[60]⟩,.int .i64 10,.string ⟨#[60,61]⟩,.int .i64 11,.string ⟨#[62]⟩,.int .i64 12,.string ⟨#[62,61]⟩,.int .i64 13] 128)
 have HX2 : Hid (∀ t r,runP (sumP U) S = .inr (t,r) → Ex (fun b => w.heap.size + 1 ≤ b ∧ b ≠ w1.heap.size) ((w1.alloc (.cells #[.int .i64 o1,.int .i64 p1.1,.int .i64 p1.2.1,.string p1.2.2.1,.string p1.2.2.2.1,.string p1.2.2.2.2,.slice a1 l1 c1] 60)).alloc (.cells #[.string ⟨#[61]⟩,.int .i64 8,.string ⟨#[60,62]⟩,.int .i64 9,.string ⟨#[60]⟩,.int .i64 10,.string ⟨#[60,61]⟩,.int .i64 11,.string ⟨#[62]⟩,.int .i64 12,.string ⟨#[62,61]⟩,.int .i64 13] 128)) t (exV o1 p1 (.slice a1 l1 c1))) :=
  hid fun t r e => ((hx1 t r e).mono fun k hk hk2 => ⟨by simpa using hk,by omega⟩).later (bal (bal (Below.refl _ _) _) _)
 have hcw := opsComp_cw (w1.alloc (.cells #[.int .i64 o1,.int .i64 p1.1,.int .i64 p1.2.1,.string p1.2.2.1,.string p1.2.2.2.1,.string p1.2.2.2.2,.slice a1 l1 c1] 60))
 rw [World.size_alloc] at hcw
 have H2 : Hid _ := hid (pOneOf_any (b := w1.heap.size + 1) hr2 opsComp (by decide) (by omega) hcw)
 rw [show opsComp.length = 6 from rfl] at H2
 have hqle : w.heap.size ≤ w1.heap.size := by omega
 generalize runP (sumP U) S = R1 at *
 clear H1 hb1 hB1 z1 b0 hr1 hx1 hcw
 generalize hq : w1.heap.size = q at *
 unfold exV
 go_wp2_with fail
 refine Calls.mono H2.out ?_
 rintro e w3 ⟨rfl,hr3,hb3⟩
 have hB3 := hB2.trans hb3
 have hq3 : q < w3.heap.size := by have := hb3.size; simp at this; omega
 have x3 := x2.but hb3 (by omega)
 have z3 := z2.but hb3 (by omega)
 have HX3 : Hid (∀ t r,R1 = .inr (t,r) → Ex (fun b => w.heap.size + 1 ≤ b ∧ b ≠ q) w3 t (exV o1 p1 (.slice a1 l1 c1))) := hid fun t r e => (HX2.out t r e).but hb3 (by omega)
 obtain ⟨k0,k1,k2,k3,k4,k5,k6⟩ := x3.cells
 rw [Nat.zero_add] at k1 k2 k3 k4 k5 k6
 obtain ⟨m0,m1,m2,m3,m4,m5,m6⟩ := z3.cells
 obtain ⟨n0,n1,n2,n3,n4,n5,n6⟩ := z3.free
 clear H2 HX2 hb3 hB2 x2 z2 hr2 hq
 by_cases hz : oneB opsComp (stO R1) = 0
 ·obtain ⟨e1,e2⟩ := HZ0.out hz
  have E1 : Hid _ := hid e1
  have hz' : Hid _ := hid hz
  rw [e2] at hr3
  rw [hz]
  clear HZ0 HZ1 e1 e2 hz
  go_wp2
  refine bodyPost_ret (v := exV o1 p1 (.slice a1 l1 c1)) (by simp [results,Tryz.results119,go_sem,exV,m0,m1,m2,m3,m4,m5,m6]) rfl (TeE.fin hgl hB3 (by rw [E1.out]; exact hr3) fun t r e => (HX3.out t r (by rw [← E1.out]; exact e)).mono fun k hk _ => hk.1)
 ·obtain ⟨hpos,t,⟨rr,ht⟩,hR⟩ := HZ1.out hz
  have HR : Hid _ := hid hR
  have HT : Hid _ := hid (HX3.out t rr ht)
  have hop : ((oneB opsComp (stO R1)).toNat : Int) = oneB opsComp (stO R1) := by omega
  have g1 : (oneB opsComp (stO R1) == 0) = false := by simpa using hz
  clear HZ0 HZ1 hR hz HX3 ht
  generalize oneB opsComp (stO R1) = op at *
  generalize oneS opsComp (stO R1) = S3 at *
  have HC : Hid _ := hid (HU.out S3 w3.drew hr3.drew)
  have hxd : Be w3.drew q o1 p1 (.slice a1 l1 c1) := x3.keep rfl
  have hBd : But g w w3.drew := hB3.dr
  have hzd : Be w3.drew w.heap.size 0 nilP (.slice none 0 0) := z3.keep rfl
  have hqd : q < w3.drew.heap.size := hq3
  have hgd : w3.drew.heap.size = w3.heap.size := rfl
  go_upto_region 5 with fail
  go_region_with (first
   | (refine Calls.mono HC.out ?_; rintro e z1 ⟨o2,p2,a2,l2,c2,rfl,hb1,hr1,hx1⟩; have y1 := hxd.but hb1 (by omega); obtain ⟨j0,j1,j2,j3,j4,j5,j6⟩ := y1.cells; rw [Nat.zero_add] at j1 j2 j3 j4 j5 j6; unfold exV)
   | (refine Calls.mono (pTwo_any op o1 p1 (.slice a1 l1 c1) o2 p2 (.slice a2 l2 c2) z1) ?_; rintro e z2 ⟨bb,rfl,hbb,hb2,hc1,hc2⟩; have y2 := (hzd.but hb1 (by omega)).later hb2; obtain ⟨i0,i1,i2,i3,i4,i5,i6⟩ := y2.cells; obtain ⟨f0,f1,f2,f3,f4,f5,f6⟩ := y2.free; unfold exV))
  all_goals
   have hbt := hb1.later hb2
   have hB5 := hBd.trans hbt
   have hr5 := hr1.later hb2
   have hz1 := hb1.size
   have HN : Hid (∀ u r,runP (sumP U) S3 = .inr (u,r) → Ex (fun b => w.heap.size + 1 ≤ b) z2 (tTwo op.toNat t u) (exV op nilP (.slice (some ⟨bb,0,none⟩) 2 2))) := hid fun u r e => by
    have h1 : Ex (fun b => w.heap.size + 1 ≤ b ∧ b ≠ q) z2 t (exV o1 p1 (.slice a1 l1 c1)) := (Ex.keep (w := w3) (w' := w3.drew) (fun _ _ _ => rfl) HT.out).but hbt (by omega)
    have h2 : Ex (fun b => w.heap.size + 1 ≤ b ∧ b ≠ q) z2 u (exV o2 p2 (.slice a2 l2 c2)) := ((hx1 u r e).mono fun k hk _ => ⟨by omega,by omega⟩).later hb2
    have h3 := Ex.two (op := op.toNat) (Q := fun b => w.heap.size + 1 ≤ b ∧ b ≠ q) ⟨by omega,by omega⟩ hc1 hc2 h1 h2
    rw [hop] at h3
    exact h3.mono fun k hk _ => hk.1
   clear HC HT hb1 hr1 hx1 hb2 hc1 hc2 hbt y1 y2 x3 z3 hxd hzd hBd
   go_wp2
   refine bodyPost_ret (v := exV op nilP (.slice (some ⟨bb,0,none⟩) 2 2)) (by simp [results,Tryz.results119,go_sem,exV,nilP,i0,i1,i2,i3,i4,i5,i6]) rfl (TeE.fin hgl hB5 (by rw [HR.out,stO_mapR]; exact hr5) fun t' r e => ?_)
   rw [HR.out] at e
   obtain ⟨u,e2,rfl⟩ := mapR_inr e
   exact HN.out u r e2
def Reads (N g d : Nat) (P : List Tk → Re Tr) : Prop := ∀ S w,Rp w g S d → Calls Tryz.prog N #[.pointer (some ⟨g,0,none⟩)] w (TeE g d w (runP P S))
theorem not_true {N : Option (List Tk → Re Tr)} {U : List Tk → Re Tr} {t : Tk} {ts : List Tk} (h : takeB ⟨#[110,111,116]⟩ (.inr (t :: ts)) = true) : runP (notOf N U) (.inr (t :: ts)) = mapR (tOne 4) (inP N (t :: ts)) := by
 have h' : isTk ⟨#[110,111,116]⟩ (t :: ts) = true := h
 show notOf N U (t :: ts) = _
 rw [notOf,if_pos h']
 rfl
theorem not_false' {N : Option (List Tk → Re Tr)} {U : List Tk → Re Tr} {S : Sa} (h : takeB ⟨#[110,111,116]⟩ S = false) : runP (notOf N U) S = runP (compP U) S := by
 match S with
 | .inl x => rfl
 | .inr ts =>
  have h' : isTk ⟨#[110,111,116]⟩ ts = false := h
  show notOf N U ts = _
  rw [notOf,if_neg (by rw [h']; simp)]
  rfl
set_option maxRecDepth 100000 in
set_option maxHeartbeats 1000000 in
theorem pNot_any {g d : Nat} {N U : List Tk → Re Tr} (hd : d ≤ 64) (hN : d < 64 → Reads 111 g (d + 1) N) (hC : Reads 119 g d (compP U)) : Reads 111 g d (notOf (deepP d N) U) := by
 intro S w h
 have hgl := h.lt
 have hmf : ∀ (fn : Fn) (first cap : Array Value) (w : World),(Instr.makeFunc fn first cap).run Tryz.prog w = .ok (.func fn first cap) w := fun _ _ _ _ => rfl
 have b0 := Be.new w 0 nilP (.slice none 0 0)
 have h0 := h.alloc (.cells #[.int .i64 0,.int .i64 0,.int .i64 0,.string ⟨#[]⟩,.string ⟨#[]⟩,.string ⟨#[]⟩,.slice none 0 0] 60)
 have HI := pIs_any h0 ⟨#[110,111,116]⟩
 cases hB : takeB ⟨#[110,111,116]⟩ S with
 | true =>
  obtain ⟨t,ts,rfl,ht,-⟩ := takeB_true hB
  have HR : Hid _ := hid (not_true (N := deepP d N) (U := U) hB)
  rw [hB] at HI
  replace HI : Hid _ := hid HI
  generalize runP (notOf (deepP d N) U) (.inr (t :: ts)) = R at *
  clear hB h
  go_enter Tryz.func111,Tryz.ntmps111
  go_wp2_with fail
  refine Calls.mono HI.out ?_
  rintro e w1 ⟨rfl,hb1⟩
  have hr1 := h0.later hb1
  have hB1 : But g w w1 := (But.of hb1).behind
  have z1 := b0.later hb1
  have hsz1 : w.heap.size + 1 ≤ w1.heap.size := by have := hb1.size; simp at this; omega
  have HW : Hid _ := hid (pWithin_any (P := N) (v := .func (.func 111) #[.pointer (some ⟨g,0,none⟩)] #[]) hr1 ht hd fun k => ⟨111,rfl,fun _ _ => by kernel_rfl,hN k⟩)
  generalize inP (deepP d N) (t :: ts) = R1 at *
  clear HI b0 hb1 h0 hr1
  go_wp2_with fail
  refine Calls.mono HW.out ?_
  rintro e w2 ⟨o2,p2,a2,l2,c2,rfl,hb2,hr2,hx2⟩
  have HO : Hid _ := hid (pOne_any 4 o2 p2 (.slice a2 l2 c2) w2)
  have z2 := z1.but hb2 (by omega)
  have hB2 := hB1.trans hb2
  have hsz2 := hb2.size
  clear HW z1 hB1
  unfold exV at HO ⊢
  go_wp2_with fail
  refine Calls.mono HO.out ?_
  rintro e w3 ⟨bb,rfl,hbb,hb3,hc3⟩
  have z3 := z2.later hb3
  have hB3 := hB2.later hb3
  have hr3 := hr2.later hb3
  have HX : Hid (∀ u r,R1 = .inr (u,r) → Ex (fun b => w.heap.size + 1 ≤ b) w3 (tOne 4 u) (exV 4 nilP (.slice (some ⟨bb,0,none⟩) 1 1))) := hid fun u r e =>
   Ex.one (op := 4) (Q := fun b => w.heap.size + 1 ≤ b) (by omega) hc3 (((hx2 u r e).mono fun k hk _ => by omega).later hb3)
  obtain ⟨m0,m1,m2,m3,m4,m5,m6⟩ := z3.cells
  obtain ⟨n0,n1,n2,n3,n4,n5,n6⟩ := z3.free
  clear HO hb3 hc3 hx2 hb2 hr2 hB2 z2 z3
  go_wp2
  refine bodyPost_ret (v := exV 4 nilP (.slice (some ⟨bb,0,none⟩) 1 1)) (by simp [results,Tryz.results111,go_sem,exV,nilP,m0,m1,m2,m3,m4,m5,m6]) rfl (TeE.fin hgl hB3 (by rw [HR.out,stO_mapR]; exact hr3) fun t' r e => ?_)
  rw [HR.out] at e
  obtain ⟨u,e2,rfl⟩ := mapR_inr e
  exact HX.out u r e2
 | false =>
  have HR : Hid _ := hid (not_false' (N := deepP d N) (U := U) hB)
  rw [hB] at HI
  replace HI : Hid _ := hid HI
  generalize runP (notOf (deepP d N) U) S = R at *
  clear hB h hN
  go_enter Tryz.func111,Tryz.ntmps111
  go_wp2_with fail
  refine Calls.mono HI.out ?_
  rintro e w1 ⟨rfl,hb1⟩
  have hr1 := h0.later hb1
  have hB1 : But g w w1 := (But.of hb1).behind
  have z1 := b0.later hb1
  have hsz1 : w.heap.size + 1 ≤ w1.heap.size := by have := hb1.size; simp at this; omega
  have HW : Hid _ := hid (hC S w1 hr1)
  clear HI b0 hb1 h0 hr1 hC
  go_wp2_with fail
  refine Calls.mono HW.out ?_
  rintro e w2 ⟨o2,p2,a2,l2,c2,rfl,hb2,hr2,hx2⟩
  have z2 := z1.but hb2 (by omega)
  have hB2 := hB1.trans hb2
  obtain ⟨m0,m1,m2,m3,m4,m5,m6⟩ := z2.cells
  obtain ⟨n0,n1,n2,n3,n4,n5,n6⟩ := z2.free
  clear HW z1 hB1 hb2 z2
  unfold exV
  go_wp2
  refine bodyPost_ret (v := exV o2 p2 (.slice a2 l2 c2)) (by simp [results,Tryz.results111,go_sem,exV,m0,m1,m2,m3,m4,m5,m6]) rfl (TeE.fin hgl hB2 (by rw [HR.out]; exact hr2) fun t' r e => ?_)
  rw [HR.out] at e
  exact (hx2 t' r e).mono fun k hk _ => by omega
def wantR {α : Type} (s : ByteArray) (R : Re α) : Re α := thenR R fun x r => if isTk s r then .inr (x,r.tail) else .inl (atOf r,5)
theorem stO_wantR {α : Type} (s : ByteArray) (R : Re α) : stO (wantR s R) = wantS s (stO R) := by
 cases R with
 | inl x => rfl
 | inr x =>
  show stO (if isTk s x.2 then _ else _) = (if isTk s x.2 then _ else _)
  split <;> rfl
theorem wantR_inr {α : Type} {s : ByteArray} {R : Re α} {t : α} {r : List Tk} (h : wantR s R = .inr (t,r)) : ∃ r',R = .inr (t,r') := by
 cases R with
 | inl x => cases h
 | inr x =>
  have h' : (if isTk s x.2 then (.inr (x.1,x.2.tail) : Re α) else .inl (atOf x.2,5)) = .inr (t,r) := h
  split at h'
  ·cases h'; exact ⟨x.2,rfl⟩
  ·cases h'
theorem unary_neg {U E : Option (List Tk → Re Tr)} {t : Tk} {ts : List Tk} (h : takeB ⟨#[45]⟩ (.inr (t :: ts)) = true) : runP (unaryOf U E) (.inr (t :: ts)) = mapR (tOne 3) (inP U (t :: ts)) := by
 have h' : isTk ⟨#[45]⟩ (t :: ts) = true := h
 show unaryOf U E (t :: ts) = _
 rw [unaryOf,if_pos h']
 rfl
theorem unary_par {U E : Option (List Tk → Re Tr)} {t : Tk} {ts : List Tk} (h : takeB ⟨#[45]⟩ (.inr (t :: ts)) = false) (k : takeB ⟨#[40]⟩ (.inr (t :: ts)) = true) : runP (unaryOf U E) (.inr (t :: ts)) = wantR ⟨#[41]⟩ (inP E (t :: ts)) := by
 have h' : isTk ⟨#[45]⟩ (t :: ts) = false := h
 have k' : isTk ⟨#[40]⟩ (t :: ts) = true := k
 show unaryOf U E (t :: ts) = _
 rw [unaryOf,if_neg (by rw [h']; simp),if_pos k']
 rfl
theorem unary_leaf {U E : Option (List Tk → Re Tr)} {S : Sa} (h : takeB ⟨#[45]⟩ S = false) (k : takeB ⟨#[40]⟩ S = false) : runP (unaryOf U E) S = runP leafP S := by
 match S with
 | .inl x => rfl
 | .inr ts =>
  have h' : isTk ⟨#[45]⟩ ts = false := h
  have k' : isTk ⟨#[40]⟩ ts = false := k
  show unaryOf U E ts = _
  rw [unaryOf,if_neg (by rw [h']; simp),if_neg (by rw [k']; simp)]
  rfl
theorem leaf_3 {S : Sa} (h : (nxT S).1 = 3) : runP leafP S = mapR (fun t => tInt t.2.2.1) (runP (kindP 3) S) := by
 match S with
 | .inl x => rfl
 | .inr [] => exact absurd h (by decide)
 | .inr (t :: ts) =>
  have h' : kdOf (t :: ts) = 3 := h
  show leafP (t :: ts) = _
  rw [leafP,if_pos h']
  rfl
theorem leaf_4 {S : Sa} (h : (nxT S).1 = 4) : runP leafP S = mapR (fun t => tText t.2.1) (runP (kindP 4) S) := by
 match S with
 | .inl x => rfl
 | .inr [] => exact absurd h (by decide)
 | .inr (t :: ts) =>
  have h' : kdOf (t :: ts) = 4 := h
  show leafP (t :: ts) = _
  rw [leafP,if_neg (by rw [h']; decide),if_pos h']
  rfl
theorem leaf_col {S : Sa} (h : (nxT S).1 ≠ 3) (k : (nxT S).1 ≠ 4) : runP leafP S = runP columnP S := by
 match S with
 | .inl x => rfl
 | .inr [] => rfl
 | .inr (t :: ts) =>
  have h' : kdOf (t :: ts) ≠ 3 := h
  have k' : kdOf (t :: ts) ≠ 4 := k
  show leafP (t :: ts) = _
  rw [leafP,if_neg h',if_neg k']
  rfl
set_option maxRecDepth 100000 in
set_option maxHeartbeats 2000000 in
theorem pUnary_any {g d : Nat} {U E : List Tk → Re Tr} (hd : d ≤ 64) (hU : d < 64 → Reads 128 g (d + 1) U) (hE : d < 64 → Reads 80 g (d + 1) E) : Reads 128 g d (unaryOf (deepP d U) (deepP d E)) := by
 intro S w h
 have hgl := h.lt
 have hmf : ∀ (fn : Fn) (first cap : Array Value) (w : World),(Instr.makeFunc fn first cap).run Tryz.prog w = .ok (.func fn first cap) w := fun _ _ _ _ => rfl
 have b0 := Be.new w 0 nilP (.slice none 0 0)
 have h0 := h.alloc (.cells #[.int .i64 0,.int .i64 0,.int .i64 0,.string ⟨#[]⟩,.string ⟨#[]⟩,.string ⟨#[]⟩,.slice none 0 0] 60)
 have HI := pIs_any h0 ⟨#[45]⟩
 cases hB : takeB ⟨#[45]⟩ S with
 | true =>
  obtain ⟨t,ts,rfl,ht,-⟩ := takeB_true hB
  have HR : Hid _ := hid (unary_neg (U := deepP d U) (E := deepP d E) hB)
  rw [hB] at HI
  replace HI : Hid _ := hid HI
  generalize runP (unaryOf (deepP d U) (deepP d E)) (.inr (t :: ts)) = R at *
  clear hB h hE
  go_enter Tryz.func128,Tryz.ntmps128
  go_wp2_with fail
  refine Calls.mono HI.out ?_
  rintro e w1 ⟨rfl,hb1⟩
  have hr1 := h0.later hb1
  have hB1 : But g w w1 := (But.of hb1).behind
  have z1 := b0.later hb1
  have hsz1 : w.heap.size + 1 ≤ w1.heap.size := by have := hb1.size; simp at this; omega
  have HW : Hid _ := hid (pWithin_any (P := U) (v := .func (.func 128) #[.pointer (some ⟨g,0,none⟩)] #[]) hr1 ht hd fun k => ⟨128,rfl,fun _ _ => by kernel_rfl,hU k⟩)
  generalize inP (deepP d U) (t :: ts) = R1 at *
  clear HI b0 hb1 h0 hr1
  go_wp2_with fail
  refine Calls.mono HW.out ?_
  rintro e w2 ⟨o2,p2,a2,l2,c2,rfl,hb2,hr2,hx2⟩
  have HO : Hid _ := hid (pOne_any 3 o2 p2 (.slice a2 l2 c2) w2)
  have z2 := z1.but hb2 (by omega)
  have hB2 := hB1.trans hb2
  have hsz2 := hb2.size
  clear HW z1 hB1
  unfold exV at HO ⊢
  go_wp2_with fail
  refine Calls.mono HO.out ?_
  rintro e w3 ⟨bb,rfl,hbb,hb3,hc3⟩
  have z3 := z2.later hb3
  have hB3 := hB2.later hb3
  have hr3 := hr2.later hb3
  have HX : Hid (∀ u r,R1 = .inr (u,r) → Ex (fun b => w.heap.size + 1 ≤ b) w3 (tOne 3 u) (exV 3 nilP (.slice (some ⟨bb,0,none⟩) 1 1))) := hid fun u r e =>
   Ex.one (op := 3) (Q := fun b => w.heap.size + 1 ≤ b) (by omega) hc3 (((hx2 u r e).mono fun k hk _ => by omega).later hb3)
  obtain ⟨m0,m1,m2,m3,m4,m5,m6⟩ := z3.cells
  obtain ⟨n0,n1,n2,n3,n4,n5,n6⟩ := z3.free
  clear HO hb3 hc3 hx2 hb2 hr2 hB2 z2 z3
  go_wp2
  refine bodyPost_ret (v := exV 3 nilP (.slice (some ⟨bb,0,none⟩) 1 1)) (by simp [results,Tryz.results128,go_sem,exV,nilP,m0,m1,m2,m3,m4,m5,m6]) rfl (TeE.fin hgl hB3 (by rw [HR.out,stO_mapR]; exact hr3) fun t' r e => ?_)
  rw [HR.out] at e
  obtain ⟨u,e2,rfl⟩ := mapR_inr e
  exact HX.out u r e2
 | false =>
  have HI2 : Hid (∀ w',Rp w' g S d → _) := hid fun w' hr => pIs_any hr ⟨#[40]⟩
  rw [hB] at HI
  replace HI : Hid _ := hid HI
  clear h
  cases hP : takeB ⟨#[40]⟩ S with
  | true =>
   rw [hP] at HI2
   obtain ⟨t,ts,rfl,ht,-⟩ := takeB_true hP
   have HR : Hid _ := hid (unary_par (U := deepP d U) (E := deepP d E) hB hP)
   generalize runP (unaryOf (deepP d U) (deepP d E)) (.inr (t :: ts)) = R at *
   clear hB hP hU
   go_enter Tryz.func128,Tryz.ntmps128
   go_wp2_with fail
   refine Calls.mono HI.out ?_
   rintro e w1 ⟨rfl,hb1⟩
   have hr1 := h0.later hb1
   have H2 : Hid _ := hid (HI2.out w1 hr1)
   clear HI HI2
   go_wp2_with fail
   refine Calls.mono H2.out ?_
   rintro e w2 ⟨rfl,hb2⟩
   have hr2 := hr1.later hb2
   have hb := Below.on hb1 hb2
   have hB2 : But g w w2 := (But.of hb).behind
   have z2 := b0.later hb
   have hsz2 : w.heap.size + 1 ≤ w2.heap.size := by have := hb.size; simp at this; omega
   have HW : Hid _ := hid (pWithin_any (P := E) (v := .func (.func 80) #[.pointer (some ⟨g,0,none⟩)] #[]) hr2 ht hd fun k => ⟨80,rfl,fun _ _ => by kernel_rfl,hE k⟩)
   generalize inP (deepP d E) (t :: ts) = R1 at *
   clear H2 b0 hb1 hb2 hb h0 hr1 hr2
   go_wp2_with fail
   refine Calls.mono HW.out ?_
   rintro e w3 ⟨o3,p3,a3,l3,c3,rfl,hb3,hr3,hx3⟩
   have z3 := z2.but hb3 (by omega)
   have hB3 := hB2.trans hb3
   have hsz3 := hb3.size
   have hr4 := (hr3.alloc (.cells #[.int .i64 o3,.int .i64 p3.1,.int .i64 p3.2.1,.string p3.2.2.1,.string p3.2.2.2.1,.string p3.2.2.2.2,.slice a3 l3 c3] 60)).alloc (.cells #[.string ⟨#[41]⟩] 9)
   have x4 := (Be.new w3 o3 p3 (.slice a3 l3 c3)).later (bal (Below.refl _ _) (.cells #[.string ⟨#[41]⟩] 9))
   have z4 := z3.later (bal (bal (Below.refl _ _) (.cells #[.int .i64 o3,.int .i64 p3.1,.int .i64 p3.2.1,.string p3.2.2.1,.string p3.2.2.2.1,.string p3.2.2.2.2,.slice a3 l3 c3] 60)) (.cells #[.string ⟨#[41]⟩] 9))
   have hB4 := (hB3.alloc (.cells #[.int .i64 o3,.int .i64 p3.1,.int .i64 p3.2.1,.string p3.2.2.1,.string p3.2.2.2.1,.string p3.2.2.2.2,.slice a3 l3 c3] 60)).alloc (.cells #[.string ⟨#[41]⟩] 9)
   have HX4 : Hid (∀ u r,R1 = .inr (u,r) → Ex (fun b => w.heap.size + 1 ≤ b) _ u (exV o3 p3 (.slice a3 l3 c3))) := hid fun u r e => ((hx3 u r e).mono fun k hk _ => by omega).later (bal (bal (Below.refl _ _) (.cells #[.int .i64 o3,.int .i64 p3.1,.int .i64 p3.2.1,.string p3.2.2.1,.string p3.2.2.2.1,.string p3.2.2.2.2,.slice a3 l3 c3] 60)) (.cells #[.string ⟨#[41]⟩] 9))
   have HQ : Hid _ := hid (pWant_any (b := w3.heap.size + 1) hr4 [⟨#[41]⟩] (by decide) (by omega) (by
    intro i hi
    match i,hi with
    | 0,_ => simp [go_sem]))
   rw [show [(⟨#[41]⟩ : ByteArray)].length = 1 from rfl,show wantsS [⟨#[41]⟩] (stO R1) = wantS ⟨#[41]⟩ (stO R1) from rfl] at HQ
   have hq3 : w.heap.size < w3.heap.size := by omega
   clear HW hb3 hr3 hx3 z2 z3 hB2 hB3 hr4
   unfold exV
   go_wp2_with fail
   refine Calls.mono HQ.out ?_
   rintro e w5 ⟨rfl,hr5,hb5⟩
   have x5 := x4.but hb5 (by omega)
   have z5 := z4.but hb5 (by omega)
   have hB5 := hB4.trans hb5
   have HX5 : Hid _ := hid fun u r e => (HX4.out u r e).but hb5 (by omega)
   obtain ⟨k0,k1,k2,k3,k4,k5,k6⟩ := x5.cells
   rw [Nat.zero_add] at k1 k2 k3 k4 k5 k6
   obtain ⟨m0,m1,m2,m3,m4,m5,m6⟩ := z5.cells
   obtain ⟨n0,n1,n2,n3,n4,n5,n6⟩ := z5.free
   clear HQ HX4 hb5 hB4 x4 z4 x5 z5
   go_wp2
   refine bodyPost_ret (v := exV o3 p3 (.slice a3 l3 c3)) (by simp [results,Tryz.results128,go_sem,exV,m0,m1,m2,m3,m4,m5,m6]) rfl (TeE.fin hgl hB5 (by rw [HR.out,stO_wantR]; exact hr5) fun t' r e => ?_)
   rw [HR.out] at e
   obtain ⟨r',e2⟩ := wantR_inr e
   exact HX5.out t' r' e2
  | false =>
   rw [hP] at HI2
   have HR : Hid _ := hid (unary_leaf (U := deepP d U) (E := deepP d E) hB hP)
   generalize runP (unaryOf (deepP d U) (deepP d E)) S = R at *
   have HN : Hid (∀ w',Rp w' g S d → _) := hid fun w' hr => pNext_any hr
   have H3 : Hid _ := hid (leaf_3 (S := S))
   have H4 : Hid _ := hid (leaf_4 (S := S))
   have H5 : Hid _ := hid (leaf_col (S := S))
   unfold tkA at HN
   generalize nxT S = t at *
   obtain ⟨t0,t1,t2,t3⟩ := t
   have hf := fld_kind
   clear hB hP hU hE
   go_enter Tryz.func128,Tryz.ntmps128
   go_wp2_with fail
   refine Calls.mono HI.out ?_
   rintro e w1 ⟨rfl,hb1⟩
   have hr1 := h0.later hb1
   have H2 : Hid _ := hid (HI2.out w1 hr1)
   clear HI HI2
   go_wp2_with fail
   refine Calls.mono H2.out ?_
   rintro e w2 ⟨rfl,hb2⟩
   have hr2 := hr1.later hb2
   have hb := Below.on hb1 hb2
   have HN2 : Hid _ := hid (HN.out w2 hr2)
   clear H2 HN hb1 hb2 hr1
   go_wp2_with fail
   refine Calls.mono HN2.out ?_
   rintro e w3 ⟨rfl,hb3⟩
   have hr3 := hr2.later hb3
   have hb4 := Below.on hb hb3
   have hB3 : But g w w3 := (But.of hb4).behind
   have z3 := b0.later hb4
   have hsz3 : w.heap.size + 1 ≤ w3.heap.size := by have := hb4.size; simp at this; omega
   clear HN2 hb hb3 hb4 b0 h0 hr2
   by_cases k3 : t0 = 3
   ·subst k3
    have E1 : Hid _ := hid (H3.out rfl)
    have HK : Hid _ := hid (pKind_any hr3 3 (by decide) (by decide))
    generalize runP (kindP 3) S = R1 at *
    have hfi := fld_int
    clear H3 H4 H5
    go_wp2_with fail
    refine Calls.mono HK.out ?_
    rintro e w4 ⟨t,rfl,hb5,hr5,hu5⟩
    have z5 := z3.but hb5 (by omega)
    have hB5 := hB3.trans hb5
    obtain ⟨m0,m1,m2,m3,m4,m5,m6⟩ := z5.cells
    obtain ⟨n0,n1,n2,n3,n4,n5,n6⟩ := z5.free
    clear HK hb5 hB3 z3 z5 hr3
    unfold tkA
    go_wp2
    refine bodyPost_ret (v := exV 1 (1,t.2.2.1,⟨#[]⟩,⟨#[]⟩,⟨#[]⟩) (.slice none 0 0)) (by simp [results,Tryz.results128,go_sem,exV,m0,m1,m2,m3,m4,m5,m6]) rfl (TeE.fin hgl hB5 (by rw [HR.out,E1.out,stO_mapR]; exact hr5) fun t' r e => ?_)
    rw [HR.out,E1.out] at e
    obtain ⟨u,e2,rfl⟩ := mapR_inr e
    obtain rfl := hu5 u r e2
    exact Ex.leaf 0 1 _
   ·have g3 : (t0 == 3) = false := by simpa using k3
    by_cases k4 : t0 = 4
    ·subst k4
     have E1 : Hid _ := hid (H4.out rfl)
     have HK : Hid _ := hid (pKind_any hr3 4 (by decide) (by decide))
     generalize runP (kindP 4) S = R1 at *
     have hfi := fld_text
     clear H3 H4 H5 k3 g3
     go_wp2_with fail
     refine Calls.mono HK.out ?_
     rintro e w4 ⟨t,rfl,hb5,hr5,hu5⟩
     have z5 := z3.but hb5 (by omega)
     have hB5 := hB3.trans hb5
     obtain ⟨m0,m1,m2,m3,m4,m5,m6⟩ := z5.cells
     obtain ⟨n0,n1,n2,n3,n4,n5,n6⟩ := z5.free
     clear HK hb5 hB3 z3 z5 hr3
     unfold tkA
     go_wp2
     refine bodyPost_ret (v := exV 1 (2,0,t.2.1,⟨#[]⟩,⟨#[]⟩) (.slice none 0 0)) (by simp [results,Tryz.results128,go_sem,exV,m0,m1,m2,m3,m4,m5,m6]) rfl (TeE.fin hgl hB5 (by rw [HR.out,E1.out,stO_mapR]; exact hr5) fun t' r e => ?_)
     rw [HR.out,E1.out] at e
     obtain ⟨u,e2,rfl⟩ := mapR_inr e
     obtain rfl := hu5 u r e2
     exact Ex.leaf 0 1 _
    ·have g4 : (t0 == 4) = false := by simpa using k4
     have E1 : Hid _ := hid (H5.out k3 k4)
     have HK : Hid _ := hid (pColumn_any hr3)
     generalize runP columnP S = R1 at *
     clear H3 H4 H5 k3 k4
     go_wp2_with fail
     refine Calls.mono HK.out ?_
     rintro e w4 ⟨o2,p2,a2,l2,c2,rfl,hb5,hr5,hx5⟩
     have z5 := z3.but hb5 (by omega)
     have hB5 := hB3.trans hb5
     obtain ⟨m0,m1,m2,m3,m4,m5,m6⟩ := z5.cells
     obtain ⟨n0,n1,n2,n3,n4,n5,n6⟩ := z5.free
     clear HK hb5 hB3 z3 z5 hr3
     unfold exV
     go_wp2
     refine bodyPost_ret (v := exV o2 p2 (.slice a2 l2 c2)) (by simp [results,Tryz.results128,go_sem,exV,m0,m1,m2,m3,m4,m5,m6]) rfl (TeE.fin hgl hB5 (by rw [HR.out,E1.out]; exact hr5) fun t' r e => ?_)
     rw [HR.out,E1.out] at e
     exact (hx5 t' r e).mono fun k hk _ => by omega
theorem thenR_inr {α β : Type} {x : Re α} {f : α → List Tk → Re β} {t : β} {r : List Tk} (h : thenR x f = .inr (t,r)) : ∃ u q,x = .inr (u,q) ∧ f u q = .inr (t,r) := by
 cases x with
 | inl e => cases h
 | inr y => exact ⟨y.1,y.2,rfl,h⟩
theorem shr_kind (k : Int) : Shr (kindP k) := by
 intro ts t r h
 cases ts with
 | nil => cases h
 | cons x l =>
  rw [kindP] at h
  split at h
  ·cases h; simp
  ·cases h
theorem shr_name : Shr nameP := by
 intro ts t r h
 obtain ⟨u,q,h1,h2⟩ := thenR_inr h
 cases h2
 exact shr_kind 1 _ _ _ h1
theorem shr_column : Shr columnP := by
 intro ts t r h
 obtain ⟨u,q,h1,h2⟩ := thenR_inr h
 have e1 := shr_name ts u q h1
 split at h2
 ·obtain ⟨u2,q2,h3,h4⟩ := thenR_inr h2
  cases h4
  have e2 := shr_name _ _ _ h3
  rw [List.length_tail] at e2
  omega
 ·cases h2; exact e1
theorem shr_leaf : Shr leafP := by
 intro ts t r h
 rw [leafP] at h
 split at h
 ·obtain ⟨u,q,h1,h2⟩ := thenR_inr h
  cases h2
  exact shr_kind 3 _ _ _ h1
 ·split at h
  ·obtain ⟨u,q,h1,h2⟩ := thenR_inr h
   cases h2
   exact shr_kind 4 _ _ _ h1
  ·exact shr_column ts t r h
theorem shr_chainL {P : List Tk → Re Tr} (hP : Shr P) (l : List (ByteArray × Int)) : ∀ (k : Nat) (x : Tr),Shr (chainL P l k x) := by
 intro k
 induction k with
 | zero => intro x ts t r h; cases h; exact Nat.le_refl _
 | succ k ih =>
  intro x ts t r h
  rw [chainL] at h
  split at h
  ·cases h; exact Nat.le_refl _
  ·obtain ⟨u,q,h1,h2⟩ := thenR_inr h
   have e1 := hP _ u q h1
   have e2 := ih _ q t r h2
   rw [List.length_tail] at e1
   omega
theorem shr_chain {P : List Tk → Re Tr} (hP : Shr P) (l : List (ByteArray × Int)) : Shr (chainP P l) := by
 intro ts t r h
 obtain ⟨u,q,h1,h2⟩ := thenR_inr h
 exact Nat.le_trans (shr_chainL hP l _ u q t r h2) (hP ts u q h1)
theorem shr_comp {U : List Tk → Re Tr} (hU : Shr U) : Shr (compP U) := by
 intro ts t r h
 have hS : Shr (sumP U) := shr_chain (shr_chain hU _) _
 obtain ⟨u,q,h1,h2⟩ := thenR_inr h
 have e1 := hS ts u q h1
 split at h2
 ·cases h2; exact e1
 ·obtain ⟨u2,q2,h3,h4⟩ := thenR_inr h2
  cases h4
  have e2 := hS _ _ _ h3
  rw [List.length_tail] at e2
  omega
def ShrO (P : Option (List Tk → Re Tr)) : Prop := ∀ p,P = some p → Shr p
theorem shr_in {P : Option (List Tk → Re Tr)} (hP : ShrO P) : Shr (inP P) := by
 intro ts t r h
 cases P with
 | none => cases h
 | some p =>
  have := hP p rfl ts.tail t r h
  rw [List.length_tail] at this
  omega
theorem shr_unary {U E : Option (List Tk → Re Tr)} (hU : ShrO U) (hE : ShrO E) : Shr (unaryOf U E) := by
 intro ts t r h
 rw [unaryOf] at h
 split at h
 ·obtain ⟨u,q,h1,h2⟩ := thenR_inr h
  cases h2
  exact shr_in hU _ _ _ h1
 ·split at h
  ·obtain ⟨u,q,h1,h2⟩ := thenR_inr h
   have := shr_in hE ts u q h1
   split at h2
   ·cases h2; rw [List.length_tail]; omega
   ·cases h2
  ·exact shr_leaf ts t r h
theorem shr_not {N : Option (List Tk → Re Tr)} {U : List Tk → Re Tr} (hN : ShrO N) (hU : Shr U) : Shr (notOf N U) := by
 intro ts t r h
 rw [notOf] at h
 split at h
 ·obtain ⟨u,q,h1,h2⟩ := thenR_inr h
  cases h2
  exact shr_in hN _ _ _ h1
 ·exact shr_comp hU ts t r h
theorem shr_un (n : Nat) : Shr (unaryP n) ∧ Shr (notP n) := by
 induction n with
 | zero =>
  have h1 : Shr (unaryP 0) := by rw [unaryP_eq]; exact shr_unary (fun p e => by cases e) (fun p e => by cases e)
  exact ⟨h1,by rw [notP_eq]; exact shr_not (fun p e => by cases e) h1⟩
 | succ n ih =>
  have hE : Shr (exprP n) := shr_chain (shr_chain ih.2 _) _
  have h1 : Shr (unaryP (n + 1)) := by rw [unaryP_eq]; exact shr_unary (fun p e => by cases e; exact ih.1) (fun p e => by cases e; exact hE)
  exact ⟨h1,by rw [notP_eq]; exact shr_not (fun p e => by cases e; exact ih.2) h1⟩
theorem shr_expr (n : Nat) : Shr (exprP n) := shr_chain (shr_chain (shr_un n).2 _) _
theorem deep_below {d n : Nat} (h : d + n = 64) (f : Nat → List Tk → Re Tr) : below f n = deepP d (f (n - 1)) := by
 cases n with
 | zero => rw [deepP,if_pos (by omega)]; rfl
 | succ n => rw [deepP,if_neg (by omega)]; rfl
theorem reads_expr {g d n : Nat} (h : Reads 111 g d (notP n)) : Reads 80 g d (exprP n) := fun S w hr =>
 pExpr_any (fun S w hr => pAnd_any h (shr_un n).2 hr) (shr_chain (shr_un n).2 _) hr
theorem reads_comp {g d : Nat} {U : List Tk → Re Tr} (h : Reads 128 g d U) (hS : Shr U) : Reads 119 g d (compP U) := fun S w hr =>
 pComp_any (fun S w hr => pSum_any (fun S w hr => pTerm_any h hS hr) (shr_chain hS _) hr) hr
theorem reads_un (g : Nat) : ∀ (n d : Nat),d + n = 64 → Reads 128 g d (unaryP n) ∧ Reads 111 g d (notP n) := by
 intro n
 induction n with
 | zero =>
  intro d hd
  have h1 : Reads 128 g d (unaryP 0) := by
   rw [unaryP_eq,deep_below hd,deep_below hd]
   exact pUnary_any (by omega) (fun k => absurd k (by omega)) (fun k => absurd k (by omega))
  refine ⟨h1,?_⟩
  rw [notP_eq,deep_below hd]
  exact pNot_any (by omega) (fun k => absurd k (by omega)) (reads_comp h1 (shr_un 0).1)
 | succ n ih =>
  intro d hd
  have hi := ih (d + 1) (by omega)
  have h1 : Reads 128 g d (unaryP (n + 1)) := by
   rw [unaryP_eq,deep_below hd,deep_below hd]
   exact pUnary_any (by omega) (fun _ => hi.1) (fun _ => reads_expr hi.2)
  refine ⟨h1,?_⟩
  rw [notP_eq,deep_below hd]
  exact pNot_any (by omega) (fun _ => hi.2) (reads_comp h1 (shr_un (n + 1)).1)
theorem expr_any {g : Nat} {S : Sa} {w : World} (h : Rp w g S 0) : Calls Tryz.prog 80 #[.pointer (some ⟨g,0,none⟩)] w (TeE g 0 w (runP (exprP 64) S)) :=
 reads_expr (reads_un g 64 0 rfl).2 S w h
end Go.Proofs.YtfopfhlohihihaaGreat
