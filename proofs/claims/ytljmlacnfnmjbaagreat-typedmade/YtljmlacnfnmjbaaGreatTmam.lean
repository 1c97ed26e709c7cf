import Derived.Test.YtljmlacnfnmjbaaGreatTmak
import Derived.Test.YtljmlacnfnmjbaaGreatTmac
namespace Go.Proofs.YtljmlacnfnmjbaaGreat
open Go.RowKit
set_option linter.unusedVariables false
set_option linter.unusedSimpArgs false

set_option maxRecDepth 100000 in
set_option maxHeartbeats 20000000 in
theorem playStmt_1 {g r : Nat} {w : World} (h : Pk w g r) (hk : nxP (w.alloc zSt) g 14 = 1) : Calls Tryz.prog 19 #[.pointer (some ⟨g,0,none⟩)] w (TeSf g r w StOK) := by
 have hgl := h.lt
 have hR0 : Bs (w.alloc zSt) w.heap.size (zS 0) := Bs.new w (zS 0)
 have hU0 : But g w (w.alloc zSt) := (But.refl g w).alloc _
 have hp0 := h.alloc zSt
 have HN : Hid _ := hid (num_exact hp0 14 (by decide) (by decide))
 clear h
 go_enter Tryz.func19,Tryz.ntmps19
 go_wp2_with fail
 refine Calls.mono HN.out ?_
 rintro e w2 ⟨r2,rfl,hk14,hl,hp2,hb2⟩
 generalize nxP (w.alloc zSt) g 14 = k at *
 have hU2 := hU0.trans hb2
 have hR2 := hR0.but hb2 (by omega)
 have hl2 := hl.1
 have HX : Hid (w.heap.size = w.heap.size) := hid rfl
 clear HN hU0 hR0 hp0 hb2 hl
 generalize hzz : w.heap.size = z at hR2 hgl HX ⊢
 replace HX : Hid (z = w.heap.size) := hid hzz.symm
 clear hzz
 have hzl2 := hR2.lt
 subst hk
 have g0 : (((1 : Nat) : Int) == 0) = false := by decide
 have hD : But g w2 w2.drew := But.of (Below.refl _ w2).drew
 have hpD := hp2.later (Below.refl _ w2).drew
 have hgl2 := hp2.lt
 clear hp2
 go_upto_region 13 with fail
 refine wp_region_held_drew (S := (fun _ => True)) (by kernel_rfl) (trivial) (fun hHeld => ?_)
 refine tkH 1 ?tv14 rfl (by kernel_rfl) (by kernel_rfl) (by kernel_rfl) (fun _ _ _ h => h) (by rfl) ?hy14 hHeld ?rs14
 case hy14 => (intro w9 _; go_simp; (try with_reducible rfl))
 (try simp only [Act.put,s1,s2,s3])
 refine tkH 6 ?tv15 rfl (by kernel_rfl) (by kernel_rfl) (by kernel_rfl) (fun _ _ _ h => h) (by rfl) ?hy15 hHeld ?rs15
 case hy15 => (intro w9 _; go_simp; (try with_reducible rfl))
 (try simp only [Act.put,s1,s2,s3])
 refine wpAnyH_ready (rs := [0,2,5]) (by kernel_rfl) (by simp) ?_
 refine AllReadyH.cons rfl (fun K hK => ?_) (AllReadyH.cons rfl (fun K hK => ?_) (AllReadyH.cons rfl (fun K hK => ?_) AllReadyH.nil))
 ·go_simp
  have hEq1 : But g w2 (w2.alloc oT3).drew := hD.alloc _
  have hpq1 : Pk (w2.alloc oT3).drew g r2 := hpD.alloc _
  have hSq1 : Txt (w2.alloc oT3).drew w2.heap.size lT3 := Txt.new3 w2.drew ⟨#[116]⟩ ⟨#[117]⟩ ⟨#[119]⟩
  have hszq1 : w2.heap.size ≤ w2.heap.size := by have := hD.size; (try simp at this); omega
  clear hpD hD 
  generalize hgb : w2.heap.size = bS at hSq1 hszq1 ⊢
  have hzhS : z < bS := by omega
  clear hgb
  generalize (w2.alloc oT3).drew = uq1 at *
  refine hK.out _ _ (trivial) (fun hHeld => ?_)
  clear hK K
  (try simp only [Act.put,s1,s2,s3])
  have hHeld9 : (fun w' => Txt w' bS lT3) uq1 := hSq1
  clear hHeld
  refine wpAnyH_str (S' := (fun w' => Txt w' bS lT3)) (fun w h => trivial) _ _ _ _ ?_
  have hHeld := hHeld9
  clear hHeld9
  refine wpAnyH_ready (rs := [2,5]) (by kernel_rfl) (by simp) ?_
  refine AllReadyH.cons rfl (fun K hK => ?_) (AllReadyH.cons rfl (fun K hK => ?_) AllReadyH.nil)
  ·go_simp
   go_wp2_with (first | (go_at_call 39; refine Calls.mono (num_any hpq1 3 (by decide) (by decide)) ?_; rintro e uq2 ⟨ka,rq2,rfl,hka,hlq2,hpq2,hbq2⟩))
   have hEq2 := hEq1.trans hbq2
   have hrq2 := hlq2.1
   have hSq2 := hSq1.but hbq2 (by omega)
   clear hpq1 hEq1 hbq2 hlq2 hSq1
   have ika : (0 : Int) ≤ (ka : Int) := by omega
   have jka : (ka : Int) < 3 := by omega
   refine hK.out _ _ (hSq2) (fun hHeld => ?_)
   clear hK K
   (try simp only [Act.put,s1,s2,s3])
   refine tkH 3 ?tv16 rfl (by kernel_rfl) (by kernel_rfl) (by kernel_rfl) (fun _ _ _ h => h) (by rfl) ?hy16 hHeld ?rs16
   case hy16 => (intro w9 _; go_simp; (try with_reducible rfl))
   (try simp only [Act.put,s1,s2,s3])
   refine tkH 4 ?tv17 rfl (by kernel_rfl) (by kernel_rfl) (by kernel_rfl) (fun _ _ _ h => h) (by rfl) ?hy17 hHeld ?rs17
   case hy17 => (intro w9 hSw; (try dsimp only at hSw); have bl9 := (hSw).lt; have c9 := (hSw).cell ka (by show ka < 3; omega); go_simp; (try with_reducible rfl))
   (try simp only [Act.put,s1,s2,s3])
   refine wpAnyH_ready (rs := [5,7]) (by kernel_rfl) (by simp) ?_
   refine AllReadyH.cons rfl (fun K hK => ?_) (AllReadyH.cons rfl (fun K hK => ?_) AllReadyH.nil)
   ·go_simp
    have hEq3 : But g w2 (uq2.alloc oN4) := hEq2.alloc _
    have hpq3 : Pk (uq2.alloc oN4) g rq2 := hpq2.alloc _
    have hTq3 : Txt (uq2.alloc oN4) uq2.heap.size lN4 := Txt.new4 uq2 ⟨#[110]⟩ ⟨#[118]⟩ ⟨#[107]⟩ ⟨#[113]⟩
    have hSq3 := hSq2.later (bal (Below.refl _ uq2) oN4)
    have lthSq3 : bS < uq2.heap.size := hSq2.lt
    have hszq3 : w2.heap.size ≤ uq2.heap.size := by have := hEq2.size; (try simp at this); omega
    have hSt3 : Txt (uq2.alloc oN4) bS lT3 := hSq3
    clear hpq2 hEq2 hSq2 hSq3
    generalize hgb : uq2.heap.size = bT at hTq3 hszq3 ⊢
    have hzhT : z < bT := by omega
    have nehSq3 : bS ≠ bT := by omega
    clear hgb
    generalize (uq2.alloc oN4) = uq3 at *
    refine hK.out _ _ (hSt3) (fun hHeld => ?_)
    clear hK K
    (try simp only [Act.put,s1,s2,s3])
    have hHeld9 : (fun w' => Txt w' bT lN4 ∧ Txt w' bS lT3) uq3 := ⟨hTq3,hSt3⟩
    clear hHeld
    refine wpAnyH_str (S' := (fun w' => Txt w' bT lN4 ∧ Txt w' bS lT3)) (fun w h => h.2) _ _ _ _ ?_
    have hHeld := hHeld9
    clear hHeld9
    refine wpAnyH_ready (rs := [7]) (by kernel_rfl) (by simp) ?_
    refine AllReadyH.cons rfl (fun K hK => ?_) AllReadyH.nil
    go_simp
    go_wp2_with (first | (go_at_call 39; refine Calls.mono (num_any hpq3 4 (by decide) (by decide)) ?_; rintro e uq4 ⟨kb,rq4,rfl,hkb,hlq4,hpq4,hbq4⟩))
    have hEq4 := hEq3.trans hbq4
    have hrq4 := hlq4.1
    have hTq4 := hTq3.but hbq4 (by omega)
    have hSq4 := hSt3.but hbq4 (by omega)
    clear hpq3 hEq3 hbq4 hlq4 hTq3 hSt3
    have ikb : (0 : Int) ≤ (kb : Int) := by omega
    have jkb : (kb : Int) < 4 := by omega
    refine hK.out _ _ (⟨hTq4,hSq4⟩) (fun hHeld => ?_)
    clear hK K
    (try simp only [Act.put,s1,s2,s3])
    refine tkH 8 ?tv18 rfl (by kernel_rfl) (by kernel_rfl) (by kernel_rfl) (fun _ _ _ h => h) (by rfl) ?hy18 hHeld ?rs18
    case hy18 => (intro w9 _; go_simp; (try with_reducible rfl))
    (try simp only [Act.put,s1,s2,s3])
    refine tkH 9 ?tv19 rfl (by kernel_rfl) (by kernel_rfl) (by kernel_rfl) (fun _ _ _ h => h) (by rfl) ?hy19 hHeld ?rs19
    case hy19 => (intro w9 hSw; (try dsimp only at hSw); have bl9 := (hSw.1).lt; have c9 := (hSw.1).cell kb (by show kb < 4; omega); go_simp; (try with_reducible rfl))
    (try simp only [Act.put,s1,s2,s3])
    refine tkH 10 ?tv20 rfl (by kernel_rfl) (by kernel_rfl) (by kernel_rfl) (fun _ _ _ h => h) (by rfl) ?hy20 hHeld ?rs20
    case hy20 => (intro w9 _; go_simp; (try with_reducible rfl))
    (try simp only [Act.put,s1,s2,s3])
    refine wpAnyH_ready (rs := [11]) (by kernel_rfl) (by simp) ?_
    refine AllReadyH.cons rfl (fun K hK => ?_) AllReadyH.nil
    have hr9 : rq4 ≤ r := by omega
    have htb1 : (txN lT3 ka) ∈ lT3 := txN_mem (by show ka < 3; omega)
    have hnm1 : (txN lN4 kb) ∈ lN4 := txN_mem (by show kb < 4; omega)
    generalize txN lT3 ka = tb1 at *
    generalize txN lN4 kb = nm1 at *
    have hRf : Bs uq4 z (zS 0) := hR2.but hEq4 (by omega)
    have cR := hRf.cells
    have fR := hRf.free
    have hzlf := hRf.lt
    have d0 := cR.1
    have d1 := cR.2.1
    have d2 := cR.2.2.1
    have d3 := cR.2.2.2.1
    have d4 := cR.2.2.2.2.1
    have d5 := cR.2.2.2.2.2.1
    have d6 := cR.2.2.2.2.2.2.1
    have d7 := cR.2.2.2.2.2.2.2.1
    have d8 := cR.2.2.2.2.2.2.2.2.1
    have d9 := cR.2.2.2.2.2.2.2.2.2.1
    have d10 := cR.2.2.2.2.2.2.2.2.2.2.1
    have d11 := cR.2.2.2.2.2.2.2.2.2.2.2.1
    have d12 := cR.2.2.2.2.2.2.2.2.2.2.2.2
    have f0 := fR.1
    have f1 := fR.2.1
    have f2 := fR.2.2.1
    have f3 := fR.2.2.2.1
    have f4 := fR.2.2.2.2.1
    have f5 := fR.2.2.2.2.2.1
    have f6 := fR.2.2.2.2.2.2.1
    have f7 := fR.2.2.2.2.2.2.2.1
    have f8 := fR.2.2.2.2.2.2.2.2.1
    have f9 := fR.2.2.2.2.2.2.2.2.2.1
    have f10 := fR.2.2.2.2.2.2.2.2.2.2.1
    have f11 := fR.2.2.2.2.2.2.2.2.2.2.2.1
    have f12 := fR.2.2.2.2.2.2.2.2.2.2.2.2
    clear cR fR
    have HXS : Hid (Txt (set13 uq4 z (sIx tb1 nm1)) bT lN4 ∧ Txt (set13 uq4 z (sIx tb1 nm1)) bS lT3) := hid ⟨(hTq4.keep (by rw [set13_size]; exact Nat.le_refl _) (set13_heap uq4 z (sIx tb1 nm1) (by omega))),(hSq4.keep (by rw [set13_size]; exact Nat.le_refl _) (set13_heap uq4 z (sIx tb1 nm1) (by omega)))⟩
    clear hTq4 hSq4
    have T : Hid (TeSf g r w StOK (.returned (stV (sIx tb1 nm1))) (set13 uq4 z (sIx tb1 nm1))) := hid (TeSf.fin (m := (⟨2,tb1,nm1,[],[],[],[],⟨#[]⟩,[],[],[],false⟩,[])) (hU2.trans hEq4) { IsS.zero _ _ 2 with tb := rfl,nm := rfl } (RowIs.nil _ _ _) (.inr (.inl ⟨tb1,nm1,htb1,hnm1,rfl⟩)) hr9 hpq4 hgl HX.out)
    clear hRf hEq4 hpq4 hU2 hR2 htb1 hnm1 g0
    unfold set13 at T
    unfold stV at T
    dsimp only at T
    unfold set13 at HXS
    dsimp only at HXS
    go_simp
    refine hK.out _ _ (HXS.out) (fun hHeld => ?_)
    clear hK K
    (try simp only [Act.put,s1,s2,s3])
    refine wpAnyH_done (by kernel_rfl) ?_ _
    go_wp2
    refine bodyPost_ret (v := stV (sIx tb1 nm1)) (by simp [results,Tryz.results19,go_sem,stV,d0,d1,d2,d3,d4,d5,d6,d7,d8,d9,d10,d11,d12]) rfl ?_
    exact T.out
   go_simp
   go_wp2_with (first | (go_at_call 39; refine Calls.mono (num_any hpq2 4 (by decide) (by decide)) ?_; rintro e uq5 ⟨kb,rq5,rfl,hkb,hlq5,hpq5,hbq5⟩))
   have hEq5 := hEq2.trans hbq5
   have hrq5 := hlq5.1
   have hSq5 := hSq2.but hbq5 (by omega)
   clear hpq2 hEq2 hbq5 hlq5 hSq2
   have ikb : (0 : Int) ≤ (kb : Int) := by omega
   have jkb : (kb : Int) < 4 := by omega
   refine hK.out _ _ (hSq5) (fun hHeld => ?_)
   clear hK K
   (try simp only [Act.put,s1,s2,s3])
   refine wpAnyH_ready (rs := [5]) (by kernel_rfl) (by simp) ?_
   refine AllReadyH.cons rfl (fun K hK => ?_) AllReadyH.nil
   go_simp
   have hEq6 : But g w2 (uq5.alloc oN4) := hEq5.alloc _
   have hpq6 : Pk (uq5.alloc oN4) g rq5 := hpq5.alloc _
   have hTq6 : Txt (uq5.alloc oN4) uq5.heap.size lN4 := Txt.new4 uq5 ⟨#[110]⟩ ⟨#[118]⟩ ⟨#[107]⟩ ⟨#[113]⟩
   have hSq6 := hSq5.later (bal (Below.refl _ uq5) oN4)
   have lthSq6 : bS < uq5.heap.size := hSq5.lt
   have hszq6 : w2.heap.size ≤ uq5.heap.size := by have := hEq5.size; (try simp at this); omega
   have hSt6 : Txt (uq5.alloc oN4) bS lT3 := hSq6
   clear hpq5 hEq5 hSq5 hSq6
   generalize hgb : uq5.heap.size = bT at hTq6 hszq6 ⊢
   have hzhT : z < bT := by omega
   have nehSq6 : bS ≠ bT := by omega
   clear hgb
   generalize (uq5.alloc oN4) = uq6 at *
   refine hK.out _ _ (hSt6) (fun hHeld => ?_)
   clear hK K
   (try simp only [Act.put,s1,s2,s3])
   have hHeld9 : (fun w' => Txt w' bT lN4 ∧ Txt w' bS lT3) uq6 := ⟨hTq6,hSt6⟩
   clear hHeld
   refine wpAnyH_str (S' := (fun w' => Txt w' bT lN4 ∧ Txt w' bS lT3)) (fun w h => h.2) _ _ _ _ ?_
   have hHeld := hHeld9
   clear hHeld9
   refine tkH 8 ?tv21 rfl (by kernel_rfl) (by kernel_rfl) (by kernel_rfl) (fun _ _ _ h => h) (by rfl) ?hy21 hHeld ?rs21
   case hy21 => (intro w9 _; go_simp; (try with_reducible rfl))
   (try simp only [Act.put,s1,s2,s3])
   refine tkH 9 ?tv22 rfl (by kernel_rfl) (by kernel_rfl) (by kernel_rfl) (fun _ _ _ h => h) (by rfl) ?hy22 hHeld ?rs22
   case hy22 => (intro w9 hSw; (try dsimp only at hSw); have bl9 := (hSw.1).lt; have c9 := (hSw.1).cell kb (by show kb < 4; omega); go_simp; (try with_reducible rfl))
   (try simp only [Act.put,s1,s2,s3])
   refine tkH 10 ?tv23 rfl (by kernel_rfl) (by kernel_rfl) (by kernel_rfl) (fun _ _ _ h => h) (by rfl) ?hy23 hHeld ?rs23
   case hy23 => (intro w9 _; go_simp; (try with_reducible rfl))
   (try simp only [Act.put,s1,s2,s3])
   refine wpAnyH_ready (rs := [11]) (by kernel_rfl) (by simp) ?_
   refine AllReadyH.cons rfl (fun K hK => ?_) AllReadyH.nil
   have hr9 : rq5 ≤ r := by omega
   have htb1 : (txN lT3 ka) ∈ lT3 := txN_mem (by show ka < 3; omega)
   have hnm1 : (txN lN4 kb) ∈ lN4 := txN_mem (by show kb < 4; omega)
   generalize txN lT3 ka = tb1 at *
   generalize txN lN4 kb = nm1 at *
   have hRf : Bs uq6 z (zS 0) := hR2.but hEq6 (by omega)
   have cR := hRf.cells
   have fR := hRf.free
   have hzlf := hRf.lt
   have d0 := cR.1
   have d1 := cR.2.1
   have d2 := cR.2.2.1
   have d3 := cR.2.2.2.1
   have d4 := cR.2.2.2.2.1
   have d5 := cR.2.2.2.2.2.1
   have d6 := cR.2.2.2.2.2.2.1
   have d7 := cR.2.2.2.2.2.2.2.1
   have d8 := cR.2.2.2.2.2.2.2.2.1
   have d9 := cR.2.2.2.2.2.2.2.2.2.1
   have d10 := cR.2.2.2.2.2.2.2.2.2.2.1
   have d11 := cR.2.2.2.2.2.2.2.2.2.2.2.1
   have d12 := cR.2.2.2.2.2.2.2.2.2.2.2.2
   have f0 := fR.1
   have f1 := fR.2.1
   have f2 := fR.2.2.1
   have f3 := fR.2.2.2.1
   have f4 := fR.2.2.2.2.1
   have f5 := fR.2.2.2.2.2.1
   have f6 := fR.2.2.2.2.2.2.1
   have f7 := fR.2.2.2.2.2.2.2.1
   have f8 := fR.2.2.2.2.2.2.2.2.1
   have f9 := fR.2.2.2.2.2.2.2.2.2.1
   have f10 := fR.2.2.2.2.2.2.2.2.2.2.1
   have f11 := fR.2.2.2.2.2.2.2.2.2.2.2.1
   have f12 := fR.2.2.2.2.2.2.2.2.2.2.2.2
   clear cR fR
   have HXS : Hid (Txt (set13 uq6 z (sIx tb1 nm1)) bT lN4 ∧ Txt (set13 uq6 z (sIx tb1 nm1)) bS lT3) := hid ⟨(hTq6.keep (by rw [set13_size]; exact Nat.le_refl _) (set13_heap uq6 z (sIx tb1 nm1) (by omega))),(hSt6.keep (by rw [set13_size]; exact Nat.le_refl _) (set13_heap uq6 z (sIx tb1 nm1) (by omega)))⟩
   clear hTq6 hSt6
   have T : Hid (TeSf g r w StOK (.returned (stV (sIx tb1 nm1))) (set13 uq6 z (sIx tb1 nm1))) := hid (TeSf.fin (m := (⟨2,tb1,nm1,[],[],[],[],⟨#[]⟩,[],[],[],false⟩,[])) (hU2.trans hEq6) { IsS.zero _ _ 2 with tb := rfl,nm := rfl } (RowIs.nil _ _ _) (.inr (.inl ⟨tb1,nm1,htb1,hnm1,rfl⟩)) hr9 hpq6 hgl HX.out)
   clear hRf hEq6 hpq6 hU2 hR2 htb1 hnm1 g0
   unfold set13 at T
   unfold stV at T
   dsimp only at T
   unfold set13 at HXS
   dsimp only at HXS
   go_simp
   refine hK.out _ _ (HXS.out) (fun hHeld => ?_)
   clear hK K
   (try simp only [Act.put,s1,s2,s3])
   refine wpAnyH_done (by kernel_rfl) ?_ _
   go_wp2
   refine bodyPost_ret (v := stV (sIx tb1 nm1)) (by simp [results,Tryz.results19,go_sem,stV,d0,d1,d2,d3,d4,d5,d6,d7,d8,d9,d10,d11,d12]) rfl ?_
   exact T.out
  go_simp
  have hEq7 : But g w2 (uq1.alloc oN4) := hEq1.alloc _
  have hpq7 : Pk (uq1.alloc oN4) g r2 := hpq1.alloc _
  have hTq7 : Txt (uq1.alloc oN4) uq1.heap.size lN4 := Txt.new4 uq1 ⟨#[110]⟩ ⟨#[118]⟩ ⟨#[107]⟩ ⟨#[113]⟩
  have hSq7 := hSq1.later (bal (Below.refl _ uq1) oN4)
  have lthSq7 : bS < uq1.heap.size := hSq1.lt
  have hszq7 : w2.heap.size ≤ uq1.heap.size := by have := hEq1.size; (try simp at this); omega
  have hSt7 : Txt (uq1.alloc oN4) bS lT3 := hSq7
  clear hpq1 hEq1 hSq1 hSq7
  generalize hgb : uq1.heap.size = bT at hTq7 hszq7 ⊢
  have hzhT : z < bT := by omega
  have nehSq7 : bS ≠ bT := by omega
  clear hgb
  generalize (uq1.alloc oN4) = uq7 at *
  refine hK.out _ _ (hSt7) (fun hHeld => ?_)
  clear hK K
  (try simp only [Act.put,s1,s2,s3])
  have hHeld9 : (fun w' => Txt w' bT lN4 ∧ Txt w' bS lT3) uq7 := ⟨hTq7,hSt7⟩
  clear hHeld
  refine wpAnyH_str (S' := (fun w' => Txt w' bT lN4 ∧ Txt w' bS lT3)) (fun w h => h.2) _ _ _ _ ?_
  have hHeld := hHeld9
  clear hHeld9
  refine wpAnyH_ready (rs := [2]) (by kernel_rfl) (by simp) ?_
  refine AllReadyH.cons rfl (fun K hK => ?_) AllReadyH.nil
  go_simp
  go_wp2_with (first | (go_at_call 39; refine Calls.mono (num_any hpq7 3 (by decide) (by decide)) ?_; rintro e uq8 ⟨ka,rq8,rfl,hka,hlq8,hpq8,hbq8⟩))
  have hEq8 := hEq7.trans hbq8
  have hrq8 := hlq8.1
  have hTq8 := hTq7.but hbq8 (by omega)
  have hSq8 := hSt7.but hbq8 (by omega)
  clear hpq7 hEq7 hbq8 hlq8 hTq7 hSt7
  have ika : (0 : Int) ≤ (ka : Int) := by omega
  have jka : (ka : Int) < 3 := by omega
  refine hK.out _ _ (⟨hTq8,hSq8⟩) (fun hHeld => ?_)
  clear hK K
  (try simp only [Act.put,s1,s2,s3])
  refine tkH 3 ?tv24 rfl (by kernel_rfl) (by kernel_rfl) (by kernel_rfl) (fun _ _ _ h => h) (by rfl) ?hy24 hHeld ?rs24
  case hy24 => (intro w9 _; go_simp; (try with_reducible rfl))
  (try simp only [Act.put,s1,s2,s3])
  refine tkH 4 ?tv25 rfl (by kernel_rfl) (by kernel_rfl) (by kernel_rfl) (fun _ _ _ h => h) (by rfl) ?hy25 hHeld ?rs25
  case hy25 => (intro w9 hSw; (try dsimp only at hSw); have bl9 := (hSw.2).lt; have c9 := (hSw.2).cell ka (by show ka < 3; omega); go_simp; (try with_reducible rfl))
  (try simp only [Act.put,s1,s2,s3])
  refine wpAnyH_ready (rs := [7]) (by kernel_rfl) (by simp) ?_
  refine AllReadyH.cons rfl (fun K hK => ?_) AllReadyH.nil
  go_simp
  go_wp2_with (first | (go_at_call 39; refine Calls.mono (num_any hpq8 4 (by decide) (by decide)) ?_; rintro e uq9 ⟨kb,rq9,rfl,hkb,hlq9,hpq9,hbq9⟩))
  have hEq9 := hEq8.trans hbq9
  have hrq9 := hlq9.1
  have hTq9 := hTq8.but hbq9 (by omega)
  have hSq9 := hSq8.but hbq9 (by omega)
  clear hpq8 hEq8 hbq9 hlq9 hTq8 hSq8
  have ikb : (0 : Int) ≤ (kb : Int) := by omega
  have jkb : (kb : Int) < 4 := by omega
  refine hK.out _ _ (⟨hTq9,hSq9⟩) (fun hHeld => ?_)
  clear hK K
  (try simp only [Act.put,s1,s2,s3])
  refine tkH 8 ?tv26 rfl (by kernel_rfl) (by kernel_rfl) (by kernel_rfl) (fun _ _ _ h => h) (by rfl) ?hy26 hHeld ?rs26
  case hy26 => (intro w9 _; go_simp; (try with_reducible rfl))
  (try simp only [Act.put,s1,s2,s3])
  refine tkH 9 ?tv27 rfl (by kernel_rfl) (by kernel_rfl) (by kernel_rfl) (fun _ _ _ h => h) (by rfl) ?hy27 hHeld ?rs27
  case hy27 => (intro w9 hSw; (try dsimp only at hSw); have bl9 := (hSw.1).lt; have c9 := (hSw.1).cell kb (by show kb < 4; omega); go_simp; (try with_reducible rfl))
  (try simp only [Act.put,s1,s2,s3])
  refine tkH 10 ?tv28 rfl (by kernel_rfl) (by kernel_rfl) (by kernel_rfl) (fun _ _ _ h => h) (by rfl) ?hy28 hHeld ?rs28
  case hy28 => (intro w9 _; go_simp; (try with_reducible rfl))
  (try simp only [Act.put,s1,s2,s3])
  refine wpAnyH_ready (rs := [11]) (by kernel_rfl) (by simp) ?_
  refine AllReadyH.cons rfl (fun K hK => ?_) AllReadyH.nil
  have hr9 : rq9 ≤ r := by omega
  have htb1 : (txN lT3 ka) ∈ lT3 := txN_mem (by show ka < 3; omega)
  have hnm1 : (txN lN4 kb) ∈ lN4 := txN_mem (by show kb < 4; omega)
  generalize txN lT3 ka = tb1 at *
  generalize txN lN4 kb = nm1 at *
  have hRf : Bs uq9 z (zS 0) := hR2.but hEq9 (by omega)
  have cR := hRf.cells
  have fR := hRf.free
  have hzlf := hRf.lt
  have d0 := cR.1
  have d1 := cR.2.1
  have d2 := cR.2.2.1
  have d3 := cR.2.2.2.1
  have d4 := cR.2.2.2.2.1
  have d5 := cR.2.2.2.2.2.1
  have d6 := cR.2.2.2.2.2.2.1
  have d7 := cR.2.2.2.2.2.2.2.1
  have d8 := cR.2.2.2.2.2.2.2.2.1
  have d9 := cR.2.2.2.2.2.2.2.2.2.1
  have d10 := cR.2.2.2.2.2.2.2.2.2.2.1
  have d11 := cR.2.2.2.2.2.2.2.2.2.2.2.1
  have d12 := cR.2.2.2.2.2.2.2.2.2.2.2.2
  have f0 := fR.1
  have f1 := fR.2.1
  have f2 := fR.2.2.1
  have f3 := fR.2.2.2.1
  have f4 := fR.2.2.2.2.1
  have f5 := fR.2.2.2.2.2.1
  have f6 := fR.2.2.2.2.2.2.1
  have f7 := fR.2.2.2.2.2.2.2.1
  have f8 := fR.2.2.2.2.2.2.2.2.1
  have f9 := fR.2.2.2.2.2.2.2.2.2.1
  have f10 := fR.2.2.2.2.2.2.2.2.2.2.1
  have f11 := fR.2.2.2.2.2.2.2.2.2.2.2.1
  have f12 := fR.2.2.2.2.2.2.2.2.2.2.2.2
  clear cR fR
  have HXS : Hid (Txt (set13 uq9 z (sIx tb1 nm1)) bT lN4 ∧ Txt (set13 uq9 z (sIx tb1 nm1)) bS lT3) := hid ⟨(hTq9.keep (by rw [set13_size]; exact Nat.le_refl _) (set13_heap uq9 z (sIx tb1 nm1) (by omega))),(hSq9.keep (by rw [set13_size]; exact Nat.le_refl _) (set13_heap uq9 z (sIx tb1 nm1) (by omega)))⟩
  clear hTq9 hSq9
  have T : Hid (TeSf g r w StOK (.returned (stV (sIx tb1 nm1))) (set13 uq9 z (sIx tb1 nm1))) := hid (TeSf.fin (m := (⟨2,tb1,nm1,[],[],[],[],⟨#[]⟩,[],[],[],false⟩,[])) (hU2.trans hEq9) { IsS.zero _ _ 2 with tb := rfl,nm := rfl } (RowIs.nil _ _ _) (.inr (.inl ⟨tb1,nm1,htb1,hnm1,rfl⟩)) hr9 hpq9 hgl HX.out)
  clear hRf hEq9 hpq9 hU2 hR2 htb1 hnm1 g0
  unfold set13 at T
  unfold stV at T
  dsimp only at T
  unfold set13 at HXS
  dsimp only at HXS
  go_simp
  refine hK.out _ _ (HXS.out) (fun hHeld => ?_)
  clear hK K
  (try simp only [Act.put,s1,s2,s3])
  refine wpAnyH_done (by kernel_rfl) ?_ _
  go_wp2
  refine bodyPost_ret (v := stV (sIx tb1 nm1)) (by simp [results,Tryz.results19,go_sem,stV,d0,d1,d2,d3,d4,d5,d6,d7,d8,d9,d10,d11,d12]) rfl ?_
  exact T.out
 ·go_simp
  go_wp2_with (first | (go_at_call 39; refine Calls.mono (num_any hpD 3 (by decide) (by decide)) ?_; rintro e uq10 ⟨ka,rq10,rfl,hka,hlq10,hpq10,hbq10⟩))
  have hEq10 := hD.trans hbq10
  have hrq10 := hlq10.1
  clear hpD hD hbq10 hlq10 
  have ika : (0 : Int) ≤ (ka : Int) := by omega
  have jka : (ka : Int) < 3 := by omega
  refine hK.out _ _ (trivial) (fun hHeld => ?_)
  clear hK K
  (try simp only [Act.put,s1,s2,s3])
  refine wpAnyH_ready (rs := [0,5,7]) (by kernel_rfl) (by simp) ?_
  refine AllReadyH.cons rfl (fun K hK => ?_) (AllReadyH.cons rfl (fun K hK => ?_) (AllReadyH.cons rfl (fun K hK => ?_) AllReadyH.nil))
  ·go_simp
   have hEq11 : But g w2 (uq10.alloc oT3) := hEq10.alloc _
   have hpq11 : Pk (uq10.alloc oT3) g rq10 := hpq10.alloc _
   have hSq11 : Txt (uq10.alloc oT3) uq10.heap.size lT3 := Txt.new3 uq10 ⟨#[116]⟩ ⟨#[117]⟩ ⟨#[119]⟩
   have hszq11 : w2.heap.size ≤ uq10.heap.size := by have := hEq10.size; (try simp at this); omega
   clear hpq10 hEq10 
   generalize hgb : uq10.heap.size = bS at hSq11 hszq11 ⊢
   have hzhS : z < bS := by omega
   clear hgb
   generalize (uq10.alloc oT3) = uq11 at *
   refine hK.out _ _ (trivial) (fun hHeld => ?_)
   clear hK K
   (try simp only [Act.put,s1,s2,s3])
   have hHeld9 : (fun w' => Txt w' bS lT3) uq11 := hSq11
   clear hHeld
   refine wpAnyH_str (S' := (fun w' => Txt w' bS lT3)) (fun w h => trivial) _ _ _ _ ?_
   have hHeld := hHeld9
   clear hHeld9
   refine tkH 3 ?tv29 rfl (by kernel_rfl) (by kernel_rfl) (by kernel_rfl) (fun _ _ _ h => h) (by rfl) ?hy29 hHeld ?rs29
   case hy29 => (intro w9 _; go_simp; (try with_reducible rfl))
   (try simp only [Act.put,s1,s2,s3])
   refine tkH 4 ?tv30 rfl (by kernel_rfl) (by kernel_rfl) (by kernel_rfl) (fun _ _ _ h => h) (by rfl) ?hy30 hHeld ?rs30
   case hy30 => (intro w9 hSw; (try dsimp only at hSw); have bl9 := (hSw).lt; have c9 := (hSw).cell ka (by show ka < 3; omega); go_simp; (try with_reducible rfl))
   (try simp only [Act.put,s1,s2,s3])
   refine wpAnyH_ready (rs := [5,7]) (by kernel_rfl) (by simp) ?_
   refine AllReadyH.cons rfl (fun K hK => ?_) (AllReadyH.cons rfl (fun K hK => ?_) AllReadyH.nil)
   ·go_simp
    have hEq12 : But g w2 (uq11.alloc oN4) := hEq11.alloc _
    have hpq12 : Pk (uq11.alloc oN4) g rq10 := hpq11.alloc _
    have hTq12 : Txt (uq11.alloc oN4) uq11.heap.size lN4 := Txt.new4 uq11 ⟨#[110]⟩ ⟨#[118]⟩ ⟨#[107]⟩ ⟨#[113]⟩
    have hSq12 := hSq11.later (bal (Below.refl _ uq11) oN4)
    have lthSq12 : bS < uq11.heap.size := hSq11.lt
    have hszq12 : w2.heap.size ≤ uq11.heap.size := by have := hEq11.size; (try simp at this); omega
    have hSt12 : Txt (uq11.alloc oN4) bS lT3 := hSq12
    clear hpq11 hEq11 hSq11 hSq12
    generalize hgb : uq11.heap.size = bT at hTq12 hszq12 ⊢
    have hzhT : z < bT := by omega
    have nehSq12 : bS ≠ bT := by omega
    clear hgb
    generalize (uq11.alloc oN4) = uq12 at *
    refine hK.out _ _ (hSt12) (fun hHeld => ?_)
    clear hK K
    (try simp only [Act.put,s1,s2,s3])
    have hHeld9 : (fun w' => Txt w' bT lN4 ∧ Txt w' bS lT3) uq12 := ⟨hTq12,hSt12⟩
    clear hHeld
    refine wpAnyH_str (S' := (fun w' => Txt w' bT lN4 ∧ Txt w' bS lT3)) (fun w h => h.2) _ _ _ _ ?_
    have hHeld := hHeld9
    clear hHeld9
    refine wpAnyH_ready (rs := [7]) (by kernel_rfl) (by simp) ?_
    refine AllReadyH.cons rfl (fun K hK => ?_) AllReadyH.nil
    go_simp
    go_wp2_with (first | (go_at_call 39; refine Calls.mono (num_any hpq12 4 (by decide) (by decide)) ?_; rintro e uq13 ⟨kb,rq13,rfl,hkb,hlq13,hpq13,hbq13⟩))
    have hEq13 := hEq12.trans hbq13
    have hrq13 := hlq13.1
    have hTq13 := hTq12.but hbq13 (by omega)
    have hSq13 := hSt12.but hbq13 (by omega)
    clear hpq12 hEq12 hbq13 hlq13 hTq12 hSt12
    have ikb : (0 : Int) ≤ (kb : Int) := by omega
    have jkb : (kb : Int) < 4 := by omega
    refine hK.out _ _ (⟨hTq13,hSq13⟩) (fun hHeld => ?_)
    clear hK K
    (try simp only [Act.put,s1,s2,s3])
    refine tkH 8 ?tv31 rfl (by kernel_rfl) (by kernel_rfl) (by kernel_rfl) (fun _ _ _ h => h) (by rfl) ?hy31 hHeld ?rs31
    case hy31 => (intro w9 _; go_simp; (try with_reducible rfl))
    (try simp only [Act.put,s1,s2,s3])
    refine tkH 9 ?tv32 rfl (by kernel_rfl) (by kernel_rfl) (by kernel_rfl) (fun _ _ _ h => h) (by rfl) ?hy32 hHeld ?rs32
    case hy32 => (intro w9 hSw; (try dsimp only at hSw); have bl9 := (hSw.1).lt; have c9 := (hSw.1).cell kb (by show kb < 4; omega); go_simp; (try with_reducible rfl))
    (try simp only [Act.put,s1,s2,s3])
    refine tkH 10 ?tv33 rfl (by kernel_rfl) (by kernel_rfl) (by kernel_rfl) (fun _ _ _ h => h) (by rfl) ?hy33 hHeld ?rs33
    case hy33 => (intro w9 _; go_simp; (try with_reducible rfl))
    (try simp only [Act.put,s1,s2,s3])
    refine wpAnyH_ready (rs := [11]) (by kernel_rfl) (by simp) ?_
    refine AllReadyH.cons rfl (fun K hK => ?_) AllReadyH.nil
    have hr9 : rq13 ≤ r := by omega
    have htb1 : (txN lT3 ka) ∈ lT3 := txN_mem (by show ka < 3; omega)
    have hnm1 : (txN lN4 kb) ∈ lN4 := txN_mem (by show kb < 4; omega)
    generalize txN lT3 ka = tb1 at *
    generalize txN lN4 kb = nm1 at *
    have hRf : Bs uq13 z (zS 0) := hR2.but hEq13 (by omega)
    have cR := hRf.cells
    have fR := hRf.free
    have hzlf := hRf.lt
    have d0 := cR.1
    have d1 := cR.2.1
    have d2 := cR.2.2.1
    have d3 := cR.2.2.2.1
    have d4 := cR.2.2.2.2.1
    have d5 := cR.2.2.2.2.2.1
    have d6 := cR.2.2.2.2.2.2.1
    have d7 := cR.2.2.2.2.2.2.2.1
    have d8 := cR.2.2.2.2.2.2.2.2.1
    have d9 := cR.2.2.2.2.2.2.2.2.2.1
    have d10 := cR.2.2.2.2.2.2.2.2.2.2.1
    have d11 := cR.2.2.2.2.2.2.2.2.2.2.2.1
    have d12 := cR.2.2.2.2.2.2.2.2.2.2.2.2
    have f0 := fR.1
    have f1 := fR.2.1
    have f2 := fR.2.2.1
    have f3 := fR.2.2.2.1
    have f4 := fR.2.2.2.2.1
    have f5 := fR.2.2.2.2.2.1
    have f6 := fR.2.2.2.2.2.2.1
    have f7 := fR.2.2.2.2.2.2.2.1
    have f8 := fR.2.2.2.2.2.2.2.2.1
    have f9 := fR.2.2.2.2.2.2.2.2.2.1
    have f10 := fR.2.2.2.2.2.2.2.2.2.2.1
    have f11 := fR.2.2.2.2.2.2.2.2.2.2.2.1
    have f12 := fR.2.2.2.2.2.2.2.2.2.2.2.2
    clear cR fR
    have HXS : Hid (Txt (set13 uq13 z (sIx tb1 nm1)) bT lN4 ∧ Txt (set13 uq13 z (sIx tb1 nm1)) bS lT3) := hid ⟨(hTq13.keep (by rw [set13_size]; exact Nat.le_refl _) (set13_heap uq13 z (sIx tb1 nm1) (by omega))),(hSq13.keep (by rw [set13_size]; exact Nat.le_refl _) (set13_heap uq13 z (sIx tb1 nm1) (by omega)))⟩
    clear hTq13 hSq13
    have T : Hid (TeSf g r w StOK (.returned (stV (sIx tb1 nm1))) (set13 uq13 z (sIx tb1 nm1))) := hid (TeSf.fin (m := (⟨2,tb1,nm1,[],[],[],[],⟨#[]⟩,[],[],[],false⟩,[])) (hU2.trans hEq13) { IsS.zero _ _ 2 with tb := rfl,nm := rfl } (RowIs.nil _ _ _) (.inr (.inl ⟨tb1,nm1,htb1,hnm1,rfl⟩)) hr9 hpq13 hgl HX.out)
    clear hRf hEq13 hpq13 hU2 hR2 htb1 hnm1 g0
    unfold set13 at T
    unfold stV at T
    dsimp only at T
    unfold set13 at HXS
    dsimp only at HXS
    go_simp
    refine hK.out _ _ (HXS.out) (fun hHeld => ?_)
    clear hK K
    (try simp only [Act.put,s1,s2,s3])
    refine wpAnyH_done (by kernel_rfl) ?_ _
    go_wp2
    refine bodyPost_ret (v := stV (sIx tb1 nm1)) (by simp [results,Tryz.results19,go_sem,stV,d0,d1,d2,d3,d4,d5,d6,d7,d8,d9,d10,d11,d12]) rfl ?_
    exact T.out
   go_simp
   go_wp2_with (first | (go_at_call 39; refine Calls.mono (num_any hpq11 4 (by decide) (by decide)) ?_; rintro e uq14 ⟨kb,rq14,rfl,hkb,hlq14,hpq14,hbq14⟩))
   have hEq14 := hEq11.trans hbq14
   have hrq14 := hlq14.1
   have hSq14 := hSq11.but hbq14 (by omega)
   clear hpq11 hEq11 hbq14 hlq14 hSq11
   have ikb : (0 : Int) ≤ (kb : Int) := by omega
   have jkb : (kb : Int) < 4 := by omega
   refine hK.out _ _ (hSq14) (fun hHeld => ?_)
   clear hK K
   (try simp only [Act.put,s1,s2,s3])
   refine wpAnyH_ready (rs := [5]) (by kernel_rfl) (by simp) ?_
   refine AllReadyH.cons rfl (fun K hK => ?_) AllReadyH.nil
   go_simp
   have hEq15 : But g w2 (uq14.alloc oN4) := hEq14.alloc _
   have hpq15 : Pk (uq14.alloc oN4) g rq14 := hpq14.alloc _
   have hTq15 : Txt (uq14.alloc oN4) uq14.heap.size lN4 := Txt.new4 uq14 ⟨#[110]⟩ ⟨#[118]⟩ ⟨#[107]⟩ ⟨#[113]⟩
   have hSq15 := hSq14.later (bal (Below.refl _ uq14) oN4)
   have lthSq15 : bS < uq14.heap.size := hSq14.lt
   have hszq15 : w2.heap.size ≤ uq14.heap.size := by have := hEq14.size; (try simp at this); omega
   have hSt15 : Txt (uq14.alloc oN4) bS lT3 := hSq15
   clear hpq14 hEq14 hSq14 hSq15
   generalize hgb : uq14.heap.size = bT at hTq15 hszq15 ⊢
   have hzhT : z < bT := by omega
   have nehSq15 : bS ≠ bT := by omega
   clear hgb
   generalize (uq14.alloc oN4) = uq15 at *
   refine hK.out _ _ (hSt15) (fun hHeld => ?_)
   clear hK K
   (try simp only [Act.put,s1,s2,s3])
   have hHeld9 : (fun w' => Txt w' bT lN4 ∧ Txt w' bS lT3) uq15 := ⟨hTq15,hSt15⟩
   clear hHeld
   refine wpAnyH_str (S' := (fun w' => Txt w' bT lN4 ∧ Txt w' bS lT3)) (fun w h => h.2) _ _ _ _ ?_
   have hHeld := hHeld9
   clear hHeld9
   refine tkH 8 ?tv34 rfl (by kernel_rfl) (by kernel_rfl) (by kernel_rfl) (fun _ _ _ h => h) (by rfl) ?hy34 hHeld ?rs34
   case hy34 => (intro w9 _; go_simp; (try with_reducible rfl))
   (try simp only [Act.put,s1,s2,s3])
   refine tkH 9 ?tv35 rfl (by kernel_rfl) (by kernel_rfl) (by kernel_rfl) (fun _ _ _ h => h) (by rfl) ?hy35 hHeld ?rs35
   case hy35 => (intro w9 hSw; (try dsimp only at hSw); have bl9 := (hSw.1).lt; have c9 := (hSw.1).cell kb (by show kb < 4; omega); go_simp; (try with_reducible rfl))
   (try simp only [Act.put,s1,s2,s3])
   refine tkH 10 ?tv36 rfl (by kernel_rfl) (by kernel_rfl) (by kernel_rfl) (fun _ _ _ h => h) (by rfl) ?hy36 hHeld ?rs36
   case hy36 => (intro w9 _; go_simp; (try with_reducible rfl))
   (try simp only [Act.put,s1,s2,s3])
   refine wpAnyH_ready (rs := [11]) (by kernel_rfl) (by simp) ?_
   refine AllReadyH.cons rfl (fun K hK => ?_) AllReadyH.nil
   have hr9 : rq14 ≤ r := by omega
   have htb1 : (txN lT3 ka) ∈ lT3 := txN_mem (by show ka < 3; omega)
   have hnm1 : (txN lN4 kb) ∈ lN4 := txN_mem (by show kb < 4; omega)
   generalize txN lT3 ka = tb1 at *
   generalize txN lN4 kb = nm1 at *
   have hRf : Bs uq15 z (zS 0) := hR2.but hEq15 (by omega)
   have cR := hRf.cells
   have fR := hRf.free
   have hzlf := hRf.lt
   have d0 := cR.1
   have d1 := cR.2.1
   have d2 := cR.2.2.1
   have d3 := cR.2.2.2.1
   have d4 := cR.2.2.2.2.1
   have d5 := cR.2.2.2.2.2.1
   have d6 := cR.2.2.2.2.2.2.1
   have d7 := cR.2.2.2.2.2.2.2.1
   have d8 := cR.2.2.2.2.2.2.2.2.1
   have d9 := cR.2.2.2.2.2.2.2.2.2.1
   have d10 := cR.2.2.2.2.2.2.2.2.2.2.1
   have d11 := cR.2.2.2.2.2.2.2.2.2.2.2.1
   have d12 := cR.2.2.2.2.2.2.2.2.2.2.2.2
   have f0 := fR.1
   have f1 := fR.2.1
   have f2 := fR.2.2.1
   have f3 := fR.2.2.2.1
   have f4 := fR.2.2.2.2.1
   have f5 := fR.2.2.2.2.2.1
   have f6 := fR.2.2.2.2.2.2.1
   have f7 := fR.2.2.2.2.2.2.2.1
   have f8 := fR.2.2.2.2.2.2.2.2.1
   have f9 := fR.2.2.2.2.2.2.2.2.2.1
   have f10 := fR.2.2.2.2.2.2.2.2.2.2.1
   have f11 := fR.2.2.2.2.2.2.2.2.2.2.2.1
   have f12 := fR.2.2.2.2.2.2.2.2.2.2.2.2
   clear cR fR
   have HXS : Hid (Txt (set13 uq15 z (sIx tb1 nm1)) bT lN4 ∧ Txt (set13 uq15 z (sIx tb1 nm1)) bS lT3) := hid ⟨(hTq15.keep (by rw [set13_size]; exact Nat.le_refl _) (set13_heap uq15 z (sIx tb1 nm1) (by omega))),(hSt15.keep (by rw [set13_size]; exact Nat.le_refl _) (set13_heap uq15 z (sIx tb1 nm1) (by omega)))⟩
   clear hTq15 hSt15
   have T : Hid (TeSf g r w StOK (.returned (stV (sIx tb1 nm1))) (set13 uq15 z (sIx tb1 nm1))) := hid (TeSf.fin (m := (⟨2,tb1,nm1,[],[],[],[],⟨#[]⟩,[],[],[],false⟩,[])) (hU2.trans hEq15) { IsS.zero _ _ 2 with tb := rfl,nm := rfl } (RowIs.nil _ _ _) (.inr (.inl ⟨tb1,nm1,htb1,hnm1,rfl⟩)) hr9 hpq15 hgl HX.out)
   clear hRf hEq15 hpq15 hU2 hR2 htb1 hnm1 g0
   unfold set13 at T
   unfold stV at T
   dsimp only at T
   unfold set13 at HXS
   dsimp only at HXS
   go_simp
   refine hK.out _ _ (HXS.out) (fun hHeld => ?_)
   clear hK K
   (try simp only [Act.put,s1,s2,s3])
   refine wpAnyH_done (by kernel_rfl) ?_ _
   go_wp2
   refine bodyPost_ret (v := stV (sIx tb1 nm1)) (by simp [results,Tryz.results19,go_sem,stV,d0,d1,d2,d3,d4,d5,d6,d7,d8,d9,d10,d11,d12]) rfl ?_
   exact T.out
  ·go_simp
   have hEq16 : But g w2 (uq10.alloc oN4) := hEq10.alloc _
   have hpq16 : Pk (uq10.alloc oN4) g rq10 := hpq10.alloc _
   have hTq16 : Txt (uq10.alloc oN4) uq10.heap.size lN4 := Txt.new4 uq10 ⟨#[110]⟩ ⟨#[118]⟩ ⟨#[107]⟩ ⟨#[113]⟩
   have hszq16 : w2.heap.size ≤ uq10.heap.size := by have := hEq10.size; (try simp at this); omega
   clear hpq10 hEq10 
   generalize hgb : uq10.heap.size = bT at hTq16 hszq16 ⊢
   have hzhT : z < bT := by omega
   clear hgb
   generalize (uq10.alloc oN4) = uq16 at *
   refine hK.out _ _ (trivial) (fun hHeld => ?_)
   clear hK K
   (try simp only [Act.put,s1,s2,s3])
   have hHeld9 : (fun w' => Txt w' bT lN4) uq16 := hTq16
   clear hHeld
   refine wpAnyH_str (S' := (fun w' => Txt w' bT lN4)) (fun w h => trivial) _ _ _ _ ?_
   have hHeld := hHeld9
   clear hHeld9
   refine wpAnyH_ready (rs := [0,7]) (by kernel_rfl) (by simp) ?_
   refine AllReadyH.cons rfl (fun K hK => ?_) (AllReadyH.cons rfl (fun K hK => ?_) AllReadyH.nil)
   ·go_simp
    have hEq17 : But g w2 (uq16.alloc oT3) := hEq16.alloc _
    have hpq17 : Pk (uq16.alloc oT3) g rq10 := hpq16.alloc _
    have hSq17 : Txt (uq16.alloc oT3) uq16.heap.size lT3 := Txt.new3 uq16 ⟨#[116]⟩ ⟨#[117]⟩ ⟨#[119]⟩
    have hTq17 := hTq16.later (bal (Below.refl _ uq16) oT3)
    have lthTq17 : bT < uq16.heap.size := hTq16.lt
    have hszq17 : w2.heap.size ≤ uq16.heap.size := by have := hEq16.size; (try simp at this); omega
    have hTt17 : Txt (uq16.alloc oT3) bT lN4 := hTq17
    clear hpq16 hEq16 hTq16 hTq17
    generalize hgb : uq16.heap.size = bS at hSq17 hszq17 ⊢
    have hzhS : z < bS := by omega
    have nehTq17 : bT ≠ bS := by omega
    clear hgb
    generalize (uq16.alloc oT3) = uq17 at *
    refine hK.out _ _ (hTt17) (fun hHeld => ?_)
    clear hK K
    (try simp only [Act.put,s1,s2,s3])
    have hHeld9 : (fun w' => Txt w' bS lT3 ∧ Txt w' bT lN4) uq17 := ⟨hSq17,hTt17⟩
    clear hHeld
    refine wpAnyH_str (S' := (fun w' => Txt w' bS lT3 ∧ Txt w' bT lN4)) (fun w h => h.2) _ _ _ _ ?_
    have hHeld := hHeld9
    clear hHeld9
    refine tkH 3 ?tv37 rfl (by kernel_rfl) (by kernel_rfl) (by kernel_rfl) (fun _ _ _ h => h) (by rfl) ?hy37 hHeld ?rs37
    case hy37 => (intro w9 _; go_simp; (try with_reducible rfl))
    (try simp only [Act.put,s1,s2,s3])
    refine tkH 4 ?tv38 rfl (by kernel_rfl) (by kernel_rfl) (by kernel_rfl) (fun _ _ _ h => h) (by rfl) ?hy38 hHeld ?rs38
    case hy38 => (intro w9 hSw; (try dsimp only at hSw); have bl9 := (hSw.1).lt; have c9 := (hSw.1).cell ka (by show ka < 3; omega); go_simp; (try with_reducible rfl))
    (try simp only [Act.put,s1,s2,s3])
    refine wpAnyH_ready (rs := [7]) (by kernel_rfl) (by simp) ?_
    refine AllReadyH.cons rfl (fun K hK => ?_) AllReadyH.nil
    go_simp
    go_wp2_with (first | (go_at_call 39; refine Calls.mono (num_any hpq17 4 (by decide) (by decide)) ?_; rintro e uq18 ⟨kb,rq18,rfl,hkb,hlq18,hpq18,hbq18⟩))
    have hEq18 := hEq17.trans hbq18
    have hrq18 := hlq18.1
    have hSq18 := hSq17.but hbq18 (by omega)
    have hTq18 := hTt17.but hbq18 (by omega)
    clear hpq17 hEq17 hbq18 hlq18 hSq17 hTt17
    have ikb : (0 : Int) ≤ (kb : Int) := by omega
    have jkb : (kb : Int) < 4 := by omega
    refine hK.out _ _ (⟨hSq18,hTq18⟩) (fun hHeld => ?_)
    clear hK K
    (try simp only [Act.put,s1,s2,s3])
    refine tkH 8 ?tv39 rfl (by kernel_rfl) (by kernel_rfl) (by kernel_rfl) (fun _ _ _ h => h) (by rfl) ?hy39 hHeld ?rs39
    case hy39 => (intro w9 _; go_simp; (try with_reducible rfl))
    (try simp only [Act.put,s1,s2,s3])
    refine tkH 9 ?tv40 rfl (by kernel_rfl) (by kernel_rfl) (by kernel_rfl) (fun _ _ _ h => h) (by rfl) ?hy40 hHeld ?rs40
    case hy40 => (intro w9 hSw; (try dsimp only at hSw); have bl9 := (hSw.2).lt; have c9 := (hSw.2).cell kb (by show kb < 4; omega); go_simp; (try with_reducible rfl))
    (try simp only [Act.put,s1,s2,s3])
    refine tkH 10 ?tv41 rfl (by kernel_rfl) (by kernel_rfl) (by kernel_rfl) (fun _ _ _ h => h) (by rfl) ?hy41 hHeld ?rs41
    case hy41 => (intro w9 _; go_simp; (try with_reducible rfl))
    (try simp only [Act.put,s1,s2,s3])
    refine wpAnyH_ready (rs := [11]) (by kernel_rfl) (by simp) ?_
    refine AllReadyH.cons rfl (fun K hK => ?_) AllReadyH.nil
    have hr9 : rq18 ≤ r := by omega
    have htb1 : (txN lT3 ka) ∈ lT3 := txN_mem (by show ka < 3; omega)
    have hnm1 : (txN lN4 kb) ∈ lN4 := txN_mem (by show kb < 4; omega)
    generalize txN lT3 ka = tb1 at *
    generalize txN lN4 kb = nm1 at *
    have hRf : Bs uq18 z (zS 0) := hR2.but hEq18 (by omega)
    have cR := hRf.cells
    have fR := hRf.free
    have hzlf := hRf.lt
    have d0 := cR.1
    have d1 := cR.2.1
    have d2 := cR.2.2.1
    have d3 := cR.2.2.2.1
    have d4 := cR.2.2.2.2.1
    have d5 := cR.2.2.2.2.2.1
    have d6 := cR.2.2.2.2.2.2.1
    have d7 := cR.2.2.2.2.2.2.2.1
    have d8 := cR.2.2.2.2.2.2.2.2.1
    have d9 := cR.2.2.2.2.2.2.2.2.2.1
    have d10 := cR.2.2.2.2.2.2.2.2.2.2.1
    have d11 := cR.2.2.2.2.2.2.2.2.2.2.2.1
    have d12 := cR.2.2.2.2.2.2.2.2.2.2.2.2
    have f0 := fR.1
    have f1 := fR.2.1
    have f2 := fR.2.2.1
    have f3 := fR.2.2.2.1
    have f4 := fR.2.2.2.2.1
    have f5 := fR.2.2.2.2.2.1
    have f6 := fR.2.2.2.2.2.2.1
    have f7 := fR.2.2.2.2.2.2.2.1
    have f8 := fR.2.2.2.2.2.2.2.2.1
    have f9 := fR.2.2.2.2.2.2.2.2.2.1
    have f10 := fR.2.2.2.2.2.2.2.2.2.2.1
    have f11 := fR.2.2.2.2.2.2.2.2.2.2.2.1
    have f12 := fR.2.2.2.2.2.2.2.2.2.2.2.2
    clear cR fR
    have HXS : Hid (Txt (set13 uq18 z (sIx tb1 nm1)) bS lT3 ∧ Txt (set13 uq18 z (sIx tb1 nm1)) bT lN4) := hid ⟨(hSq18.keep (by rw [set13_size]; exact Nat.le_refl _) (set13_heap uq18 z (sIx tb1 nm1) (by omega))),(hTq18.keep (by rw [set13_size]; exact Nat.le_refl _) (set13_heap uq18 z (sIx tb1 nm1) (by omega)))⟩
    clear hSq18 hTq18
    have T : Hid (TeSf g r w StOK (.returned (stV (sIx tb1 nm1))) (set13 uq18 z (sIx tb1 nm1))) := hid (TeSf.fin (m := (⟨2,tb1,nm1,[],[],[],[],⟨#[]⟩,[],[],[],false⟩,[])) (hU2.trans hEq18) { IsS.zero _ _ 2 with tb := rfl,nm := rfl } (RowIs.nil _ _ _) (.inr (.inl ⟨tb1,nm1,htb1,hnm1,rfl⟩)) hr9 hpq18 hgl HX.out)
    clear hRf hEq18 hpq18 hU2 hR2 htb1 hnm1 g0
    unfold set13 at T
    unfold stV at T
    dsimp only at T
    unfold set13 at HXS
    dsimp only at HXS
    go_simp
    refine hK.out _ _ (HXS.out) (fun hHeld => ?_)
    clear hK K
    (try simp only [Act.put,s1,s2,s3])
    refine wpAnyH_done (by kernel_rfl) ?_ _
    go_wp2
    refine bodyPost_ret (v := stV (sIx tb1 nm1)) (by simp [results,Tryz.results19,go_sem,stV,d0,d1,d2,d3,d4,d5,d6,d7,d8,d9,d10,d11,d12]) rfl ?_
    exact T.out
   go_simp
   go_wp2_with (first | (go_at_call 39; refine Calls.mono (num_any hpq16 4 (by decide) (by decide)) ?_; rintro e uq19 ⟨kb,rq19,rfl,hkb,hlq19,hpq19,hbq19⟩))
   have hEq19 := hEq16.trans hbq19
   have hrq19 := hlq19.1
   have hTq19 := hTq16.but hbq19 (by omega)
   clear hpq16 hEq16 hbq19 hlq19 hTq16
   have ikb : (0 : Int) ≤ (kb : Int) := by omega
   have jkb : (kb : Int) < 4 := by omega
   refine hK.out _ _ (hTq19) (fun hHeld => ?_)
   clear hK K
   (try simp only [Act.put,s1,s2,s3])
   refine tkH 8 ?tv42 rfl (by kernel_rfl) (by kernel_rfl) (by kernel_rfl) (fun _ _ _ h => h) (by rfl) ?hy42 hHeld ?rs42
   case hy42 => (intro w9 _; go_simp; (try with_reducible rfl))
   (try simp only [Act.put,s1,s2,s3])
   refine tkH 9 ?tv43 rfl (by kernel_rfl) (by kernel_rfl) (by kernel_rfl) (fun _ _ _ h => h) (by rfl) ?hy43 hHeld ?rs43
   case hy43 => (intro w9 hSw; (try dsimp only at hSw); have bl9 := (hSw).lt; have c9 := (hSw).cell kb (by show kb < 4; omega); go_simp; (try with_reducible rfl))
   (try simp only [Act.put,s1,s2,s3])
   refine wpAnyH_ready (rs := [0]) (by kernel_rfl) (by simp) ?_
   refine AllReadyH.cons rfl (fun K hK => ?_) AllReadyH.nil
   go_simp
   have hEq20 : But g w2 (uq19.alloc oT3) := hEq19.alloc _
   have hpq20 : Pk (uq19.alloc oT3) g rq19 := hpq19.alloc _
   have hSq20 : Txt (uq19.alloc oT3) uq19.heap.size lT3 := Txt.new3 uq19 ⟨#[116]⟩ ⟨#[117]⟩ ⟨#[119]⟩
   have hTq20 := hTq19.later (bal (Below.refl _ uq19) oT3)
   have lthTq20 : bT < uq19.heap.size := hTq19.lt
   have hszq20 : w2.heap.size ≤ uq19.heap.size := by have := hEq19.size; (try simp at this); omega
   have hTt20 : Txt (uq19.alloc oT3) bT lN4 := hTq20
   clear hpq19 hEq19 hTq19 hTq20
   generalize hgb : uq19.heap.size = bS at hSq20 hszq20 ⊢
   have hzhS : z < bS := by omega
   have nehTq20 : bT ≠ bS := by omega
   clear hgb
   generalize (uq19.alloc oT3) = uq20 at *
   refine hK.out _ _ (hTt20) (fun hHeld => ?_)
   clear hK K
   (try simp only [Act.put,s1,s2,s3])
   have hHeld9 : (fun w' => Txt w' bS lT3 ∧ Txt w' bT lN4) uq20 := ⟨hSq20,hTt20⟩
   clear hHeld
   refine wpAnyH_str (S' := (fun w' => Txt w' bS lT3 ∧ Txt w' bT lN4)) (fun w h => h.2) _ _ _ _ ?_
   have hHeld := hHeld9
   clear hHeld9
   refine tkH 3 ?tv44 rfl (by kernel_rfl) (by kernel_rfl) (by kernel_rfl) (fun _ _ _ h => h) (by rfl) ?hy44 hHeld ?rs44
   case hy44 => (intro w9 _; go_simp; (try with_reducible rfl))
   (try simp only [Act.put,s1,s2,s3])
   refine tkH 4 ?tv45 rfl (by kernel_rfl) (by kernel_rfl) (by kernel_rfl) (fun _ _ _ h => h) (by rfl) ?hy45 hHeld ?rs45
   case hy45 => (intro w9 hSw; (try dsimp only at hSw); have bl9 := (hSw.1).lt; have c9 := (hSw.1).cell ka (by show ka < 3; omega); go_simp; (try with_reducible rfl))
   (try simp only [Act.put,s1,s2,s3])
   refine tkH 10 ?tv46 rfl (by kernel_rfl) (by kernel_rfl) (by kernel_rfl) (fun _ _ _ h => h) (by rfl) ?hy46 hHeld ?rs46
   case hy46 => (intro w9 _; go_simp; (try with_reducible rfl))
   (try simp only [Act.put,s1,s2,s3])
   refine wpAnyH_ready (rs := [11]) (by kernel_rfl) (by simp) ?_
   refine AllReadyH.cons rfl (fun K hK => ?_) AllReadyH.nil
   have hr9 : rq19 ≤ r := by omega
   have htb1 : (txN lT3 ka) ∈ lT3 := txN_mem (by show ka < 3; omega)
   have hnm1 : (txN lN4 kb) ∈ lN4 := txN_mem (by show kb < 4; omega)
   generalize txN lT3 ka = tb1 at *
   generalize txN lN4 kb = nm1 at *
   have hRf : Bs uq20 z (zS 0) := hR2.but hEq20 (by omega)
   have cR := hRf.cells
   have fR := hRf.free
   have hzlf := hRf.lt
   have d0 := cR.1
   have d1 := cR.2.1
   have d2 := cR.2.2.1
   have d3 := cR.2.2.2.1
   have d4 := cR.2.2.2.2.1
   have d5 := cR.2.2.2.2.2.1
   have d6 := cR.2.2.2.2.2.2.1
   have d7 := cR.2.2.2.2.2.2.2.1
   have d8 := cR.2.2.2.2.2.2.2.2.1
   have d9 := cR.2.2.2.2.2.2.2.2.2.1
   have d10 := cR.2.2.2.2.2.2.2.2.2.2.1
   have d11 := cR.2.2.2.2.2.2.2.2.2.2.2.1
   have d12 := cR.2.2.2.2.2.2.2.2.2.2.2.2
   have f0 := fR.1
   have f1 := fR.2.1
   have f2 := fR.2.2.1
   have f3 := fR.2.2.2.1
   have f4 := fR.2.2.2.2.1
   have f5 := fR.2.2.2.2.2.1
   have f6 := fR.2.2.2.2.2.2.1
   have f7 := fR.2.2.2.2.2.2.2.1
   have f8 := fR.2.2.2.2.2.2.2.2.1
   have f9 := fR.2.2.2.2.2.2.2.2.2.1
   have f10 := fR.2.2.2.2.2.2.2.2.2.2.1
   have f11 := fR.2.2.2.2.2.2.2.2.2.2.2.1
   have f12 := fR.2.2.2.2.2.2.2.2.2.2.2.2
   clear cR fR
   have HXS : Hid (Txt (set13 uq20 z (sIx tb1 nm1)) bS lT3 ∧ Txt (set13 uq20 z (sIx tb1 nm1)) bT lN4) := hid ⟨(hSq20.keep (by rw [set13_size]; exact Nat.le_refl _) (set13_heap uq20 z (sIx tb1 nm1) (by omega))),(hTt20.keep (by rw [set13_size]; exact Nat.le_refl _) (set13_heap uq20 z (sIx tb1 nm1) (by omega)))⟩
   clear hSq20 hTt20
   have T : Hid (TeSf g r w StOK (.returned (stV (sIx tb1 nm1))) (set13 uq20 z (sIx tb1 nm1))) := hid (TeSf.fin (m := (⟨2,tb1,nm1,[],[],[],[],⟨#[]⟩,[],[],[],false⟩,[])) (hU2.trans hEq20) { IsS.zero _ _ 2 with tb := rfl,nm := rfl } (RowIs.nil _ _ _) (.inr (.inl ⟨tb1,nm1,htb1,hnm1,rfl⟩)) hr9 hpq20 hgl HX.out)
   clear hRf hEq20 hpq20 hU2 hR2 htb1 hnm1 g0
   unfold set13 at T
   unfold stV at T
   dsimp only at T
   unfold set13 at HXS
   dsimp only at HXS
   go_simp
   refine hK.out _ _ (HXS.out) (fun hHeld => ?_)
   clear hK K
   (try simp only [Act.put,s1,s2,s3])
   refine wpAnyH_done (by kernel_rfl) ?_ _
   go_wp2
   refine bodyPost_ret (v := stV (sIx tb1 nm1)) (by simp [results,Tryz.results19,go_sem,stV,d0,d1,d2,d3,d4,d5,d6,d7,d8,d9,d10,d11,d12]) rfl ?_
   exact T.out
  go_simp
  go_wp2_with (first | (go_at_call 39; refine Calls.mono (num_any hpq10 4 (by decide) (by decide)) ?_; rintro e uq21 ⟨kb,rq21,rfl,hkb,hlq21,hpq21,hbq21⟩))
  have hEq21 := hEq10.trans hbq21
  have hrq21 := hlq21.1
  clear hpq10 hEq10 hbq21 hlq21 
  have ikb : (0 : Int) ≤ (kb : Int) := by omega
  have jkb : (kb : Int) < 4 := by omega
  refine hK.out _ _ (trivial) (fun hHeld => ?_)
  clear hK K
  (try simp only [Act.put,s1,s2,s3])
  refine wpAnyH_ready (rs := [0,5]) (by kernel_rfl) (by simp) ?_
  refine AllReadyH.cons rfl (fun K hK => ?_) (AllReadyH.cons rfl (fun K hK => ?_) AllReadyH.nil)
  ·go_simp
   have hEq22 : But g w2 (uq21.alloc oT3) := hEq21.alloc _
   have hpq22 : Pk (uq21.alloc oT3) g rq21 := hpq21.alloc _
   have hSq22 : Txt (uq21.alloc oT3) uq21.heap.size lT3 := Txt.new3 uq21 ⟨#[116]⟩ ⟨#[117]⟩ ⟨#[119]⟩
   have hszq22 : w2.heap.size ≤ uq21.heap.size := by have := hEq21.size; (try simp at this); omega
   clear hpq21 hEq21 
   generalize hgb : uq21.heap.size = bS at hSq22 hszq22 ⊢
   have hzhS : z < bS := by omega
   clear hgb
   generalize (uq21.alloc oT3) = uq22 at *
   refine hK.out _ _ (trivial) (fun hHeld => ?_)
   clear hK K
   (try simp only [Act.put,s1,s2,s3])
   have hHeld9 : (fun w' => Txt w' bS lT3) uq22 := hSq22
   clear hHeld
   refine wpAnyH_str (S' := (fun w' => Txt w' bS lT3)) (fun w h => trivial) _ _ _ _ ?_
   have hHeld := hHeld9
   clear hHeld9
   refine tkH 3 ?tv47 rfl (by kernel_rfl) (by kernel_rfl) (by kernel_rfl) (fun _ _ _ h => h) (by rfl) ?hy47 hHeld ?rs47
   case hy47 => (intro w9 _; go_simp; (try with_reducible rfl))
   (try simp only [Act.put,s1,s2,s3])
   refine tkH 4 ?tv48 rfl (by kernel_rfl) (by kernel_rfl) (by kernel_rfl) (fun _ _ _ h => h) (by rfl) ?hy48 hHeld ?rs48
   case hy48 => (intro w9 hSw; (try dsimp only at hSw); have bl9 := (hSw).lt; have c9 := (hSw).cell ka (by show ka < 3; omega); go_simp; (try with_reducible rfl))
   (try simp only [Act.put,s1,s2,s3])
   refine wpAnyH_ready (rs := [5]) (by kernel_rfl) (by simp) ?_
   refine AllReadyH.cons rfl (fun K hK => ?_) AllReadyH.nil
   go_simp
   have hEq23 : But g w2 (uq22.alloc oN4) := hEq22.alloc _
   have hpq23 : Pk (uq22.alloc oN4) g rq21 := hpq22.alloc _
   have hTq23 : Txt (uq22.alloc oN4) uq22.heap.size lN4 := Txt.new4 uq22 ⟨#[110]⟩ ⟨#[118]⟩ ⟨#[107]⟩ ⟨#[113]⟩
   have hSq23 := hSq22.later (bal (Below.refl _ uq22) oN4)
   have lthSq23 : bS < uq22.heap.size := hSq22.lt
   have hszq23 : w2.heap.size ≤ uq22.heap.size := by have := hEq22.size; (try simp at this); omega
   have hSt23 : Txt (uq22.alloc oN4) bS lT3 := hSq23
   clear hpq22 hEq22 hSq22 hSq23
   generalize hgb : uq22.heap.size = bT at hTq23 hszq23 ⊢
   have hzhT : z < bT := by omega
   have nehSq23 : bS ≠ bT := by omega
   clear hgb
   generalize (uq22.alloc oN4) = uq23 at *
   refine hK.out _ _ (hSt23) (fun hHeld => ?_)
   clear hK K
   (try simp only [Act.put,s1,s2,s3])
   have hHeld9 : (fun w' => Txt w' bT lN4 ∧ Txt w' bS lT3) uq23 := ⟨hTq23,hSt23⟩
   clear hHeld
   refine wpAnyH_str (S' := (fun w' => Txt w' bT lN4 ∧ Txt w' bS lT3)) (fun w h => h.2) _ _ _ _ ?_
   have hHeld := hHeld9
   clear hHeld9
   refine tkH 8 ?tv49 rfl (by kernel_rfl) (by kernel_rfl) (by kernel_rfl) (fun _ _ _ h => h) (by rfl) ?hy49 hHeld ?rs49
   case hy49 => (intro w9 _; go_simp; (try with_reducible rfl))
   (try simp only [Act.put,s1,s2,s3])
   refine tkH 9 ?tv50 rfl (by kernel_rfl) (by kernel_rfl) (by kernel_rfl) (fun _ _ _ h => h) (by rfl) ?hy50 hHeld ?rs50
   case hy50 => (intro w9 hSw; (try dsimp only at hSw); have bl9 := (hSw.1).lt; have c9 := (hSw.1).cell kb (by show kb < 4; omega); go_simp; (try with_reducible rfl))
   (try simp only [Act.put,s1,s2,s3])
   refine tkH 10 ?tv51 rfl (by kernel_rfl) (by kernel_rfl) (by kernel_rfl) (fun _ _ _ h => h) (by rfl) ?hy51 hHeld ?rs51
   case hy51 => (intro w9 _; go_simp; (try with_reducible rfl))
   (try simp only [Act.put,s1,s2,s3])
   refine wpAnyH_ready (rs := [11]) (by kernel_rfl) (by simp) ?_
   refine AllReadyH.cons rfl (fun K hK => ?_) AllReadyH.nil
   have hr9 : rq21 ≤ r := by omega
   have htb1 : (txN lT3 ka) ∈ lT3 := txN_mem (by show ka < 3; omega)
   have hnm1 : (txN lN4 kb) ∈ lN4 := txN_mem (by show kb < 4; omega)
   generalize txN lT3 ka = tb1 at *
   generalize txN lN4 kb = nm1 at *
   have hRf : Bs uq23 z (zS 0) := hR2.but hEq23 (by omega)
   have cR := hRf.cells
   have fR := hRf.free
   have hzlf := hRf.lt
   have d0 := cR.1
   have d1 := cR.2.1
   have d2 := cR.2.2.1
   have d3 := cR.2.2.2.1
   have d4 := cR.2.2.2.2.1
   have d5 := cR.2.2.2.2.2.1
   have d6 := cR.2.2.2.2.2.2.1
   have d7 := cR.2.2.2.2.2.2.2.1
   have d8 := cR.2.2.2.2.2.2.2.2.1
   have d9 := cR.2.2.2.2.2.2.2.2.2.1
   have d10 := cR.2.2.2.2.2.2.2.2.2.2.1
   have d11 := cR.2.2.2.2.2.2.2.2.2.2.2.1
   have d12 := cR.2.2.2.2.2.2.2.2.2.2.2.2
   have f0 := fR.1
   have f1 := fR.2.1
   have f2 := fR.2.2.1
   have f3 := fR.2.2.2.1
   have f4 := fR.2.2.2.2.1
   have f5 := fR.2.2.2.2.2.1
   have f6 := fR.2.2.2.2.2.2.1
   have f7 := fR.2.2.2.2.2.2.2.1
   have f8 := fR.2.2.2.2.2.2.2.2.1
   have f9 := fR.2.2.2.2.2.2.2.2.2.1
   have f10 := fR.2.2.2.2.2.2.2.2.2.2.1
   have f11 := fR.2.2.2.2.2.2.2.2.2.2.2.1
   have f12 := fR.2.2.2.2.2.2.2.2.2.2.2.2
   clear cR fR
   have HXS : Hid (Txt (set13 uq23 z (sIx tb1 nm1)) bT lN4 ∧ Txt (set13 uq23 z (sIx tb1 nm1)) bS lT3) := hid ⟨(hTq23.keep (by rw [set13_size]; exact Nat.le_refl _) (set13_heap uq23 z (sIx tb1 nm1) (by omega))),(hSt23.keep (by rw [set13_size]; exact Nat.le_refl _) (set13_heap uq23 z (sIx tb1 nm1) (by omega)))⟩
   clear hTq23 hSt23
   have T : Hid (TeSf g r w StOK (.returned (stV (sIx tb1 nm1))) (set13 uq23 z (sIx tb1 nm1))) := hid (TeSf.fin (m := (⟨2,tb1,nm1,[],[],[],[],⟨#[]⟩,[],[],[],false⟩,[])) (hU2.trans hEq23) { IsS.zero _ _ 2 with tb := rfl,nm := rfl } (RowIs.nil _ _ _) (.inr (.inl ⟨tb1,nm1,htb1,hnm1,rfl⟩)) hr9 hpq23 hgl HX.out)
   clear hRf hEq23 hpq23 hU2 hR2 htb1 hnm1 g0
   unfold set13 at T
   unfold stV at T
   dsimp only at T
   unfold set13 at HXS
   dsimp only at HXS
   go_simp
   refine hK.out _ _ (HXS.out) (fun hHeld => ?_)
   clear hK K
   (try simp only [Act.put,s1,s2,s3])
   refine wpAnyH_done (by kernel_rfl) ?_ _
   go_wp2
   refine bodyPost_ret (v := stV (sIx tb1 nm1)) (by simp [results,Tryz.results19,go_sem,stV,d0,d1,d2,d3,d4,d5,d6,d7,d8,d9,d10,d11,d12]) rfl ?_
   exact T.out
  go_simp
  have hEq24 : But g w2 (uq21.alloc oN4) := hEq21.alloc _
  have hpq24 : Pk (uq21.alloc oN4) g rq21 := hpq21.alloc _
  have hTq24 : Txt (uq21.alloc oN4) uq21.heap.size lN4 := Txt.new4 uq21 ⟨#[110]⟩ ⟨#[118]⟩ ⟨#[107]⟩ ⟨#[113]⟩
  have hszq24 : w2.heap.size ≤ uq21.heap.size := by have := hEq21.size; (try simp at this); omega
  clear hpq21 hEq21 
  generalize hgb : uq21.heap.size = bT at hTq24 hszq24 ⊢
  have hzhT : z < bT := by omega
  clear hgb
  generalize (uq21.alloc oN4) = uq24 at *
  refine hK.out _ _ (trivial) (fun hHeld => ?_)
  clear hK K
  (try simp only [Act.put,s1,s2,s3])
  have hHeld9 : (fun w' => Txt w' bT lN4) uq24 := hTq24
  clear hHeld
  refine wpAnyH_str (S' := (fun w' => Txt w' bT lN4)) (fun w h => trivial) _ _ _ _ ?_
  have hHeld := hHeld9
  clear hHeld9
  refine tkH 8 ?tv52 rfl (by kernel_rfl) (by kernel_rfl) (by kernel_rfl) (fun _ _ _ h => h) (by rfl) ?hy52 hHeld ?rs52
  case hy52 => (intro w9 _; go_simp; (try with_reducible rfl))
  (try simp only [Act.put,s1,s2,s3])
  refine tkH 9 ?tv53 rfl (by kernel_rfl) (by kernel_rfl) (by kernel_rfl) (fun _ _ _ h => h) (by rfl) ?hy53 hHeld ?rs53
  case hy53 => (intro w9 hSw; (try dsimp only at hSw); have bl9 := (hSw).lt; have c9 := (hSw).cell kb (by show kb < 4; omega); go_simp; (try with_reducible rfl))
  (try simp only [Act.put,s1,s2,s3])
  refine wpAnyH_ready (rs := [0]) (by kernel_rfl) (by simp) ?_
  refine AllReadyH.cons rfl (fun K hK => ?_) AllReadyH.nil
  go_simp
  have hEq25 : But g w2 (uq24.alloc oT3) := hEq24.alloc _
  have hpq25 : Pk (uq24.alloc oT3) g rq21 := hpq24.alloc _
  have hSq25 : Txt (uq24.alloc oT3) uq24.heap.size lT3 := Txt.new3 uq24 ⟨#[116]⟩ ⟨#[117]⟩ ⟨#[119]⟩
  have hTq25 := hTq24.later (bal (Below.refl _ uq24) oT3)
  have lthTq25 : bT < uq24.heap.size := hTq24.lt
  have hszq25 : w2.heap.size ≤ uq24.heap.size := by have := hEq24.size; (try simp at this); omega
  have hTt25 : Txt (uq24.alloc oT3) bT lN4 := hTq25
  clear hpq24 hEq24 hTq24 hTq25
  generalize hgb : uq24.heap.size = bS at hSq25 hszq25 ⊢
  have hzhS : z < bS := by omega
  have nehTq25 : bT ≠ bS := by omega
  clear hgb
  generalize (uq24.alloc oT3) = uq25 at *
  refine hK.out _ _ (hTt25) (fun hHeld => ?_)
  clear hK K
  (try simp only [Act.put,s1,s2,s3])
  have hHeld9 : (fun w' => Txt w' bS lT3 ∧ Txt w' bT lN4) uq25 := ⟨hSq25,hTt25⟩
  clear hHeld
  refine wpAnyH_str (S' := (fun w' => Txt w' bS lT3 ∧ Txt w' bT lN4)) (fun w h => h.2) _ _ _ _ ?_
  have hHeld := hHeld9
  clear hHeld9
  refine tkH 3 ?tv54 rfl (by kernel_rfl) (by kernel_rfl) (by kernel_rfl) (fun _ _ _ h => h) (by rfl) ?hy54 hHeld ?rs54
  case hy54 => (intro w9 _; go_simp; (try with_reducible rfl))
  (try simp only [Act.put,s1,s2,s3])
  refine tkH 4 ?tv55 rfl (by kernel_rfl) (by kernel_rfl) (by kernel_rfl) (fun _ _ _ h => h) (by rfl) ?hy55 hHeld ?rs55
  case hy55 => (intro w9 hSw; (try dsimp only at hSw); have bl9 := (hSw.1).lt; have c9 := (hSw.1).cell ka (by show ka < 3; omega); go_simp; (try with_reducible rfl))
  (try simp only [Act.put,s1,s2,s3])
  refine tkH 10 ?tv56 rfl (by kernel_rfl) (by kernel_rfl) (by kernel_rfl) (fun _ _ _ h => h) (by rfl) ?hy56 hHeld ?rs56
  case hy56 => (intro w9 _; go_simp; (try with_reducible rfl))
  (try simp only [Act.put,s1,s2,s3])
  refine wpAnyH_ready (rs := [11]) (by kernel_rfl) (by simp) ?_
  refine AllReadyH.cons rfl (fun K hK => ?_) AllReadyH.nil
  have hr9 : rq21 ≤ r := by omega
  have htb1 : (txN lT3 ka) ∈ lT3 := txN_mem (by show ka < 3; omega)
  have hnm1 : (txN lN4 kb) ∈ lN4 := txN_mem (by show kb < 4; omega)
  generalize txN lT3 ka = tb1 at *
  generalize txN lN4 kb = nm1 at *
  have hRf : Bs uq25 z (zS 0) := hR2.but hEq25 (by omega)
  have cR := hRf.cells
  have fR := hRf.free
  have hzlf := hRf.lt
  have d0 := cR.1
  have d1 := cR.2.1
  have d2 := cR.2.2.1
  have d3 := cR.2.2.2.1
  have d4 := cR.2.2.2.2.1
  have d5 := cR.2.2.2.2.2.1
  have d6 := cR.2.2.2.2.2.2.1
  have d7 := cR.2.2.2.2.2.2.2.1
  have d8 := cR.2.2.2.2.2.2.2.2.1
  have d9 := cR.2.2.2.2.2.2.2.2.2.1
  have d10 := cR.2.2.2.2.2.2.2.2.2.2.1
  have d11 := cR.2.2.2.2.2.2.2.2.2.2.2.1
  have d12 := cR.2.2.2.2.2.2.2.2.2.2.2.2
  have f0 := fR.1
  have f1 := fR.2.1
  have f2 := fR.2.2.1
  have f3 := fR.2.2.2.1
  have f4 := fR.2.2.2.2.1
  have f5 := fR.2.2.2.2.2.1
  have f6 := fR.2.2.2.2.2.2.1
  have f7 := fR.2.2.2.2.2.2.2.1
  have f8 := fR.2.2.2.2.2.2.2.2.1
  have f9 := fR.2.2.2.2.2.2.2.2.2.1
  have f10 := fR.2.2.2.2.2.2.2.2.2.2.1
  have f11 := fR.2.2.2.2.2.2.2.2.2.2.2.1
  have f12 := fR.2.2.2.2.2.2.2.2.2.2.2.2
  clear cR fR
  have HXS : Hid (Txt (set13 uq25 z (sIx tb1 nm1)) bS lT3 ∧ Txt (set13 uq25 z (sIx tb1 nm1)) bT lN4) := hid ⟨(hSq25.keep (by rw [set13_size]; exact Nat.le_refl _) (set13_heap uq25 z (sIx tb1 nm1) (by omega))),(hTt25.keep (by rw [set13_size]; exact Nat.le_refl _) (set13_heap uq25 z (sIx tb1 nm1) (by omega)))⟩
  clear hSq25 hTt25
  have T : Hid (TeSf g r w StOK (.returned (stV (sIx tb1 nm1))) (set13 uq25 z (sIx tb1 nm1))) := hid (TeSf.fin (m := (⟨2,tb1,nm1,[],[],[],[],⟨#[]⟩,[],[],[],false⟩,[])) (hU2.trans hEq25) { IsS.zero _ _ 2 with tb := rfl,nm := rfl } (RowIs.nil _ _ _) (.inr (.inl ⟨tb1,nm1,htb1,hnm1,rfl⟩)) hr9 hpq25 hgl HX.out)
  clear hRf hEq25 hpq25 hU2 hR2 htb1 hnm1 g0
  unfold set13 at T
  unfold stV at T
  dsimp only at T
  unfold set13 at HXS
  dsimp only at HXS
  go_simp
  refine hK.out _ _ (HXS.out) (fun hHeld => ?_)
  clear hK K
  (try simp only [Act.put,s1,s2,s3])
  refine wpAnyH_done (by kernel_rfl) ?_ _
  go_wp2
  refine bodyPost_ret (v := stV (sIx tb1 nm1)) (by simp [results,Tryz.results19,go_sem,stV,d0,d1,d2,d3,d4,d5,d6,d7,d8,d9,d10,d11,d12]) rfl ?_
  exact T.out
 go_simp
 have hEq26 : But g w2 (w2.alloc oN4).drew := hD.alloc _
 have hpq26 : Pk (w2.alloc oN4).drew g r2 := hpD.alloc _
 have hTq26 : Txt (w2.alloc oN4).drew w2.heap.size lN4 := Txt.new4 w2.drew ⟨#[110]⟩ ⟨#[118]⟩ ⟨#[107]⟩ ⟨#[113]⟩
 have hszq26 : w2.heap.size ≤ w2.heap.size := by have := hD.size; (try simp at this); omega
 clear hpD hD 
 generalize hgb : w2.heap.size = bT at hTq26 hszq26 ⊢
 have hzhT : z < bT := by omega
 clear hgb
 generalize (w2.alloc oN4).drew = uq26 at *
 refine hK.out _ _ (trivial) (fun hHeld => ?_)
 clear hK K
 (try simp only [Act.put,s1,s2,s3])
 have hHeld9 : (fun w' => Txt w' bT lN4) uq26 := hTq26
 clear hHeld
 refine wpAnyH_str (S' := (fun w' => Txt w' bT lN4)) (fun w h => trivial) _ _ _ _ ?_
 have hHeld := hHeld9
 clear hHeld9
 refine wpAnyH_ready (rs := [0,2]) (by kernel_rfl) (by simp) ?_
 refine AllReadyH.cons rfl (fun K hK => ?_) (AllReadyH.cons rfl (fun K hK => ?_) AllReadyH.nil)
 ·go_simp
  have hEq27 : But g w2 (uq26.alloc oT3) := hEq26.alloc _
  have hpq27 : Pk (uq26.alloc oT3) g r2 := hpq26.alloc _
  have hSq27 : Txt (uq26.alloc oT3) uq26.heap.size lT3 := Txt.new3 uq26 ⟨#[116]⟩ ⟨#[117]⟩ ⟨#[119]⟩
  have hTq27 := hTq26.later (bal (Below.refl _ uq26) oT3)
  have lthTq27 : bT < uq26.heap.size := hTq26.lt
  have hszq27 : w2.heap.size ≤ uq26.heap.size := by have := hEq26.size; (try simp at this); omega
  have hTt27 : Txt (uq26.alloc oT3) bT lN4 := hTq27
  clear hpq26 hEq26 hTq26 hTq27
  generalize hgb : uq26.heap.size = bS at hSq27 hszq27 ⊢
  have hzhS : z < bS := by omega
  have nehTq27 : bT ≠ bS := by omega
  clear hgb
  generalize (uq26.alloc oT3) = uq27 at *
  refine hK.out _ _ (hTt27) (fun hHeld => ?_)
  clear hK K
  (try simp only [Act.put,s1,s2,s3])
  have hHeld9 : (fun w' => Txt w' bS lT3 ∧ Txt w' bT lN4) uq27 := ⟨hSq27,hTt27⟩
  clear hHeld
  refine wpAnyH_str (S' := (fun w' => Txt w' bS lT3 ∧ Txt w' bT lN4)) (fun w h => h.2) _ _ _ _ ?_
  have hHeld := hHeld9
  clear hHeld9
  refine wpAnyH_ready (rs := [2]) (by kernel_rfl) (by simp) ?_
  refine AllReadyH.cons rfl (fun K hK => ?_) AllReadyH.nil
  go_simp
  go_wp2_with (first | (go_at_call 39; refine Calls.mono (num_any hpq27 3 (by decide) (by decide)) ?_; rintro e uq28 ⟨ka,rq28,rfl,hka,hlq28,hpq28,hbq28⟩))
  have hEq28 := hEq27.trans hbq28
  have hrq28 := hlq28.1
  have hSq28 := hSq27.but hbq28 (by omega)
  have hTq28 := hTt27.but hbq28 (by omega)
  clear hpq27 hEq27 hbq28 hlq28 hSq27 hTt27
  have ika : (0 : Int) ≤ (ka : Int) := by omega
  have jka : (ka : Int) < 3 := by omega
  refine hK.out _ _ (⟨hSq28,hTq28⟩) (fun hHeld => ?_)
  clear hK K
  (try simp only [Act.put,s1,s2,s3])
  refine tkH 3 ?tv57 rfl (by kernel_rfl) (by kernel_rfl) (by kernel_rfl) (fun _ _ _ h => h) (by rfl) ?hy57 hHeld ?rs57
  case hy57 => (intro w9 _; go_simp; (try with_reducible rfl))
  (try simp only [Act.put,s1,s2,s3])
  refine tkH 4 ?tv58 rfl (by kernel_rfl) (by kernel_rfl) (by kernel_rfl) (fun _ _ _ h => h) (by rfl) ?hy58 hHeld ?rs58
  case hy58 => (intro w9 hSw; (try dsimp only at hSw); have bl9 := (hSw.1).lt; have c9 := (hSw.1).cell ka (by show ka < 3; omega); go_simp; (try with_reducible rfl))
  (try simp only [Act.put,s1,s2,s3])
  refine wpAnyH_ready (rs := [7]) (by kernel_rfl) (by simp) ?_
  refine AllReadyH.cons rfl (fun K hK => ?_) AllReadyH.nil
  go_simp
  go_wp2_with (first | (go_at_call 39; refine Calls.mono (num_any hpq28 4 (by decide) (by decide)) ?_; rintro e uq29 ⟨kb,rq29,rfl,hkb,hlq29,hpq29,hbq29⟩))
  have hEq29 := hEq28.trans hbq29
  have hrq29 := hlq29.1
  have hSq29 := hSq28.but hbq29 (by omega)
  have hTq29 := hTq28.but hbq29 (by omega)
  clear hpq28 hEq28 hbq29 hlq29 hSq28 hTq28
  have ikb : (0 : Int) ≤ (kb : Int) := by omega
  have jkb : (kb : Int) < 4 := by omega
  refine hK.out _ _ (⟨hSq29,hTq29⟩) (fun hHeld => ?_)
  clear hK K
  (try simp only [Act.put,s1,s2,s3])
  refine tkH 8 ?tv59 rfl (by kernel_rfl) (by kernel_rfl) (by kernel_rfl) (fun _ _ _ h => h) (by rfl) ?hy59 hHeld ?rs59
  case hy59 => (intro w9 _; go_simp; (try with_reducible rfl))
  (try simp only [Act.put,s1,s2,s3])
  refine tkH 9 ?tv60 rfl (by kernel_rfl) (by kernel_rfl) (by kernel_rfl) (fun _ _ _ h => h) (by rfl) ?hy60 hHeld ?rs60
  case hy60 => (intro w9 hSw; (try dsimp only at hSw); have bl9 := (hSw.2).lt; have c9 := (hSw.2).cell kb (by show kb < 4; omega); go_simp; (try with_reducible rfl))
  (try simp only [Act.put,s1,s2,s3])
  refine tkH 10 ?tv61 rfl (by kernel_rfl) (by kernel_rfl) (by kernel_rfl) (fun _ _ _ h => h) (by rfl) ?hy61 hHeld ?rs61
  case hy61 => (intro w9 _; go_simp; (try with_reducible rfl))
  (try simp only [Act.put,s1,s2,s3])
  refine wpAnyH_ready (rs := [11]) (by kernel_rfl) (by simp) ?_
  refine AllReadyH.cons rfl (fun K hK => ?_) AllReadyH.nil
  have hr9 : rq29 ≤ r := by omega
  have htb1 : (txN lT3 ka) ∈ lT3 := txN_mem (by show ka < 3; omega)
  have hnm1 : (txN lN4 kb) ∈ lN4 := txN_mem (by show kb < 4; omega)
  generalize txN lT3 ka = tb1 at *
  generalize txN lN4 kb = nm1 at *
  have hRf : Bs uq29 z (zS 0) := hR2.but hEq29 (by omega)
  have cR := hRf.cells
  have fR := hRf.free
  have hzlf := hRf.lt
  have d0 := cR.1
  have d1 := cR.2.1
  have d2 := cR.2.2.1
  have d3 := cR.2.2.2.1
  have d4 := cR.2.2.2.2.1
  have d5 := cR.2.2.2.2.2.1
  have d6 := cR.2.2.2.2.2.2.1
  have d7 := cR.2.2.2.2.2.2.2.1
  have d8 := cR.2.2.2.2.2.2.2.2.1
  have d9 := cR.2.2.2.2.2.2.2.2.2.1
  have d10 := cR.2.2.2.2.2.2.2.2.2.2.1
  have d11 := cR.2.2.2.2.2.2.2.2.2.2.2.1
  have d12 := cR.2.2.2.2.2.2.2.2.2.2.2.2
  have f0 := fR.1
  have f1 := fR.2.1
  have f2 := fR.2.2.1
  have f3 := fR.2.2.2.1
  have f4 := fR.2.2.2.2.1
  have f5 := fR.2.2.2.2.2.1
  have f6 := fR.2.2.2.2.2.2.1
  have f7 := fR.2.2.2.2.2.2.2.1
  have f8 := fR.2.2.2.2.2.2.2.2.1
  have f9 := fR.2.2.2.2.2.2.2.2.2.1
  have f10 := fR.2.2.2.2.2.2.2.2.2.2.1
  have f11 := fR.2.2.2.2.2.2.2.2.2.2.2.1
  have f12 := fR.2.2.2.2.2.2.2.2.2.2.2.2
  clear cR fR
  have HXS : Hid (Txt (set13 uq29 z (sIx tb1 nm1)) bS lT3 ∧ Txt (set13 uq29 z (sIx tb1 nm1)) bT lN4) := hid ⟨(hSq29.keep (by rw [set13_size]; exact Nat.le_refl _) (set13_heap uq29 z (sIx tb1 nm1) (by omega))),(hTq29.keep (by rw [set13_size]; exact Nat.le_refl _) (set13_heap uq29 z (sIx tb1 nm1) (by omega)))⟩
  clear hSq29 hTq29
  have T : Hid (TeSf g r w StOK (.returned (stV (sIx tb1 nm1))) (set13 uq29 z (sIx tb1 nm1))) := hid (TeSf.fin (m := (⟨2,tb1,nm1,[],[],[],[],⟨#[]⟩,[],[],[],false⟩,[])) (hU2.trans hEq29) { IsS.zero _ _ 2 with tb := rfl,nm := rfl } (RowIs.nil _ _ _) (.inr (.inl ⟨tb1,nm1,htb1,hnm1,rfl⟩)) hr9 hpq29 hgl HX.out)
  clear hRf hEq29 hpq29 hU2 hR2 htb1 hnm1 g0
  unfold set13 at T
  unfold stV at T
  dsimp only at T
  unfold set13 at HXS
  dsimp only at HXS
  go_simp
  refine hK.out _ _ (HXS.out) (fun hHeld => ?_)
  clear hK K
  (try simp only [Act.put,s1,s2,s3])
  refine wpAnyH_done (by kernel_rfl) ?_ _
  go_wp2
  refine bodyPost_ret (v := stV (sIx tb1 nm1)) (by simp [results,Tryz.results19,go_sem,stV,d0,d1,d2,d3,d4,d5,d6,d7,d8,d9,d10,d11,d12]) rfl ?_
  exact T.out
 go_simp
 go_wp2_with (first | (go_at_call 39; refine Calls.mono (num_any hpq26 3 (by decide) (by decide)) ?_; rintro e uq30 ⟨ka,rq30,rfl,hka,hlq30,hpq30,hbq30⟩))
 have hEq30 := hEq26.trans hbq30
 have hrq30 := hlq30.1
 have hTq30 := hTq26.but hbq30 (by omega)
 clear hpq26 hEq26 hbq30 hlq30 hTq26
 have ika : (0 : Int) ≤ (ka : Int) := by omega
 have jka : (ka : Int) < 3 := by omega
 refine hK.out _ _ (hTq30) (fun hHeld => ?_)
 clear hK K
 (try simp only [Act.put,s1,s2,s3])
 refine wpAnyH_ready (rs := [0,7]) (by kernel_rfl) (by simp) ?_
 refine AllReadyH.cons rfl (fun K hK => ?_) (AllReadyH.cons rfl (fun K hK => ?_) AllReadyH.nil)
 ·go_simp
  have hEq31 : But g w2 (uq30.alloc oT3) := hEq30.alloc _
  have hpq31 : Pk (uq30.alloc oT3) g rq30 := hpq30.alloc _
  have hSq31 : Txt (uq30.alloc oT3) uq30.heap.size lT3 := Txt.new3 uq30 ⟨#[116]⟩ ⟨#[117]⟩ ⟨#[119]⟩
  have hTq31 := hTq30.later (bal (Below.refl _ uq30) oT3)
  have lthTq31 : bT < uq30.heap.size := hTq30.lt
  have hszq31 : w2.heap.size ≤ uq30.heap.size := by have := hEq30.size; (try simp at this); omega
  have hTt31 : Txt (uq30.alloc oT3) bT lN4 := hTq31
  clear hpq30 hEq30 hTq30 hTq31
  generalize hgb : uq30.heap.size = bS at hSq31 hszq31 ⊢
  have hzhS : z < bS := by omega
  have nehTq31 : bT ≠ bS := by omega
  clear hgb
  generalize (uq30.alloc oT3) = uq31 at *
  refine hK.out _ _ (hTt31) (fun hHeld => ?_)
  clear hK K
  (try simp only [Act.put,s1,s2,s3])
  have hHeld9 : (fun w' => Txt w' bS lT3 ∧ Txt w' bT lN4) uq31 := ⟨hSq31,hTt31⟩
  clear hHeld
  refine wpAnyH_str (S' := (fun w' => Txt w' bS lT3 ∧ Txt w' bT lN4)) (fun w h => h.2) _ _ _ _ ?_
  have hHeld := hHeld9
  clear hHeld9
  refine tkH 3 ?tv62 rfl (by kernel_rfl) (by kernel_rfl) (by kernel_rfl) (fun _ _ _ h => h) (by rfl) ?hy62 hHeld ?rs62
  case hy62 => (intro w9 _; go_simp; (try with_reducible rfl))
  (try simp only [Act.put,s1,s2,s3])
  refine tkH 4 ?tv63 rfl (by kernel_rfl) (by kernel_rfl) (by kernel_rfl) (fun _ _ _ h => h) (by rfl) ?hy63 hHeld ?rs63
  case hy63 => (intro w9 hSw; (try dsimp only at hSw); have bl9 := (hSw.1).lt; have c9 := (hSw.1).cell ka (by show ka < 3; omega); go_simp; (try with_reducible rfl))
  (try simp only [Act.put,s1,s2,s3])
  refine wpAnyH_ready (rs := [7]) (by kernel_rfl) (by simp) ?_
  refine AllReadyH.cons rfl (fun K hK => ?_) AllReadyH.nil
  go_simp
  go_wp2_with (first | (go_at_call 39; refine Calls.mono (num_any hpq31 4 (by decide) (by decide)) ?_; rintro e uq32 ⟨kb,rq32,rfl,hkb,hlq32,hpq32,hbq32⟩))
  have hEq32 := hEq31.trans hbq32
  have hrq32 := hlq32.1
  have hSq32 := hSq31.but hbq32 (by omega)
  have hTq32 := hTt31.but hbq32 (by omega)
  clear hpq31 hEq31 hbq32 hlq32 hSq31 hTt31
  have ikb : (0 : Int) ≤ (kb : Int) := by omega
  have jkb : (kb : Int) < 4 := by omega
  refine hK.out _ _ (⟨hSq32,hTq32⟩) (fun hHeld => ?_)
  clear hK K
  (try simp only [Act.put,s1,s2,s3])
  refine tkH 8 ?tv64 rfl (by kernel_rfl) (by kernel_rfl) (by kernel_rfl) (fun _ _ _ h => h) (by rfl) ?hy64 hHeld ?rs64
  case hy64 => (intro w9 _; go_simp; (try with_reducible rfl))
  (try simp only [Act.put,s1,s2,s3])
  refine tkH 9 ?tv65 rfl (by kernel_rfl) (by kernel_rfl) (by kernel_rfl) (fun _ _ _ h => h) (by rfl) ?hy65 hHeld ?rs65
  case hy65 => (intro w9 hSw; (try dsimp only at hSw); have bl9 := (hSw.2).lt; have c9 := (hSw.2).cell kb (by show kb < 4; omega); go_simp; (try with_reducible rfl))
  (try simp only [Act.put,s1,s2,s3])
  refine tkH 10 ?tv66 rfl (by kernel_rfl) (by kernel_rfl) (by kernel_rfl) (fun _ _ _ h => h) (by rfl) ?hy66 hHeld ?rs66
  case hy66 => (intro w9 _; go_simp; (try with_reducible rfl))
  (try simp only [Act.put,s1,s2,s3])
  refine wpAnyH_ready (rs := [11]) (by kernel_rfl) (by simp) ?_
  refine AllReadyH.cons rfl (fun K hK => ?_) AllReadyH.nil
  have hr9 : rq32 ≤ r := by omega
  have htb1 : (txN lT3 ka) ∈ lT3 := txN_mem (by show ka < 3; omega)
  have hnm1 : (txN lN4 kb) ∈ lN4 := txN_mem (by show kb < 4; omega)
  generalize txN lT3 ka = tb1 at *
  generalize txN lN4 kb = nm1 at *
  have hRf : Bs uq32 z (zS 0) := hR2.but hEq32 (by omega)
  have cR := hRf.cells
  have fR := hRf.free
  have hzlf := hRf.lt
  have d0 := cR.1
  have d1 := cR.2.1
  have d2 := cR.2.2.1
  have d3 := cR.2.2.2.1
  have d4 := cR.2.2.2.2.1
  have d5 := cR.2.2.2.2.2.1
  have d6 := cR.2.2.2.2.2.2.1
  have d7 := cR.2.2.2.2.2.2.2.1
  have d8 := cR.2.2.2.2.2.2.2.2.1
  have d9 := cR.2.2.2.2.2.2.2.2.2.1
  have d10 := cR.2.2.2.2.2.2.2.2.2.2.1
  have d11 := cR.2.2.2.2.2.2.2.2.2.2.2.1
  have d12 := cR.2.2.2.2.2.2.2.2.2.2.2.2
  have f0 := fR.1
  have f1 := fR.2.1
  have f2 := fR.2.2.1
  have f3 := fR.2.2.2.1
  have f4 := fR.2.2.2.2.1
  have f5 := fR.2.2.2.2.2.1
  have f6 := fR.2.2.2.2.2.2.1
  have f7 := fR.2.2.2.2.2.2.2.1
  have f8 := fR.2.2.2.2.2.2.2.2.1
  have f9 := fR.2.2.2.2.2.2.2.2.2.1
  have f10 := fR.2.2.2.2.2.2.2.2.2.2.1
  have f11 := fR.2.2.2.2.2.2.2.2.2.2.2.1
  have f12 := fR.2.2.2.2.2.2.2.2.2.2.2.2
  clear cR fR
  have HXS : Hid (Txt (set13 uq32 z (sIx tb1 nm1)) bS lT3 ∧ Txt (set13 uq32 z (sIx tb1 nm1)) bT lN4) := hid ⟨(hSq32.keep (by rw [set13_size]; exact Nat.le_refl _) (set13_heap uq32 z (sIx tb1 nm1) (by omega))),(hTq32.keep (by rw [set13_size]; exact Nat.le_refl _) (set13_heap uq32 z (sIx tb1 nm1) (by omega)))⟩
  clear hSq32 hTq32
  have T : Hid (TeSf g r w StOK (.returned (stV (sIx tb1 nm1))) (set13 uq32 z (sIx tb1 nm1))) := hid (TeSf.fin (m := (⟨2,tb1,nm1,[],[],[],[],⟨#[]⟩,[],[],[],false⟩,[])) (hU2.trans hEq32) { IsS.zero _ _ 2 with tb := rfl,nm := rfl } (RowIs.nil _ _ _) (.inr (.inl ⟨tb1,nm1,htb1,hnm1,rfl⟩)) hr9 hpq32 hgl HX.out)
  clear hRf hEq32 hpq32 hU2 hR2 htb1 hnm1 g0
  unfold set13 at T
  unfold stV at T
  dsimp only at T
  unfold set13 at HXS
  dsimp only at HXS
  go_simp
  refine hK.out _ _ (HXS.out) (fun hHeld => ?_)
  clear hK K
  (try simp only [Act.put,s1,s2,s3])
  refine wpAnyH_done (by kernel_rfl) ?_ _
  go_wp2
  refine bodyPost_ret (v := stV (sIx tb1 nm1)) (by simp [results,Tryz.results19,go_sem,stV,d0,d1,d2,d3,d4,d5,d6,d7,d8,d9,d10,d11,d12]) rfl ?_
  exact T.out
 go_simp
 go_wp2_with (first | (go_at_call 39; refine Calls.mono (num_any hpq30 4 (by decide) (by decide)) ?_; rintro e uq33 ⟨kb,rq33,rfl,hkb,hlq33,hpq33,hbq33⟩))
 have hEq33 := hEq30.trans hbq33
 have hrq33 := hlq33.1
 have hTq33 := hTq30.but hbq33 (by omega)
 clear hpq30 hEq30 hbq33 hlq33 hTq30
 have ikb : (0 : Int) ≤ (kb : Int) := by omega
 have jkb : (kb : Int) < 4 := by omega
 refine hK.out _ _ (hTq33) (fun hHeld => ?_)
 clear hK K
 (try simp only [Act.put,s1,s2,s3])
 refine tkH 8 ?tv67 rfl (by kernel_rfl) (by kernel_rfl) (by kernel_rfl) (fun _ _ _ h => h) (by rfl) ?hy67 hHeld ?rs67
 case hy67 => (intro w9 _; go_simp; (try with_reducible rfl))
 (try simp only [Act.put,s1,s2,s3])
 refine tkH 9 ?tv68 rfl (by kernel_rfl) (by kernel_rfl) (by kernel_rfl) (fun _ _ _ h => h) (by rfl) ?hy68 hHeld ?rs68
 case hy68 => (intro w9 hSw; (try dsimp only at hSw); have bl9 := (hSw).lt; have c9 := (hSw).cell kb (by show kb < 4; omega); go_simp; (try with_reducible rfl))
 (try simp only [Act.put,s1,s2,s3])
 refine wpAnyH_ready (rs := [0]) (by kernel_rfl) (by simp) ?_
 refine AllReadyH.cons rfl (fun K hK => ?_) AllReadyH.nil
 go_simp
 have hEq34 : But g w2 (uq33.alloc oT3) := hEq33.alloc _
 have hpq34 : Pk (uq33.alloc oT3) g rq33 := hpq33.alloc _
 have hSq34 : Txt (uq33.alloc oT3) uq33.heap.size lT3 := Txt.new3 uq33 ⟨#[116]⟩ ⟨#[117]⟩ ⟨#[119]⟩
 have hTq34 := hTq33.later (bal (Below.refl _ uq33) oT3)
 have lthTq34 : bT < uq33.heap.size := hTq33.lt
 have hszq34 : w2.heap.size ≤ uq33.heap.size := by have := hEq33.size; (try simp at this); omega
 have hTt34 : Txt (uq33.alloc oT3) bT lN4 := hTq34
 clear hpq33 hEq33 hTq33 hTq34
 generalize hgb : uq33.heap.size = bS at hSq34 hszq34 ⊢
 have hzhS : z < bS := by omega
 have nehTq34 : bT ≠ bS := by omega
 clear hgb
 generalize (uq33.alloc oT3) = uq34 at *
 refine hK.out _ _ (hTt34) (fun hHeld => ?_)
 clear hK K
 (try simp only [Act.put,s1,s2,s3])
 have hHeld9 : (fun w' => Txt w' bS lT3 ∧ Txt w' bT lN4) uq34 := ⟨hSq34,hTt34⟩
 clear hHeld
 refine wpAnyH_str (S' := (fun w' => Txt w' bS lT3 ∧ Txt w' bT lN4)) (fun w h => h.2) _ _ _ _ ?_
 have hHeld := hHeld9
 clear hHeld9
 refine tkH 3 ?tv69 rfl (by kernel_rfl) (by kernel_rfl) (by kernel_rfl) (fun _ _ _ h => h) (by rfl) ?hy69 hHeld ?rs69
 case hy69 => (intro w9 _; go_simp; (try with_reducible rfl))
 (try simp only [Act.put,s1,s2,s3])
 refine tkH 4 ?tv70 rfl (by kernel_rfl) (by kernel_rfl) (by kernel_rfl) (fun _ _ _ h => h) (by rfl) ?hy70 hHeld ?rs70
 case hy70 => (intro w9 hSw; (try dsimp only at hSw); have bl9 := (hSw.1).lt; have c9 := (hSw.1).cell ka (by show ka < 3; omega); go_simp; (try with_reducible rfl))
 (try simp only [Act.put,s1,s2,s3])
 refine tkH 10 ?tv71 rfl (by kernel_rfl) (by kernel_rfl) (by kernel_rfl) (fun _ _ _ h => h) (by rfl) ?hy71 hHeld ?rs71
 case hy71 => (intro w9 _; go_simp; (try with_reducible rfl))
 (try simp only [Act.put,s1,s2,s3])
 refine wpAnyH_ready (rs := [11]) (by kernel_rfl) (by simp) ?_
 refine AllReadyH.cons rfl (fun K hK => ?_) AllReadyH.nil
 have hr9 : rq33 ≤ r := by omega
 have htb1 : (txN lT3 ka) ∈ lT3 := txN_mem (by show ka < 3; omega)
 have hnm1 : (txN lN4 kb) ∈ lN4 := txN_mem (by show kb < 4; omega)
 generalize txN lT3 ka = tb1 at *
 generalize txN lN4 kb = nm1 at *
 have hRf : Bs uq34 z (zS 0) := hR2.but hEq34 (by omega)
 have cR := hRf.cells
 have fR := hRf.free
 have hzlf := hRf.lt
 have d0 := cR.1
 have d1 := cR.2.1
 have d2 := cR.2.2.1
 have d3 := cR.2.2.2.1
 have d4 := cR.2.2.2.2.1
 have d5 := cR.2.2.2.2.2.1
 have d6 := cR.2.2.2.2.2.2.1
 have d7 := cR.2.2.2.2.2.2.2.1
 have d8 := cR.2.2.2.2.2.2.2.2.1
 have d9 := cR.2.2.2.2.2.2.2.2.2.1
 have d10 := cR.2.2.2.2.2.2.2.2.2.2.1
 have d11 := cR.2.2.2.2.2.2.2.2.2.2.2.1
 have d12 := cR.2.2.2.2.2.2.2.2.2.2.2.2
 have f0 := fR.1
 have f1 := fR.2.1
 have f2 := fR.2.2.1
 have f3 := fR.2.2.2.1
 have f4 := fR.2.2.2.2.1
 have f5 := fR.2.2.2.2.2.1
 have f6 := fR.2.2.2.2.2.2.1
 have f7 := fR.2.2.2.2.2.2.2.1
 have f8 := fR.2.2.2.2.2.2.2.2.1
 have f9 := fR.2.2.2.2.2.2.2.2.2.1
 have f10 := fR.2.2.2.2.2.2.2.2.2.2.1
 have f11 := fR.2.2.2.2.2.2.2.2.2.2.2.1
 have f12 := fR.2.2.2.2.2.2.2.2.2.2.2.2
 clear cR fR
 have HXS : Hid (Txt (set13 uq34 z (sIx tb1 nm1)) bS lT3 ∧ Txt (set13 uq34 z (sIx tb1 nm1)) bT lN4) := hid ⟨(hSq34.keep (by rw [set13_size]; exact Nat.le_refl _) (set13_heap uq34 z (sIx tb1 nm1) (by omega))),(hTt34.keep (by rw [set13_size]; exact Nat.le_refl _) (set13_heap uq34 z (sIx tb1 nm1) (by omega)))⟩
 clear hSq34 hTt34
 have T : Hid (TeSf g r w StOK (.returned (stV (sIx tb1 nm1))) (set13 uq34 z (sIx tb1 nm1))) := hid (TeSf.fin (m := (⟨2,tb1,nm1,[],[],[],[],⟨#[]⟩,[],[],[],false⟩,[])) (hU2.trans hEq34) { IsS.zero _ _ 2 with tb := rfl,nm := rfl } (RowIs.nil _ _ _) (.inr (.inl ⟨tb1,nm1,htb1,hnm1,rfl⟩)) hr9 hpq34 hgl HX.out)
 clear hRf hEq34 hpq34 hU2 hR2 htb1 hnm1 g0
 unfold set13 at T
 unfold stV at T
 dsimp only at T
 unfold set13 at HXS
 dsimp only at HXS
 go_simp
 refine hK.out _ _ (HXS.out) (fun hHeld => ?_)
 clear hK K
 (try simp only [Act.put,s1,s2,s3])
 refine wpAnyH_done (by kernel_rfl) ?_ _
 go_wp2
 refine bodyPost_ret (v := stV (sIx tb1 nm1)) (by simp [results,Tryz.results19,go_sem,stV,d0,d1,d2,d3,d4,d5,d6,d7,d8,d9,d10,d11,d12]) rfl ?_
 exact T.out

end Go.Proofs.YtljmlacnfnmjbaaGreat
