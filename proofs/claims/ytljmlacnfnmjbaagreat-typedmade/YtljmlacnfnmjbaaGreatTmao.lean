import Derived.Test.YtljmlacnfnmjbaaGreatTmak
import Derived.Test.YtljmlacnfnmjbaaGreatTmac
import Derived.Test.YtljmlacnfnmjbaaGreatTmaj
import Derived.Test.YtljmlacnfnmjbaaGreatTmal
import Derived.Test.YtljmlacnfnmjbaaGreatTmam
import Derived.Test.YtljmlacnfnmjbaaGreatTman
namespace Go.Proofs.YtljmlacnfnmjbaaGreat
open Go.RowKit
set_option linter.unusedVariables false
set_option linter.unusedSimpArgs false

set_option maxRecDepth 100000 in
set_option maxHeartbeats 20000000 in
theorem playStmt_3 {g r : Nat} {w : World} (h : Pk w g r) (hk : nxP (w.alloc zSt) g 14 = 3) : Calls Tryz.prog 19 #[.pointer (some ⟨g,0,none⟩)] w (TeSf g r w StOK) := by
 have hgl := h.lt
 have hR0 : Bs (w.alloc zSt) w.heap.size (zS 0) := Bs.new w (zS 0)
 have hU0 : But g w (w.alloc zSt) := (But.refl g w).alloc _
 have hp0 := h.alloc zSt
 have HN : Hid _ := hid (num_exact hp0 14 (by decide) (by decide))
 clear h
 go_enter Tryz.func19,Tryz.ntmps19
 go_wp2_with fail
 refine Calls.mono HN.out ?_
 rintro e w2 ⟨r2,rfl,hk14,hl,hp2,hb2⟩
 generalize nxP (w.alloc zSt) g 14 = k at *
 have hU2 := hU0.trans hb2
 have hR2 := hR0.but hb2 (by omega)
 have hl2 := hl.1
 have HX : Hid (w.heap.size = w.heap.size) := hid rfl
 clear HN hU0 hR0 hp0 hb2 hl
 generalize hzz : w.heap.size = z at hR2 hgl HX ⊢
 replace HX : Hid (z = w.heap.size) := hid hzz.symm
 clear hzz
 have hzl2 := hR2.lt
 subst hk
 have g0 : (((3 : Nat) : Int) == 0) = false := by decide
 have g1 : (((3 : Nat) : Int) == 1) = false := by decide
 have g2 : (((3 : Nat) : Int) == 2) = false := by decide
 have HD : Hid _ := hid (playData_any hp2)
 go_upto_region 18 with fail
 go_cut [7] (fun v7 w' => ∃ q s m r',v7 = .pointer (some ⟨q,0,none⟩) ∧ CloR g r z q w w' s m r')
 case first =>
  go_wp2_with fail
  refine Calls.mono HD.out ?_
  rintro e u ⟨s,m,r3,rfl,hm,hl3,hp3,hE,hI,hinn⟩
  have hsE := hE.size
  obtain ⟨sk,stb,snm,sco,sta,sva,sit,sjn,son,swh,sod,sds,sinn⟩ := s
  replace hinn : sinn = (none,0,0) := hinn
  subst hinn
  have T : Hid (CloR g r z u.heap.size w (u.alloc (svO (⟨sk,stb,snm,sco,sta,sva,sit,sjn,son,swh,sod,sds,(none,0,0)⟩ : Sv))) (⟨sk,stb,snm,sco,sta,sva,sit,sjn,son,swh,sod,sds,(none,0,0)⟩ : Sv) m r3) := hid ⟨Bs.new u (⟨sk,stb,snm,sco,sta,sva,sit,sjn,son,swh,sod,sds,(none,0,0)⟩ : Sv),(hI.mono fun b hb hl => by omega).keep fun b _ hl => (bal (Below.refl _ u) (svO (⟨sk,stb,snm,sco,sta,sva,sit,sjn,son,swh,sod,sds,(none,0,0)⟩ : Sv))).block b hl,rfl,hm,by have := hl3.1; omega,hp3.alloc _,(hU2.trans hE).alloc _,(hR2.but hE (by omega)).later (bal (Below.refl _ u) (svO (⟨sk,stb,snm,sco,sta,sva,sit,sjn,son,swh,sod,sds,(none,0,0)⟩ : Sv))),by omega,by rw [← HX.out]; omega⟩
  clear HD hI hp3 hE hU2 hR2 hp2 hm
  unfold stV
  go_wp2_with fail
  go_meet
  exact ⟨_,(⟨sk,stb,snm,sco,sta,sva,sit,sjn,son,swh,sod,sds,(none,0,0)⟩ : Sv),m,r3,rfl,T.out⟩
 case rest =>
 obtain ⟨q,s0,m0,r0,rfl,hC0⟩ := hcut
 clear HD hU2 hR2 hp2 g0 g1 g2
 go_wp2
 go_loopw [] (fun wr => ∃ s m r',CloR g r z q w wr s m r') (fun wr => mesK q g wr)
 case atStart => exact ⟨s0,m0,r0,hC0⟩
 case round =>
  clear hC0
  obtain ⟨s,m,r3,hC⟩ := hrel
  obtain ⟨sk,stb,snm,sco,sta,sva,sit,sjn,son,swh,sod,sds,sinn⟩ := s
  have hinn : sinn = (none,0,0) := hC.inn
  subst hinn
  have hsk : sk = m.kind := hC.is.k
  have cq := hC.box.cells
  have fq := hC.box.free
  have hql := hC.box.lt
  have hzq := hC.far
  have hgw := hC.pk.lt
  have hzlw := hC.res.lt
  obtain ⟨d0,d1,d2,d3,d4,d5,d6,d7,d8,d9,d10,d11,d12⟩ := cq
  obtain ⟨f0,f1,f2,f3,f4,f5,f6,f7,f8,f9,f10,f11,f12⟩ := fq
  by_cases h6 : sk = 6
  ·subst h6
   have hmes : mesK q g wr = r3 + 1 := hC.mes6
   have HO : Hid _ := hid (over_any hC.pk)
   go_wp2_with fail
   refine Calls.mono HO.out ?_
   rintro e u ⟨rfl,hp4,hb4⟩
   have hE4 := hC.but.trans hb4
   have hC4 := hC.next hb4 hp4 (Nat.le_refl _) (by omega) (by omega)
   have cq := hC4.box.cells
   have fq := hC4.box.free
   have hql4 := hC4.box.lt
   clear HO hC hp4 hb4 hE4 d0 d1 d2 d3 d4 d5 d6 d7 d8 d9 d10 d11 d12 f0 f1 f2 f3 f4 f5 f6 f7 f8 f9 f10 f11 f12 hsk
   by_cases hr0 : r3 = 0
   ·have gr : decide (r3 = 0) = true := by simpa using hr0
    have T : Hid _ := hid (hC4.del (by omega))
    have hm2 : mesK q g (set13 u q (⟨8,⟨#[117]⟩,⟨#[]⟩,(none,0,0),(none,0,0),(none,0,0),(none,0,0),⟨#[]⟩,(none,0,0),(none,0,0),(none,0,0),false,(none,0,0)⟩ : Sv)) = 0 := T.out.mes0 (by decide)
    obtain ⟨d0,d1,d2,d3,d4,d5,d6,d7,d8,d9,d10,d11,d12⟩ := cq
    obtain ⟨f0,f1,f2,f3,f4,f5,f6,f7,f8,f9,f10,f11,f12⟩ := fq
    clear hC4
    have M2 : Hid _ := hid hm2
    clear hm2
    unfold set13 at T M2
    dsimp only at T M2
    go_wp2
    go_roundw
    case rel => exact ⟨_,_,_,T.out⟩
    case measure => rw [hmes,M2.out]; omega
   ·have gr : decide (r3 = 0) = false := by simpa using hr0
    have HD : Hid _ := hid (playData_any hC4.pk)
    go_wp2_with fail
    refine Calls.mono HD.out ?_
    rintro e v ⟨s5,m5,r5,rfl,hm5,hl5,hp5,hE5,hI5,hinn5⟩
    obtain ⟨tk,ttb,tnm,tco,tta,tva,tit,tjn,ton,twh,tod,tds,tinn⟩ := s5
    replace hinn5 : tinn = (none,0,0) := hinn5
    subst hinn5
    have hR5 := hC4.res.but hE5 (by omega)
    have hq5 := hC4.box.but hE5 (by omega)
    have cq5 := hq5.cells
    have fq5 := hq5.free
    have hql5 := hq5.lt
    have hs5 := hE5.size
    have hl6 := hl5.2 (by omega)
    have T : Hid _ := hid (hC4.put hE5 hm5 hl5.1 hp5 hI5 rfl (by omega))
    have hm2 : mesK q g (set13 v q (⟨tk,ttb,tnm,tco,tta,tva,tit,tjn,ton,twh,tod,tds,(none,0,0)⟩ : Sv)) ≤ r5 + 1 := T.out.mesLe
    have M2 : Hid _ := hid hm2
    clear cq fq hC4 hm2 HD hI5 hE5 hp5 hq5 hm5
    obtain ⟨d0,d1,d2,d3,d4,d5,d6,d7,d8,d9,d10,d11,d12⟩ := cq5
    obtain ⟨f0,f1,f2,f3,f4,f5,f6,f7,f8,f9,f10,f11,f12⟩ := fq5
    unfold set13 at T M2
    dsimp only at T M2
    unfold stV
    dsimp only
    go_wp2
    go_roundw
    case rel => exact ⟨_,_,_,T.out⟩
    case measure => rw [hmes]; have := M2.out; omega
  ·have g6 : (sk == 6) = false := by simpa using h6
   have hk6 : m.kind ≠ 6 := by rw [← hsk]; exact h6
   clear hsk
   have hD : But g wr wr.drew := But.of (Below.refl _ wr).drew
   have hpD := hC.pk.later (Below.refl _ wr).drew
   have HK : Hid (∀ w',But g wr w' → w'.cell? ⟨q,0,none⟩ = some (.int .i64 sk) ∧ w'.cell? ⟨q,1,none⟩ = some (.string stb) ∧ w'.cell? ⟨q,2,none⟩ = some (.string snm) ∧ w'.cell? ⟨q,3,none⟩ = some (.slice sco.1 sco.2.1 sco.2.2) ∧ w'.cell? ⟨q,4,none⟩ = some (.slice sta.1 sta.2.1 sta.2.2) ∧ w'.cell? ⟨q,5,none⟩ = some (.slice sva.1 sva.2.1 sva.2.2) ∧ w'.cell? ⟨q,6,none⟩ = some (.slice sit.1 sit.2.1 sit.2.2) ∧ w'.cell? ⟨q,7,none⟩ = some (.string sjn) ∧ w'.cell? ⟨q,8,none⟩ = some (.slice son.1 son.2.1 son.2.2) ∧ w'.cell? ⟨q,9,none⟩ = some (.slice swh.1 swh.2.1 swh.2.2) ∧ w'.cell? ⟨q,10,none⟩ = some (.slice sod.1 sod.2.1 sod.2.2) ∧ w'.cell? ⟨q,11,none⟩ = some (.bool sds) ∧ w'.cell? ⟨q,12,none⟩ = some (.slice none 0 0)) := hid fun w' hb => (hC.box.but hb (by omega)).cells
   have hIs := hC.is
   have hU3 := hC.but
   have hR3 := hC.res
   have hm := hC.ok
   have hr3 := hC.less
   clear hC d1 d2 d3 d4 d5 d6 d7 d8 d9 d10 d11 d12 f0 f1 f2 f3 f4 f5 f6 f7 f8 f9 f10 f11 f12
   go_upto_region 23 with fail
   clear d0
   refine wp_region_held_drew (S := (fun w' => w'.cell? ⟨q,0,none⟩ = some (.int .i64 sk) ∧ w'.cell? ⟨q,1,none⟩ = some (.string stb) ∧ w'.cell? ⟨q,2,none⟩ = some (.string snm) ∧ w'.cell? ⟨q,3,none⟩ = some (.slice sco.1 sco.2.1 sco.2.2) ∧ w'.cell? ⟨q,4,none⟩ = some (.slice sta.1 sta.2.1 sta.2.2) ∧ w'.cell? ⟨q,5,none⟩ = some (.slice sva.1 sva.2.1 sva.2.2) ∧ w'.cell? ⟨q,6,none⟩ = some (.slice sit.1 sit.2.1 sit.2.2) ∧ w'.cell? ⟨q,7,none⟩ = some (.string sjn) ∧ w'.cell? ⟨q,8,none⟩ = some (.slice son.1 son.2.1 son.2.2) ∧ w'.cell? ⟨q,9,none⟩ = some (.slice swh.1 swh.2.1 swh.2.2) ∧ w'.cell? ⟨q,10,none⟩ = some (.slice sod.1 sod.2.1 sod.2.2) ∧ w'.cell? ⟨q,11,none⟩ = some (.bool sds) ∧ w'.cell? ⟨q,12,none⟩ = some (.slice none 0 0))) (by kernel_rfl) (HK.out _ hD) (fun hHeld => ?_)
   refine tkH 0 ?tv72 rfl (by kernel_rfl) (by kernel_rfl) (by kernel_rfl) (fun _ _ _ h => h) (by rfl) ?hy72 hHeld ?rs72
   case hy72 => (intro w9 hSw; (try dsimp only at hSw); go_simp; (try with_reducible rfl))
   (try simp only [Act.put,s1,s2,s3])
   refine tkH 2 ?tv73 rfl (by kernel_rfl) (by kernel_rfl) (by kernel_rfl) (fun _ _ _ h => h) (by rfl) ?hy73 hHeld ?rs73
   case hy73 => (intro w9 hSw; (try dsimp only at hSw); go_simp; (try with_reducible rfl))
   (try simp only [Act.put,s1,s2,s3])
   refine tkH 4 ?tv74 rfl (by kernel_rfl) (by kernel_rfl) (by kernel_rfl) (fun _ _ _ h => h) (by rfl) ?hy74 hHeld ?rs74
   case hy74 => (intro w9 hSw; (try dsimp only at hSw); go_simp; (try with_reducible rfl))
   (try simp only [Act.put,s1,s2,s3])
   refine wpAnyH_ready (rs := [1,5]) (by kernel_rfl) (by simp) ?_
   refine AllReadyH.cons rfl (fun K hK => ?_) (AllReadyH.cons rfl (fun K hK => ?_) AllReadyH.nil)
   ·go_simp
    go_wp2_with (first | (go_at_call 40; refine Calls.mono (view_any hpD) ?_; rintro e u35 ⟨nm1,r35,rfl,hnm,hl35,hp35,hb35⟩))
    have hE35 : But g wr u35 := hD.trans hb35
    refine hK.out _ _ (HK.out _ hE35) (fun hHeld => ?_)
    clear hK K
    (try simp only [Act.put,s1,s2,s3])
    refine wpAnyH_ready (rs := [3,5]) (by kernel_rfl) (by simp) ?_
    refine AllReadyH.cons rfl (fun K hK => ?_) (AllReadyH.cons rfl (fun K hK => ?_) AllReadyH.nil)
    ·go_simp
     go_wp2_with (first | (go_at_call 41; refine Calls.mono (tags_any hp35) ?_; rintro e u36 ⟨ta,tn,tc,tl,r36,rfl,htg,ho36,hl36,hp36,hb36⟩))
     have hE36 : But g wr u36 := hE35.trans hb36
     have hoT := ho36.base (B' := z + 1) (by have := hE35.size; omega)
     refine hK.out _ _ (HK.out _ hE36) (fun hHeld => ?_)
     clear hK K
     (try simp only [Act.put,s1,s2,s3])
     refine wpAnyH_ready (rs := [5]) (by kernel_rfl) (by simp) ?_
     refine AllReadyH.cons rfl (fun K hK => ?_) AllReadyH.nil
     go_simp
     have hE37 : But g wr (u36.alloc (svO (⟨sk,stb,snm,sco,sta,sva,sit,sjn,son,swh,sod,sds,(none,0,0)⟩ : Sv))) := hE36.alloc _
     have hp37 : Pk (u36.alloc (svO (⟨sk,stb,snm,sco,sta,sva,sit,sjn,son,swh,sod,sds,(none,0,0)⟩ : Sv))) g r36 := hp36.alloc _
     have hrS37 : RowIs eStmt (fun b => z < b) (u36.alloc (svO (⟨sk,stb,snm,sco,sta,sva,sit,sjn,son,swh,sod,sds,(none,0,0)⟩ : Sv))) (.slice (some ⟨u36.heap.size,0,none⟩) 1 1) [m] := row_onS (w := u36) (s := (⟨sk,stb,snm,sco,sta,sva,sit,sjn,son,swh,sod,sds,(none,0,0)⟩ : Sv)) (by have := hE36.size; show z < u36.heap.size; omega) ((hIs.mono fun b hb _ => hb.1).keep fun b hq hl => hE36.block b hl (by omega)) rfl
     have hoU := hoT.alloc (svO (⟨sk,stb,snm,sco,sta,sva,sit,sjn,son,swh,sod,sds,(none,0,0)⟩ : Sv))
     have HS37 : Hid _ := hid (HK.out _ hE37)
     generalize (u36.alloc (svO (⟨sk,stb,snm,sco,sta,sva,sit,sjn,son,swh,sod,sds,(none,0,0)⟩ : Sv))) = u37 at *
     generalize hgb : u36.heap.size = rb at hrS37 ⊢
     clear hgb
     refine hK.out _ _ (HS37.out) (fun hHeld => ?_)
     clear hK K
     (try simp only [Act.put,s1,s2,s3])
     refine tkH 6 ?tv75 rfl (by kernel_rfl) (by kernel_rfl) (by kernel_rfl) (fun _ _ _ h => h) (by rfl) ?hy75 hHeld ?rs75
     case hy75 => (intro w9 hSw; (try dsimp only at hSw); go_simp; (try with_reducible rfl))
     (try simp only [Act.put,s1,s2,s3])
     refine wpAnyH_ready (rs := [7]) (by kernel_rfl) (by simp) ?_
     refine AllReadyH.cons rfl (fun K hK => ?_) AllReadyH.nil
     have hrT := tags_row hoU (Nat.lt_succ_self z)
     have HKs : Hid _ := hid (HK.out u37 hE37)
     have hr9 : r36 ≤ r := by omega
     have hRf : Bs u37 z (zS 0) := hR3.but hE37 (by omega)
     have cR := hRf.cells
     have fR := hRf.free
     have hzlf := hRf.lt
     have d0 := cR.1
     have d1 := cR.2.1
     have d2 := cR.2.2.1
     have d3 := cR.2.2.2.1
     have d4 := cR.2.2.2.2.1
     have d5 := cR.2.2.2.2.2.1
     have d6 := cR.2.2.2.2.2.2.1
     have d7 := cR.2.2.2.2.2.2.2.1
     have d8 := cR.2.2.2.2.2.2.2.2.1
     have d9 := cR.2.2.2.2.2.2.2.2.2.1
     have d10 := cR.2.2.2.2.2.2.2.2.2.2.1
     have d11 := cR.2.2.2.2.2.2.2.2.2.2.2.1
     have d12 := cR.2.2.2.2.2.2.2.2.2.2.2.2
     have f0 := fR.1
     have f1 := fR.2.1
     have f2 := fR.2.2.1
     have f3 := fR.2.2.2.1
     have f4 := fR.2.2.2.2.1
     have f5 := fR.2.2.2.2.2.1
     have f6 := fR.2.2.2.2.2.2.1
     have f7 := fR.2.2.2.2.2.2.2.1
     have f8 := fR.2.2.2.2.2.2.2.2.1
     have f9 := fR.2.2.2.2.2.2.2.2.2.1
     have f10 := fR.2.2.2.2.2.2.2.2.2.2.1
     have f11 := fR.2.2.2.2.2.2.2.2.2.2.2.1
     have f12 := fR.2.2.2.2.2.2.2.2.2.2.2.2
     clear cR fR
     have T : Hid (TeSf g r w StOK (.returned (stV (⟨4,⟨#[]⟩,nm1,(none,0,0),(ta,tn,tc),(none,0,0),(none,0,0),⟨#[]⟩,(none,0,0),(none,0,0),(none,0,0),false,(some ⟨rb,0,none⟩,1,1)⟩ : Sv))) (set13 u37 z (⟨4,⟨#[]⟩,nm1,(none,0,0),(ta,tn,tc),(none,0,0),(none,0,0),⟨#[]⟩,(none,0,0),(none,0,0),(none,0,0),false,(some ⟨rb,0,none⟩,1,1)⟩ : Sv))) := hid (TeSf.fin (m := (⟨4,⟨#[]⟩,nm1,[],tl,[],[],⟨#[]⟩,[],[],[],false⟩,[m])) (hU3.trans hE37) { IsS.zero _ _ 4 with nm := rfl,ta := hrT } hrS37 (.inr (.inr (.inr (.inl ⟨nm1,tl,m,hnm,htg,hm,hk6,rfl⟩)))) hr9 hp37 hgl HX.out)
     clear hRf hrT hnm htg hm hU3 hR3 hIs HK
     unfold set13 at T
     unfold stV at T
     dsimp only at T
     go_simp
     refine hK.out _ _ ((by have h9 := HKs.out; have kp : ∀ i v,u37.cell? ⟨q,i,none⟩ = some v → (set13 u37 z (⟨4,⟨#[]⟩,nm1,(none,0,0),(ta,tn,tc),(none,0,0),(none,0,0),⟨#[]⟩,(none,0,0),(none,0,0),(none,0,0),false,(some ⟨rb,0,none⟩,1,1)⟩ : Sv)).cell? ⟨q,i,none⟩ = some v := (fun i v h => (World.cell?_of_block (a := ⟨q,i,none⟩) (set13_heap u37 z (⟨4,⟨#[]⟩,nm1,(none,0,0),(ta,tn,tc),(none,0,0),(none,0,0),⟨#[]⟩,(none,0,0),(none,0,0),(none,0,0),false,(some ⟨rb,0,none⟩,1,1)⟩ : Sv) (by show q ≠ z; omega))).trans h); exact ⟨kp _ _ h9.1,kp _ _ h9.2.1,kp _ _ h9.2.2.1,kp _ _ h9.2.2.2.1,kp _ _ h9.2.2.2.2.1,kp _ _ h9.2.2.2.2.2.1,kp _ _ h9.2.2.2.2.2.2.1,kp _ _ h9.2.2.2.2.2.2.2.1,kp _ _ h9.2.2.2.2.2.2.2.2.1,kp _ _ h9.2.2.2.2.2.2.2.2.2.1,kp _ _ h9.2.2.2.2.2.2.2.2.2.2.1,kp _ _ h9.2.2.2.2.2.2.2.2.2.2.2.1,kp _ _ h9.2.2.2.2.2.2.2.2.2.2.2.2⟩)) (fun hHeld => ?_)
     clear hK K
     (try simp only [Act.put,s1,s2,s3])
     refine wpAnyH_done (by kernel_rfl) ?_ _
     go_wp2
     refine bodyPost_ret (v := stV (⟨4,⟨#[]⟩,nm1,(none,0,0),(ta,tn,tc),(none,0,0),(none,0,0),⟨#[]⟩,(none,0,0),(none,0,0),(none,0,0),false,(some ⟨rb,0,none⟩,1,1)⟩ : Sv)) (by simp [results,Tryz.results19,go_sem,stV,d0,d1,d2,d3,d4,d5,d6,d7,d8,d9,d10,d11,d12]) rfl ?_
     exact T.out
    go_simp
    have hE38 : But g wr (u35.alloc (svO (⟨sk,stb,snm,sco,sta,sva,sit,sjn,son,swh,sod,sds,(none,0,0)⟩ : Sv))) := hE35.alloc _
    have hp38 : Pk (u35.alloc (svO (⟨sk,stb,snm,sco,sta,sva,sit,sjn,son,swh,sod,sds,(none,0,0)⟩ : Sv))) g r35 := hp35.alloc _
    have hrS38 : RowIs eStmt (fun b => z < b) (u35.alloc (svO (⟨sk,stb,snm,sco,sta,sva,sit,sjn,son,swh,sod,sds,(none,0,0)⟩ : Sv))) (.slice (some ⟨u35.heap.size,0,none⟩) 1 1) [m] := row_onS (w := u35) (s := (⟨sk,stb,snm,sco,sta,sva,sit,sjn,son,swh,sod,sds,(none,0,0)⟩ : Sv)) (by have := hE35.size; show z < u35.heap.size; omega) ((hIs.mono fun b hb _ => hb.1).keep fun b hq hl => hE35.block b hl (by omega)) rfl
    have HS38 : Hid _ := hid (HK.out _ hE38)
    generalize (u35.alloc (svO (⟨sk,stb,snm,sco,sta,sva,sit,sjn,son,swh,sod,sds,(none,0,0)⟩ : Sv))) = u38 at *
    generalize hgb : u35.heap.size = rb at hrS38 ⊢
    clear hgb
    refine hK.out _ _ (HS38.out) (fun hHeld => ?_)
    clear hK K
    (try simp only [Act.put,s1,s2,s3])
    refine wpAnyH_ready (rs := [3]) (by kernel_rfl) (by simp) ?_
    refine AllReadyH.cons rfl (fun K hK => ?_) AllReadyH.nil
    go_simp
    go_wp2_with (first | (go_at_call 41; refine Calls.mono (tags_any hp38) ?_; rintro e u39 ⟨ta,tn,tc,tl,r39,rfl,htg,ho39,hl39,hp39,hb39⟩))
    have hE39 : But g wr u39 := hE38.trans hb39
    have hoT := ho39.base (B' := z + 1) (by have := hE38.size; omega)
    have hrS39 := hrS38.keep (by decide) fun b hq hl => hb39.block b hl (by omega)
    refine hK.out _ _ (HK.out _ hE39) (fun hHeld => ?_)
    clear hK K
    (try simp only [Act.put,s1,s2,s3])
    refine tkH 6 ?tv76 rfl (by kernel_rfl) (by kernel_rfl) (by kernel_rfl) (fun _ _ _ h => h) (by rfl) ?hy76 hHeld ?rs76
    case hy76 => (intro w9 hSw; (try dsimp only at hSw); go_simp; (try with_reducible rfl))
    (try simp only [Act.put,s1,s2,s3])
    refine wpAnyH_ready (rs := [7]) (by kernel_rfl) (by simp) ?_
    refine AllReadyH.cons rfl (fun K hK => ?_) AllReadyH.nil
    have hrT := tags_row hoT (Nat.lt_succ_self z)
    have HKs : Hid _ := hid (HK.out u39 hE39)
    have hr9 : r39 ≤ r := by omega
    have hRf : Bs u39 z (zS 0) := hR3.but hE39 (by omega)
    have cR := hRf.cells
    have fR := hRf.free
    have hzlf := hRf.lt
    have d0 := cR.1
    have d1 := cR.2.1
    have d2 := cR.2.2.1
    have d3 := cR.2.2.2.1
    have d4 := cR.2.2.2.2.1
    have d5 := cR.2.2.2.2.2.1
    have d6 := cR.2.2.2.2.2.2.1
    have d7 := cR.2.2.2.2.2.2.2.1
    have d8 := cR.2.2.2.2.2.2.2.2.1
    have d9 := cR.2.2.2.2.2.2.2.2.2.1
    have d10 := cR.2.2.2.2.2.2.2.2.2.2.1
    have d11 := cR.2.2.2.2.2.2.2.2.2.2.2.1
    have d12 := cR.2.2.2.2.2.2.2.2.2.2.2.2
    have f0 := fR.1
    have f1 := fR.2.1
    have f2 := fR.2.2.1
    have f3 := fR.2.2.2.1
    have f4 := fR.2.2.2.2.1
    have f5 := fR.2.2.2.2.2.1
    have f6 := fR.2.2.2.2.2.2.1
    have f7 := fR.2.2.2.2.2.2.2.1
    have f8 := fR.2.2.2.2.2.2.2.2.1
    have f9 := fR.2.2.2.2.2.2.2.2.2.1
    have f10 := fR.2.2.2.2.2.2.2.2.2.2.1
    have f11 := fR.2.2.2.2.2.2.2.2.2.2.2.1
    have f12 := fR.2.2.2.2.2.2.2.2.2.2.2.2
    clear cR fR
    have T : Hid (TeSf g r w StOK (.returned (stV (⟨4,⟨#[]⟩,nm1,(none,0,0),(ta,tn,tc),(none,0,0),(none,0,0),⟨#[]⟩,(none,0,0),(none,0,0),(none,0,0),false,(some ⟨rb,0,none⟩,1,1)⟩ : Sv))) (set13 u39 z (⟨4,⟨#[]⟩,nm1,(none,0,0),(ta,tn,tc),(none,0,0),(none,0,0),⟨#[]⟩,(none,0,0),(none,0,0),(none,0,0),false,(some ⟨rb,0,none⟩,1,1)⟩ : Sv))) := hid (TeSf.fin (m := (⟨4,⟨#[]⟩,nm1,[],tl,[],[],⟨#[]⟩,[],[],[],false⟩,[m])) (hU3.trans hE39) { IsS.zero _ _ 4 with nm := rfl,ta := hrT } hrS39 (.inr (.inr (.inr (.inl ⟨nm1,tl,m,hnm,htg,hm,hk6,rfl⟩)))) hr9 hp39 hgl HX.out)
    clear hRf hrT hnm htg hm hU3 hR3 hIs HK
    unfold set13 at T
    unfold stV at T
    dsimp only at T
    go_simp
    refine hK.out _ _ ((by have h9 := HKs.out; have kp : ∀ i v,u39.cell? ⟨q,i,none⟩ = some v → (set13 u39 z (⟨4,⟨#[]⟩,nm1,(none,0,0),(ta,tn,tc),(none,0,0),(none,0,0),⟨#[]⟩,(none,0,0),(none,0,0),(none,0,0),false,(some ⟨rb,0,none⟩,1,1)⟩ : Sv)).cell? ⟨q,i,none⟩ = some v := (fun i v h => (World.cell?_of_block (a := ⟨q,i,none⟩) (set13_heap u39 z (⟨4,⟨#[]⟩,nm1,(none,0,0),(ta,tn,tc),(none,0,0),(none,0,0),⟨#[]⟩,(none,0,0),(none,0,0),(none,0,0),false,(some ⟨rb,0,none⟩,1,1)⟩ : Sv) (by show q ≠ z; omega))).trans h); exact ⟨kp _ _ h9.1,kp _ _ h9.2.1,kp _ _ h9.2.2.1,kp _ _ h9.2.2.2.1,kp _ _ h9.2.2.2.2.1,kp _ _ h9.2.2.2.2.2.1,kp _ _ h9.2.2.2.2.2.2.1,kp _ _ h9.2.2.2.2.2.2.2.1,kp _ _ h9.2.2.2.2.2.2.2.2.1,kp _ _ h9.2.2.2.2.2.2.2.2.2.1,kp _ _ h9.2.2.2.2.2.2.2.2.2.2.1,kp _ _ h9.2.2.2.2.2.2.2.2.2.2.2.1,kp _ _ h9.2.2.2.2.2.2.2.2.2.2.2.2⟩)) (fun hHeld => ?_)
    clear hK K
    (try simp only [Act.put,s1,s2,s3])
    refine wpAnyH_done (by kernel_rfl) ?_ _
    go_wp2
    refine bodyPost_ret (v := stV (⟨4,⟨#[]⟩,nm1,(none,0,0),(ta,tn,tc),(none,0,0),(none,0,0),⟨#[]⟩,(none,0,0),(none,0,0),(none,0,0),false,(some ⟨rb,0,none⟩,1,1)⟩ : Sv)) (by simp [results,Tryz.results19,go_sem,stV,d0,d1,d2,d3,d4,d5,d6,d7,d8,d9,d10,d11,d12]) rfl ?_
    exact T.out
   go_simp
   have hE40 : But g wr (wr.alloc (svO (⟨sk,stb,snm,sco,sta,sva,sit,sjn,son,swh,sod,sds,(none,0,0)⟩ : Sv))).drew := hD.alloc _
   have hp40 : Pk (wr.alloc (svO (⟨sk,stb,snm,sco,sta,sva,sit,sjn,son,swh,sod,sds,(none,0,0)⟩ : Sv))).drew g r3 := hpD.alloc _
   have hrS40 : RowIs eStmt (fun b => z < b) (wr.alloc (svO (⟨sk,stb,snm,sco,sta,sva,sit,sjn,son,swh,sod,sds,(none,0,0)⟩ : Sv))).drew (.slice (some ⟨wr.heap.size,0,none⟩) 1 1) [m] := row_onS (w := wr.drew) (s := (⟨sk,stb,snm,sco,sta,sva,sit,sjn,son,swh,sod,sds,(none,0,0)⟩ : Sv)) (by have := hD.size; show z < wr.drew.heap.size; omega) ((hIs.mono fun b hb _ => hb.1).keep fun b hq hl => hD.block b hl (by omega)) rfl
   have HS40 : Hid _ := hid (HK.out _ hE40)
   generalize (wr.alloc (svO (⟨sk,stb,snm,sco,sta,sva,sit,sjn,son,swh,sod,sds,(none,0,0)⟩ : Sv))).drew = u40 at *
   generalize hgb : wr.heap.size = rb at hrS40 ⊢
   clear hgb
   refine hK.out _ _ (HS40.out) (fun hHeld => ?_)
   clear hK K
   (try simp only [Act.put,s1,s2,s3])
   refine wpAnyH_ready (rs := [1]) (by kernel_rfl) (by simp) ?_
   refine AllReadyH.cons rfl (fun K hK => ?_) AllReadyH.nil
   go_simp
   go_wp2_with (first | (go_at_call 40; refine Calls.mono (view_any hp40) ?_; rintro e u41 ⟨nm1,r41,rfl,hnm,hl41,hp41,hb41⟩))
   have hE41 : But g wr u41 := hE40.trans hb41
   have hrS41 := hrS40.keep (by decide) fun b hq hl => hb41.block b hl (by omega)
   refine hK.out _ _ (HK.out _ hE41) (fun hHeld => ?_)
   clear hK K
   (try simp only [Act.put,s1,s2,s3])
   refine wpAnyH_ready (rs := [3]) (by kernel_rfl) (by simp) ?_
   refine AllReadyH.cons rfl (fun K hK => ?_) AllReadyH.nil
   go_simp
   go_wp2_with (first | (go_at_call 41; refine Calls.mono (tags_any hp41) ?_; rintro e u42 ⟨ta,tn,tc,tl,r42,rfl,htg,ho42,hl42,hp42,hb42⟩))
   have hE42 : But g wr u42 := hE41.trans hb42
   have hoT := ho42.base (B' := z + 1) (by have := hE41.size; omega)
   have hrS42 := hrS41.keep (by decide) fun b hq hl => hb42.block b hl (by omega)
   refine hK.out _ _ (HK.out _ hE42) (fun hHeld => ?_)
   clear hK K
   (try simp only [Act.put,s1,s2,s3])
   refine tkH 6 ?tv77 rfl (by kernel_rfl) (by kernel_rfl) (by kernel_rfl) (fun _ _ _ h => h) (by rfl) ?hy77 hHeld ?rs77
   case hy77 => (intro w9 hSw; (try dsimp only at hSw); go_simp; (try with_reducible rfl))
   (try simp only [Act.put,s1,s2,s3])
   refine wpAnyH_ready (rs := [7]) (by kernel_rfl) (by simp) ?_
   refine AllReadyH.cons rfl (fun K hK => ?_) AllReadyH.nil
   have hrT := tags_row hoT (Nat.lt_succ_self z)
   have HKs : Hid _ := hid (HK.out u42 hE42)
   have hr9 : r42 ≤ r := by omega
   have hRf : Bs u42 z (zS 0) := hR3.but hE42 (by omega)
   have cR := hRf.cells
   have fR := hRf.free
   have hzlf := hRf.lt
   have d0 := cR.1
   have d1 := cR.2.1
   have d2 := cR.2.2.1
   have d3 := cR.2.2.2.1
   have d4 := cR.2.2.2.2.1
   have d5 := cR.2.2.2.2.2.1
   have d6 := cR.2.2.2.2.2.2.1
   have d7 := cR.2.2.2.2.2.2.2.1
   have d8 := cR.2.2.2.2.2.2.2.2.1
   have d9 := cR.2.2.2.2.2.2.2.2.2.1
   have d10 := cR.2.2.2.2.2.2.2.2.2.2.1
   have d11 := cR.2.2.2.2.2.2.2.2.2.2.2.1
   have d12 := cR.2.2.2.2.2.2.2.2.2.2.2.2
   have f0 := fR.1
   have f1 := fR.2.1
   have f2 := fR.2.2.1
   have f3 := fR.2.2.2.1
   have f4 := fR.2.2.2.2.1
   have f5 := fR.2.2.2.2.2.1
   have f6 := fR.2.2.2.2.2.2.1
   have f7 := fR.2.2.2.2.2.2.2.1
   have f8 := fR.2.2.2.2.2.2.2.2.1
   have f9 := fR.2.2.2.2.2.2.2.2.2.1
   have f10 := fR.2.2.2.2.2.2.2.2.2.2.1
   have f11 := fR.2.2.2.2.2.2.2.2.2.2.2.1
   have f12 := fR.2.2.2.2.2.2.2.2.2.2.2.2
   clear cR fR
   have T : Hid (TeSf g r w StOK (.returned (stV (⟨4,⟨#[]⟩,nm1,(none,0,0),(ta,tn,tc),(none,0,0),(none,0,0),⟨#[]⟩,(none,0,0),(none,0,0),(none,0,0),false,(some ⟨rb,0,none⟩,1,1)⟩ : Sv))) (set13 u42 z (⟨4,⟨#[]⟩,nm1,(none,0,0),(ta,tn,tc),(none,0,0),(none,0,0),⟨#[]⟩,(none,0,0),(none,0,0),(none,0,0),false,(some ⟨rb,0,none⟩,1,1)⟩ : Sv))) := hid (TeSf.fin (m := (⟨4,⟨#[]⟩,nm1,[],tl,[],[],⟨#[]⟩,[],[],[],false⟩,[m])) (hU3.trans hE42) { IsS.zero _ _ 4 with nm := rfl,ta := hrT } hrS42 (.inr (.inr (.inr (.inl ⟨nm1,tl,m,hnm,htg,hm,hk6,rfl⟩)))) hr9 hp42 hgl HX.out)
   clear hRf hrT hnm htg hm hU3 hR3 hIs HK
   unfold set13 at T
   unfold stV at T
   dsimp only at T
   go_simp
   refine hK.out _ _ ((by have h9 := HKs.out; have kp : ∀ i v,u42.cell? ⟨q,i,none⟩ = some v → (set13 u42 z (⟨4,⟨#[]⟩,nm1,(none,0,0),(ta,tn,tc),(none,0,0),(none,0,0),⟨#[]⟩,(none,0,0),(none,0,0),(none,0,0),false,(some ⟨rb,0,none⟩,1,1)⟩ : Sv)).cell? ⟨q,i,none⟩ = some v := (fun i v h => (World.cell?_of_block (a := ⟨q,i,none⟩) (set13_heap u42 z (⟨4,⟨#[]⟩,nm1,(none,0,0),(ta,tn,tc),(none,0,0),(none,0,0),⟨#[]⟩,(none,0,0),(none,0,0),(none,0,0),false,(some ⟨rb,0,none⟩,1,1)⟩ : Sv) (by show q ≠ z; omega))).trans h); exact ⟨kp _ _ h9.1,kp _ _ h9.2.1,kp _ _ h9.2.2.1,kp _ _ h9.2.2.2.1,kp _ _ h9.2.2.2.2.1,kp _ _ h9.2.2.2.2.2.1,kp _ _ h9.2.2.2.2.2.2.1,kp _ _ h9.2.2.2.2.2.2.2.1,kp _ _ h9.2.2.2.2.2.2.2.2.1,kp _ _ h9.2.2.2.2.2.2.2.2.2.1,kp _ _ h9.2.2.2.2.2.2.2.2.2.2.1,kp _ _ h9.2.2.2.2.2.2.2.2.2.2.2.1,kp _ _ h9.2.2.2.2.2.2.2.2.2.2.2.2⟩)) (fun hHeld => ?_)
   clear hK K
   (try simp only [Act.put,s1,s2,s3])
   refine wpAnyH_done (by kernel_rfl) ?_ _
   go_wp2
   refine bodyPost_ret (v := stV (⟨4,⟨#[]⟩,nm1,(none,0,0),(ta,tn,tc),(none,0,0),(none,0,0),⟨#[]⟩,(none,0,0),(none,0,0),(none,0,0),false,(some ⟨rb,0,none⟩,1,1)⟩ : Sv)) (by simp [results,Tryz.results19,go_sem,stV,d0,d1,d2,d3,d4,d5,d6,d7,d8,d9,d10,d11,d12]) rfl ?_
   exact T.out

end Go.Proofs.YtljmlacnfnmjbaaGreat
namespace Go.Proofs.YtljmlacnfnmjbaaGreat
open Go.RowKit
set_option linter.unusedVariables false
set_option linter.unusedSimpArgs false

set_option maxRecDepth 100000 in
set_option maxHeartbeats 20000000 in
theorem playStmt_4 {g r : Nat} {w : World} (h : Pk w g r) (hk : nxP (w.alloc zSt) g 14 = 4) : Calls Tryz.prog 19 #[.pointer (some ⟨g,0,none⟩)] w (TeSf g r w StOK) := by
 have hgl := h.lt
 have hR0 : Bs (w.alloc zSt) w.heap.size (zS 0) := Bs.new w (zS 0)
 have hU0 : But g w (w.alloc zSt) := (But.refl g w).alloc _
 have hp0 := h.alloc zSt
 have HN : Hid _ := hid (num_exact hp0 14 (by decide) (by decide))
 clear h
 go_enter Tryz.func19,Tryz.ntmps19
 go_wp2_with fail
 refine Calls.mono HN.out ?_
 rintro e w2 ⟨r2,rfl,hk14,hl,hp2,hb2⟩
 generalize nxP (w.alloc zSt) g 14 = k at *
 have hU2 := hU0.trans hb2
 have hR2 := hR0.but hb2 (by omega)
 have hl2 := hl.1
 have HX : Hid (w.heap.size = w.heap.size) := hid rfl
 clear HN hU0 hR0 hp0 hb2 hl
 generalize hzz : w.heap.size = z at hR2 hgl HX ⊢
 replace HX : Hid (z = w.heap.size) := hid hzz.symm
 clear hzz
 have hzl2 := hR2.lt
 subst hk
 have g0 : (((4 : Nat) : Int) == 0) = false := by decide
 have g1 : (((4 : Nat) : Int) == 1) = false := by decide
 have g2 : (((4 : Nat) : Int) == 2) = false := by decide
 have g3 : (((4 : Nat) : Int) == 3) = false := by decide
 have HN : Hid _ := hid (num_any hp2 3 (by decide) (by decide))
 go_wp2_with fail
 refine Calls.mono HN.out ?_
 rintro e u ⟨k2,r3,rfl,hk2,hl3,hp3,hE⟩
 have hw9 : IntKind.i64.wrap (9 + (k2 : Int)) = 9 + (k2 : Int) := by rw [IntKind.wrap_i64]; omega
 have hRf : Bs u z (zS 0) := hR2.but hE (by omega)
 have cR := hRf.cells
 have fR := hRf.free
 have hzlf := hRf.lt
 have d0 := cR.1
 have d1 := cR.2.1
 have d2 := cR.2.2.1
 have d3 := cR.2.2.2.1
 have d4 := cR.2.2.2.2.1
 have d5 := cR.2.2.2.2.2.1
 have d6 := cR.2.2.2.2.2.2.1
 have d7 := cR.2.2.2.2.2.2.2.1
 have d8 := cR.2.2.2.2.2.2.2.2.1
 have d9 := cR.2.2.2.2.2.2.2.2.2.1
 have d10 := cR.2.2.2.2.2.2.2.2.2.2.1
 have d11 := cR.2.2.2.2.2.2.2.2.2.2.2.1
 have d12 := cR.2.2.2.2.2.2.2.2.2.2.2.2
 have f0 := fR.1
 have f1 := fR.2.1
 have f2 := fR.2.2.1
 have f3 := fR.2.2.2.1
 have f4 := fR.2.2.2.2.1
 have f5 := fR.2.2.2.2.2.1
 have f6 := fR.2.2.2.2.2.2.1
 have f7 := fR.2.2.2.2.2.2.2.1
 have f8 := fR.2.2.2.2.2.2.2.2.1
 have f9 := fR.2.2.2.2.2.2.2.2.2.1
 have f10 := fR.2.2.2.2.2.2.2.2.2.2.1
 have f11 := fR.2.2.2.2.2.2.2.2.2.2.2.1
 have f12 := fR.2.2.2.2.2.2.2.2.2.2.2.2
 clear cR fR
 have T : Hid (TeSf g r w StOK (.returned (stV (⟨9 + (k2 : Int),⟨#[]⟩,⟨#[]⟩,(none,0,0),(none,0,0),(none,0,0),(none,0,0),⟨#[]⟩,(none,0,0),(none,0,0),(none,0,0),false,(none,0,0)⟩ : Sv))) (set13 u z (⟨9 + (k2 : Int),⟨#[]⟩,⟨#[]⟩,(none,0,0),(none,0,0),(none,0,0),(none,0,0),⟨#[]⟩,(none,0,0),(none,0,0),(none,0,0),false,(none,0,0)⟩ : Sv))) := hid (TeSf.fin (m := (sm (9 + (k2 : Int)),[])) (hU2.trans hE) (IsS.zero _ _ (9 + (k2 : Int))) (RowIs.nil _ _ _) (.inr (.inr (.inr (.inr (.inl ⟨9 + (k2 : Int),by omega,rfl⟩))))) (Nat.le_trans hl3.1 hl2) hp3 hgl HX.out)
 clear hRf HN hE hp3 hp2 hU2 hR2 g0 g1 g2 g3
 unfold set13 at T
 unfold stV at T
 dsimp only at T
 go_wp2
 refine bodyPost_ret (v := stV (⟨9 + (k2 : Int),⟨#[]⟩,⟨#[]⟩,(none,0,0),(none,0,0),(none,0,0),(none,0,0),⟨#[]⟩,(none,0,0),(none,0,0),(none,0,0),false,(none,0,0)⟩ : Sv)) (by simp [results,Tryz.results19,go_sem,stV,d0,d1,d2,d3,d4,d5,d6,d7,d8,d9,d10,d11,d12]) rfl ?_
 exact T.out

end Go.Proofs.YtljmlacnfnmjbaaGreat
namespace Go.Proofs.YtljmlacnfnmjbaaGreat
open Go.RowKit
set_option linter.unusedVariables false
set_option linter.unusedSimpArgs false

set_option maxRecDepth 100000 in
set_option maxHeartbeats 20000000 in
theorem playStmt_5 {g r : Nat} {w : World} (h : Pk w g r) (hk : nxP (w.alloc zSt) g 14 = 5) : Calls Tryz.prog 19 #[.pointer (some ⟨g,0,none⟩)] w (TeSf g r w StOK) := by
 have hgl := h.lt
 have hR0 : Bs (w.alloc zSt) w.heap.size (zS 0) := Bs.new w (zS 0)
 have hU0 : But g w (w.alloc zSt) := (But.refl g w).alloc _
 have hp0 := h.alloc zSt
 have HN : Hid _ := hid (num_exact hp0 14 (by decide) (by decide))
 clear h
 go_enter Tryz.func19,Tryz.ntmps19
 go_wp2_with fail
 refine Calls.mono HN.out ?_
 rintro e w2 ⟨r2,rfl,hk14,hl,hp2,hb2⟩
 generalize nxP (w.alloc zSt) g 14 = k at *
 have hU2 := hU0.trans hb2
 have hR2 := hR0.but hb2 (by omega)
 have hl2 := hl.1
 have HX : Hid (w.heap.size = w.heap.size) := hid rfl
 clear HN hU0 hR0 hp0 hb2 hl
 generalize hzz : w.heap.size = z at hR2 hgl HX ⊢
 replace HX : Hid (z = w.heap.size) := hid hzz.symm
 clear hzz
 have hzl2 := hR2.lt
 subst hk
 have g0 : (((5 : Nat) : Int) == 0) = false := by decide
 have g1 : (((5 : Nat) : Int) == 1) = false := by decide
 have g2 : (((5 : Nat) : Int) == 2) = false := by decide
 have g3 : (((5 : Nat) : Int) == 3) = false := by decide
 have g4 : (((5 : Nat) : Int) == 4) = false := by decide
 have HN : Hid _ := hid (num_any hp2 3 (by decide) (by decide))
 go_wp2_with fail
 refine Calls.mono HN.out ?_
 rintro e u ⟨k2,r3,rfl,hk2,hl3,hp3,hE⟩
 have hw9 : IntKind.i64.wrap (1 + (k2 : Int)) = 1 + (k2 : Int) := by rw [IntKind.wrap_i64]; omega
 have hw : IntKind.u16.wrap (1 + (k2 : Int)) = 1 + (k2 : Int) := by
  show (if (false && decide ((1 + (k2 : Int)) % (2 ^ 16 : Int) ≥ (2 ^ (16 - 1) : Int))) = true then (1 + (k2 : Int)) % (2 ^ 16 : Int) - (2 ^ 16 : Int) else (1 + (k2 : Int)) % (2 ^ 16 : Int)) = _
  rw [if_neg (by simp)]
  omega
 have ho0 : OwnR 91 1 (z + 1) (u.alloc (.cells #[.int .u16 (1 + (k2 : Int))] 91)) (.slice (some ⟨u.heap.size,0,none⟩) 1 1) [[.int .u16 (1 + (k2 : Int))]] := OwnR.lit 91 1 (z + 1) u [.int .u16 (1 + (k2 : Int))] rfl (by have := hE.size; omega)
 have hE2 : But g w2 (u.alloc (.cells #[.int .u16 (1 + (k2 : Int))] 91)) := hE.alloc _
 have HT : Hid _ := hid (tags_any (hp3.alloc (.cells #[.int .u16 (1 + (k2 : Int))] 91)))
 have hsE := hE.size
 clear HN hp3 hE hp2
 go_wp2_with fail
 refine Calls.mono HT.out ?_
 rintro e u2 ⟨ta,tn,tc,tl,r4,rfl,htg,ho1,hl4,hp4,hE4⟩
 have ho2 := ho0.but hE4 (by omega)
 have ho3 := ho1.base (B' := z + 1) (by rw [World.size_alloc]; omega)
 have hE5 := hE2.trans hE4
 have hs5 := hE5.size
 have hlen : u.heap.size + 1 ≤ u2.heap.size := by have := hE4.size; rw [World.size_alloc] at this; exact this
 clear HT ho0 ho1 hE2 hE4
 generalize u.heap.size = rb at *
 go_wp2_with (first | (at_builtin; refine wpList_appM Tryz.underlying40 Tryz.infoTTag rfl (by decide) (by decide) rfl (.tmp 118) (.tmp 120) rfl rb 1 1 _ [[.int .u16 (1 + (k2 : Int))]] (tl.map fun z => [.int .u16 z]) rfl rfl ho2 ho3 (by intro v hv; rw [List.mem_flatten] at hv; obtain ⟨c,hc,hv⟩ := hv; rw [List.mem_map] at hc; obtain ⟨z9,_,rfl⟩ := hc; rw [List.mem_singleton] at hv; subst hv; rfl) (by have := htg.1; simp; omega) (by omega) ?_) | fail)
 intro v' w6 hO6 hg6
 have hE6 : But g w2 w6 := ⟨hg6.os.trans hE5.os,hg6.tape.trans hE5.tape,hg6.output.trans hE5.output,Nat.le_trans hs5 hg6.size,fun j hj hne => (hg6.block j (by omega) (by omega)).trans (hE5.block j hj hne)⟩
 have hp6 : Pk w6 g r4 := hp4.keep hg6.size fun j hj => hg6.block j (by have := hp4.lt; omega) (by omega)
 have ho7 : OwnR 91 1 (z + 1) w6 v' ((((1 + (k2 : Int)) :: tl)).map fun z => [.int .u16 z]) := hO6
 have hrt := tags_row ho7 (Nat.lt_succ_self z)
 obtain ⟨va,vn,vc,rfl⟩ := ho7.sl
 have hzz : ∀ y ∈ (1 + (k2 : Int)) :: tl,1 ≤ y ∧ y ≤ 3 := fun y hy => by
  rcases List.mem_cons.1 hy with rfl | hy
  ·omega
  ·exact htg.2 y hy
 have hln : ((1 + (k2 : Int)) :: tl).length ≤ 3 := by have := htg.1; simp; omega
 have hRf : Bs w6 z (zS 0) := hR2.but hE6 (by omega)
 have cR := hRf.cells
 have fR := hRf.free
 have hzlf := hRf.lt
 have d0 := cR.1
 have d1 := cR.2.1
 have d2 := cR.2.2.1
 have d3 := cR.2.2.2.1
 have d4 := cR.2.2.2.2.1
 have d5 := cR.2.2.2.2.2.1
 have d6 := cR.2.2.2.2.2.2.1
 have d7 := cR.2.2.2.2.2.2.2.1
 have d8 := cR.2.2.2.2.2.2.2.2.1
 have d9 := cR.2.2.2.2.2.2.2.2.2.1
 have d10 := cR.2.2.2.2.2.2.2.2.2.2.1
 have d11 := cR.2.2.2.2.2.2.2.2.2.2.2.1
 have d12 := cR.2.2.2.2.2.2.2.2.2.2.2.2
 have f0 := fR.1
 have f1 := fR.2.1
 have f2 := fR.2.2.1
 have f3 := fR.2.2.2.1
 have f4 := fR.2.2.2.2.1
 have f5 := fR.2.2.2.2.2.1
 have f6 := fR.2.2.2.2.2.2.1
 have f7 := fR.2.2.2.2.2.2.2.1
 have f8 := fR.2.2.2.2.2.2.2.2.1
 have f9 := fR.2.2.2.2.2.2.2.2.2.1
 have f10 := fR.2.2.2.2.2.2.2.2.2.2.1
 have f11 := fR.2.2.2.2.2.2.2.2.2.2.2.1
 have f12 := fR.2.2.2.2.2.2.2.2.2.2.2.2
 clear cR fR
 have T : Hid (TeSf g r w StOK (.returned (stV (⟨12,⟨#[]⟩,⟨#[]⟩,(none,0,0),(va,vn,vc),(none,0,0),(none,0,0),⟨#[]⟩,(none,0,0),(none,0,0),(none,0,0),false,(none,0,0)⟩ : Sv))) (set13 w6 z (⟨12,⟨#[]⟩,⟨#[]⟩,(none,0,0),(va,vn,vc),(none,0,0),(none,0,0),⟨#[]⟩,(none,0,0),(none,0,0),(none,0,0),false,(none,0,0)⟩ : Sv))) := hid (TeSf.fin (m := (⟨12,⟨#[]⟩,⟨#[]⟩,[],(1 + (k2 : Int)) :: tl,[],[],⟨#[]⟩,[],[],[],false⟩,[])) (hU2.trans hE6) { IsS.zero _ _ 12 with ta := hrt } (RowIs.nil _ _ _) (.inr (.inr (.inr (.inr (.inr (.inl ⟨_,by simp,hln,hzz,rfl⟩)))))) (by have := hl3.1; omega) hp6 hgl HX.out)
 clear hRf hE6 hE5 hp6 hp4 hU2 hR2 hrt ho7 hO6 hg6 ho2 ho3 htg hzz hln g0 g1 g2 g3 g4
 unfold set13 at T
 unfold stV at T
 dsimp only at T
 go_wp2
 refine bodyPost_ret (v := stV (⟨12,⟨#[]⟩,⟨#[]⟩,(none,0,0),(va,vn,vc),(none,0,0),(none,0,0),⟨#[]⟩,(none,0,0),(none,0,0),(none,0,0),false,(none,0,0)⟩ : Sv)) (by simp [results,Tryz.results19,go_sem,stV,d0,d1,d2,d3,d4,d5,d6,d7,d8,d9,d10,d11,d12]) rfl ?_
 exact T.out

end Go.Proofs.YtljmlacnfnmjbaaGreat
namespace Go.Proofs.YtljmlacnfnmjbaaGreat
open Go.RowKit

theorem playStmt_any {g r : Nat} {w : World} (h : Pk w g r) : Calls Tryz.prog 19 #[.pointer (some ⟨g,0,none⟩)] w (TeSf g r w StOK) := by
 by_cases h0 : nxP (w.alloc zSt) g 14 = 0
 ·exact playStmt_0 h h0
 by_cases h1 : nxP (w.alloc zSt) g 14 = 1
 ·exact playStmt_1 h h1
 by_cases h2 : nxP (w.alloc zSt) g 14 = 2
 ·exact playStmt_2 h h2
 by_cases h3 : nxP (w.alloc zSt) g 14 = 3
 ·exact playStmt_3 h h3
 by_cases h4 : nxP (w.alloc zSt) g 14 = 4
 ·exact playStmt_4 h h4
 by_cases h5 : nxP (w.alloc zSt) g 14 = 5
 ·exact playStmt_5 h h5
 by_cases h6 : nxP (w.alloc zSt) g 14 = 6
 ·exact playStmt_6 h h6
 exact playStmt_7 h (by omega)

end Go.Proofs.YtljmlacnfnmjbaaGreat
