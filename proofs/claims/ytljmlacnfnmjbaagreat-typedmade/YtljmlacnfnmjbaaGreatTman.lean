import Derived.Test.YtljmlacnfnmjbaaGreatTmak
import Derived.Test.YtljmlacnfnmjbaaGreatTmac
import Derived.Test.YtljmlacnfnmjbaaGreatTmaj
import Derived.Test.YtljmlacnfnmjbaaGreatTmau
import Derived.Deep.RegionHeld3
namespace Go.Proofs.YtljmlacnfnmjbaaGreat
open Go.RowKit
set_option linter.unusedVariables false
set_option linter.unusedSimpArgs false

set_option maxRecDepth 100000 in
set_option maxHeartbeats 20000000 in
theorem playStmt_2 {g r : Nat} {w : World} (h : Pk w g r) (hk : nxP (w.alloc zSt) g 14 = 2) : Calls Tryz.prog 19 #[.pointer (some ⟨g,0,none⟩)] w (TeSf g r w StOK) := by
 have hgl := h.lt
 have hR0 : Bs (w.alloc zSt) w.heap.size (zS 0) := Bs.new w (zS 0)
 have hU0 : But g w (w.alloc zSt) := (But.refl g w).alloc _
 have hp0 := h.alloc zSt
 have HN : Hid _ := hid (num_exact hp0 14 (by decide) (by decide))
 clear h
 go_enter Tryz.func19,Tryz.ntmps19
 go_wp2_with fail
 refine Calls.mono HN.out ?_
 rintro e w2 ⟨r2,rfl,hk14,hl,hp2,hb2⟩
 generalize nxP (w.alloc zSt) g 14 = k at *
 have hU2 := hU0.trans hb2
 have hR2 := hR0.but hb2 (by omega)
 have hl2 := hl.1
 have HX : Hid (w.heap.size = w.heap.size) := hid rfl
 clear HN hU0 hR0 hp0 hb2 hl
 generalize hzz : w.heap.size = z at hR2 hgl HX ⊢
 replace HX : Hid (z = w.heap.size) := hid hzz.symm
 clear hzz
 have hzl2 := hR2.lt
 subst hk
 have g0 : (((2 : Nat) : Int) == 0) = false := by decide
 have g1 : (((2 : Nat) : Int) == 1) = false := by decide
 have HSc : Hid _ := hid (schema_any w2)
 go_upto_region 15 with fail
 go_cut [6] (fun v6 w' => ∃ y bt,v6 = .pointer (some ⟨y,0,none⟩) ∧ Blk w' y (scO bt) ∧ RowIs eTab (fun b => b ≠ g ∧ z < b) w' (.slice (some ⟨bt,0,none⟩) 2 2) [tabT,tabU] ∧ w2.heap.size ≤ y ∧ Below w2.heap.size w2 w')
 case first =>
  go_wp2_with fail
  refine Calls.mono HSc.out ?_
  rintro e w3 ⟨bt,rfl,hT,hbt,hb3⟩
  have hb4 := bal (Below.refl _ w3) (scO bt)
  have hgl2 := hp2.lt
  have T : Hid _ := hid (And.intro (Blk.new w3 (scO bt)) (And.intro ((hT.mono (by decide) (Q' := fun b => b ≠ g ∧ z < b) fun b hb _ => by omega).keep (by decide) fun b _ hl => hb4.block b hl) (And.intro hb3.size (Below.on hb3 hb4))))
  clear HSc hT hb3 hb4
  go_wp2_with fail
  go_meet
  exact ⟨_,bt,rfl,T.out.1,T.out.2.1,T.out.2.2.1,T.out.2.2.2⟩
 case rest =>
 obtain ⟨y,bt,rfl,hY,hT,hyz,hb3⟩ := hcut
 have hE3 : But g w2 wc := But.of hb3
 have hp3 := hp2.later hb3
 have hU3 := hU2.trans hE3
 have hR3 := hR2.later hb3
 have hzl3 := hR3.lt
 have hyl3 := hY.lt
 have hgl2 := hp2.lt
 clear HSc hb3 hE3 hp2 hU2 hR2
 have hD : But g wc wc.drew := But.of (Below.refl _ wc).drew
 have hpD := hp3.later (Below.refl _ wc).drew
 have HT : Hid (∀ w',But g wc w' → RowIs eTab (fun b => b ≠ g) w' (.slice (some ⟨bt,0,none⟩) 2 2) [tabT,tabU]) := hid fun w' hb => (hT.mono (by decide) fun b hq _ => hq.1).keep (by decide) fun b hq hl => hb.block b hl hq
 have hTT := (HT.out wc (But.refl g wc)).tabs
 have hbz : bt ≠ z := Nat.ne_of_gt (hT.inb (k := 0) (by decide)).2
 obtain ⟨hbt,hbg,-,⟨x1,y1,z1,x1',y1',z1',t0,t1,t2,rT⟩,⟨x2,y2,z2,x2',y2',z2',u0,u1,u2,rU⟩⟩ := hTT
 have HK : Hid (∀ w',But g wc w' → w'.cell? ⟨y,0,none⟩ = some (.slice (some ⟨bt,0,none⟩) 2 2) ∧ w'.cell? ⟨y,1,none⟩ = some (.slice none 0 0) ∧ w'.cell? ⟨bt,0,none⟩ = some (.string ⟨#[116]⟩) ∧ w'.cell? ⟨bt,1,none⟩ = some (.slice x1 y1 z1) ∧ w'.cell? ⟨bt,2,none⟩ = some (.slice x1' y1' z1') ∧ w'.cell? ⟨bt,3,none⟩ = some (.string ⟨#[117]⟩) ∧ w'.cell? ⟨bt,4,none⟩ = some (.slice x2 y2 z2) ∧ w'.cell? ⟨bt,5,none⟩ = some (.slice x2' y2' z2')) := hid fun w' hb => by
  have kp : ∀ i v,wc.cell? ⟨bt,i,none⟩ = some v → w'.cell? ⟨bt,i,none⟩ = some v := fun i v h => (World.cell?_of_block (a := ⟨bt,i,none⟩) (hb.block bt hbt hbg)).trans h
  exact ⟨(hY.but hb (by omega)).cell 0,(hY.but hb (by omega)).cell 1,kp _ _ t0,kp _ _ t1,kp _ _ t2,kp _ _ u0,kp _ _ u1,kp _ _ u2⟩
 have HRT : Hid (∀ w',But g wc w' → RowIs eCol (fun b => b ≠ g) w' (.slice x1 y1 z1) tabT.2 ∧ RowIs eCol (fun b => b ≠ g) w' (.slice x2 y2 z2) tabU.2) := hid fun w' hb => ⟨rT.keep (by decide) fun b hq hl => hb.block b hl hq,rU.keep (by decide) fun b hq hl => hb.block b hl hq⟩
 clear hT hY t0 t1 t2 u0 u1 u2 rT rU hp3 g0 g1
 go_upto_region 16 with fail
 refine wp_region_held_drew (S := (fun w' => w'.cell? ⟨y,0,none⟩ = some (.slice (some ⟨bt,0,none⟩) 2 2) ∧ w'.cell? ⟨y,1,none⟩ = some (.slice none 0 0) ∧ w'.cell? ⟨bt,0,none⟩ = some (.string ⟨#[116]⟩) ∧ w'.cell? ⟨bt,1,none⟩ = some (.slice x1 y1 z1) ∧ w'.cell? ⟨bt,2,none⟩ = some (.slice x1' y1' z1') ∧ w'.cell? ⟨bt,3,none⟩ = some (.string ⟨#[117]⟩) ∧ w'.cell? ⟨bt,4,none⟩ = some (.slice x2 y2 z2) ∧ w'.cell? ⟨bt,5,none⟩ = some (.slice x2' y2' z2'))) (by kernel_rfl) (HK.out _ hD) (fun hHeld => ?_)
 refine wpAnyH_take (i := 0) (v := ?tv1) rfl (by kernel_rfl) (by kernel_rfl) (by kernel_rfl) (fun _ _ _ h => h) (Or.inl ⟨by rfl,?hy1⟩) (by assumption) ?rs1
 case hy1 => (intro w9 hSw; (try dsimp only at hSw); go_simp; (try with_reducible rfl))
 (try simp only [Act.put,List.setIfInBounds_toArray,List.set_cons_zero,List.set_cons_succ])
 refine wpAnyH_take (i := 2) (v := ?tv2) rfl (by kernel_rfl) (by kernel_rfl) (by kernel_rfl) (fun _ _ _ h => h) (Or.inl ⟨by rfl,?hy2⟩) (by assumption) ?rs2
 case hy2 => (intro w9 hSw; (try dsimp only at hSw); go_simp; (try with_reducible rfl))
 (try simp only [Act.put,List.setIfInBounds_toArray,List.set_cons_zero,List.set_cons_succ])
 refine wpAnyH_take (i := 4) (v := ?tv3) rfl (by kernel_rfl) (by kernel_rfl) (by kernel_rfl) (fun _ _ _ h => h) (Or.inl ⟨by rfl,?hy3⟩) (by assumption) ?rs3
 case hy3 => (intro w9 hSw; (try dsimp only at hSw); go_simp; (try with_reducible rfl))
 (try simp only [Act.put,List.setIfInBounds_toArray,List.set_cons_zero,List.set_cons_succ])
 refine wpAnyH_take (i := 5) (v := ?tv4) rfl (by kernel_rfl) (by kernel_rfl) (by kernel_rfl) (fun _ _ _ h => h) (Or.inl ⟨by rfl,?hy4⟩) (by assumption) ?rs4
 case hy4 => (intro w9 hSw; (try dsimp only at hSw); go_simp; (try with_reducible rfl))
 (try simp only [Act.put,List.setIfInBounds_toArray,List.set_cons_zero,List.set_cons_succ])
 refine wpAnyH_take (i := 6) (v := ?tv5) rfl (by kernel_rfl) (by kernel_rfl) (by kernel_rfl) (fun _ _ _ h => h) (Or.inl ⟨by rfl,?hy5⟩) (by assumption) ?rs5
 case hy5 => (intro w9 hSw; (try dsimp only at hSw); go_simp; (try with_reducible rfl))
 (try simp only [Act.put,List.setIfInBounds_toArray,List.set_cons_zero,List.set_cons_succ])
 refine wpAnyH_take (i := 7) (v := ?tv6) rfl (by kernel_rfl) (by kernel_rfl) (by kernel_rfl) (fun _ _ _ h => h) (Or.inl ⟨by rfl,?hy6⟩) (by assumption) ?rs6
 case hy6 => (intro w9 hSw; (try dsimp only at hSw); go_simp; (try with_reducible rfl))
 (try simp only [Act.put,List.setIfInBounds_toArray,List.set_cons_zero,List.set_cons_succ])
 refine wpAnyH_take (i := 8) (v := ?tv7) rfl (by kernel_rfl) (by kernel_rfl) (by kernel_rfl) (fun _ _ _ h => h) (Or.inl ⟨by rfl,?hy7⟩) (by assumption) ?rs7
 case hy7 => (intro w9 hSw; (try dsimp only at hSw); go_simp; (try with_reducible rfl))
 (try simp only [Act.put,List.setIfInBounds_toArray,List.set_cons_zero,List.set_cons_succ])
 refine wpAnyH_ready (rs := [1]) (by kernel_rfl) (by simp) ?_
 refine AllReadyH.cons rfl (fun K hK => ?_) AllReadyH.nil
 go_simp
 go_wp2_with (first | (go_at_call 40; refine Calls.mono (view_any hpD) ?_; rintro e v1 ⟨nm1,r3,rfl,hnm,hl3,hp3,hb3⟩))
 have hE1 : But g wc v1 := hD.trans hb3
 refine hK.out _ _ (HK.out _ hE1) (fun hHeld => ?_)
 clear hK K
 (try simp only [Act.put,List.setIfInBounds_toArray,List.set_cons_zero,List.set_cons_succ])
 refine wpAnyH_ready (rs := [3]) (by kernel_rfl) (by simp) ?_
 refine AllReadyH.cons rfl (fun K hK => ?_) AllReadyH.nil
 go_simp
 go_wp2_with (first | (go_at_call 41; refine Calls.mono (tags_any hp3) ?_; rintro e v2 ⟨ta,tn,tc,tl,r4,rfl,htg,ho1,hl4,hp4,hb4⟩))
 have hE2 : But g wc v2 := hE1.trans hb4
 refine hK.out _ _ (HK.out _ hE2) (fun hHeld => ?_)
 clear hK K
 (try simp only [Act.put,List.setIfInBounds_toArray,List.set_cons_zero,List.set_cons_succ])
 refine wpAnyH_ready (rs := [9]) (by kernel_rfl) (by simp) ?_
 refine AllReadyH.cons rfl (fun K hK => ?_) AllReadyH.nil
 go_simp
 go_wp2_with (first | (go_at_call 39; refine Calls.mono (num_any hp4 2 (by decide) (by decide)) ?_; rintro e v3 ⟨k3,r5,rfl,hk3,hl5,hp5,hb5⟩))
 have hE3 : But g wc v3 := hE2.trans hb5
 have ho2 := ho1.but hb5 (by have := hE1.size; omega)
 rcases (show k3 = 0 ∨ k3 = 1 by omega) with rfl | rfl
 ·refine hK.out _ _ (HK.out _ hE3) (fun hHeld => ?_)
  clear hK K
  (try simp only [Act.put,List.setIfInBounds_toArray,List.set_cons_zero,List.set_cons_succ])
  refine wpAnyH_take (i := 10) (v := ?tv8) rfl (by kernel_rfl) (by kernel_rfl) (by kernel_rfl) (fun _ _ _ h => h) (Or.inl ⟨by rfl,?hy8⟩) (by assumption) ?rs8
  case hy8 => (intro w9 hSw; (try dsimp only at hSw); go_simp; (try with_reducible rfl))
  (try simp only [Act.put,List.setIfInBounds_toArray,List.set_cons_zero,List.set_cons_succ])
  refine wpAnyH_take (i := 11) (v := ?tv9) rfl (by kernel_rfl) (by kernel_rfl) (by kernel_rfl) (fun _ _ _ h => h) (Or.inl ⟨by rfl,?hy9⟩) (by assumption) ?rs9
  case hy9 => (intro w9 hSw; (try dsimp only at hSw); go_simp; (try with_reducible rfl))
  (try simp only [Act.put,List.setIfInBounds_toArray,List.set_cons_zero,List.set_cons_succ])
  refine wpAnyH_ready (rs := [12]) (by kernel_rfl) (by simp) ?_
  refine AllReadyH.cons rfl (fun K hK => ?_) AllReadyH.nil
  go_simp
  go_wp2_with (first | (go_at_call 42; refine Calls.mono (playSel_any (tb := tabT) (va := none) (vn := 0) (vc := 0) (a' := x1') (n' := y1') (c' := z1') hp5 (HT.out _ hE3) (.inl rfl) (HRT.out _ hE3).1) ?_; rintro e v4 ⟨s,m,r6,rfl,hm,hl6,hp6,hb6,hI,hinn⟩))
  have hE4 : But g wc v4 := hE3.trans hb6
  have ho3 := ho2.but hb6 (by have := hE1.size; omega)
  obtain ⟨sk,stb,snm,sco,sta,sva,sit,sjn,son,swh,sod,sds,sinn⟩ := s
  replace hinn : sinn = (none,0,0) := hinn
  subst hinn
  unfold stV
  dsimp only
  refine hK.out _ _ (HK.out _ hE4) (fun hHeld => ?_)
  clear hK K
  (try simp only [Act.put,List.setIfInBounds_toArray,List.set_cons_zero,List.set_cons_succ])
  refine wpAnyH_ready (rs := [13]) (by kernel_rfl) (by simp) ?_
  refine AllReadyH.cons rfl (fun K hK => ?_) AllReadyH.nil
  go_simp
  refine hK.out _ _ (HK.out _ (hE4.alloc (svO (⟨sk,stb,snm,sco,sta,sva,sit,sjn,son,swh,sod,sds,(none,0,0)⟩ : Sv)))) (fun hHeld => ?_)
  clear hK K
  (try simp only [Act.put,List.setIfInBounds_toArray,List.set_cons_zero,List.set_cons_succ])
  refine wpAnyH_take (i := 14) (v := ?tv10) rfl (by kernel_rfl) (by kernel_rfl) (by kernel_rfl) (fun _ _ _ h => h) (Or.inl ⟨by rfl,?hy10⟩) (by assumption) ?rs10
  case hy10 => (intro w9 hSw; (try dsimp only at hSw); go_simp; (try with_reducible rfl))
  (try simp only [Act.put,List.setIfInBounds_toArray,List.set_cons_zero,List.set_cons_succ])
  refine wpAnyH_ready (rs := [15]) (by kernel_rfl) (by simp) ?_
  refine AllReadyH.cons rfl (fun K hK => ?_) AllReadyH.nil
  have hs4 := hE4.size
  have hs3 := hE3.size
  have hs1 := hE1.size
  have hs2 := hE2.size
  have hE5 : But g wc (v4.alloc (svO (⟨sk,stb,snm,sco,sta,sva,sit,sjn,son,swh,sod,sds,(none,0,0)⟩ : Sv))) := hE4.alloc _
  have hrS : RowIs eStmt (fun b => z < b) (v4.alloc (svO (⟨sk,stb,snm,sco,sta,sva,sit,sjn,son,swh,sod,sds,(none,0,0)⟩ : Sv))) (.slice (some ⟨v4.heap.size,0,none⟩) 1 1) [m] := row_onS (s := (⟨sk,stb,snm,sco,sta,sva,sit,sjn,son,swh,sod,sds,(none,0,0)⟩ : Sv)) (by omega) (hI.mono fun b hb _ => by have h9 : v3.heap.size ≤ b := hb; omega) rfl
  have hrT : RowIs eTag (fun b => z < b) (v4.alloc (svO (⟨sk,stb,snm,sco,sta,sva,sit,sjn,son,swh,sod,sds,(none,0,0)⟩ : Sv))) (.slice ta tn tc) tl := tags_row (ho3.alloc (svO (⟨sk,stb,snm,sco,sta,sva,sit,sjn,son,swh,sod,sds,(none,0,0)⟩ : Sv))) (by omega)
  have hp7 : Pk (v4.alloc (svO (⟨sk,stb,snm,sco,sta,sva,sit,sjn,son,swh,sod,sds,(none,0,0)⟩ : Sv))) g r6 := hp6.alloc _
  have hr6 : r6 ≤ r := by have := hl5.1; have := hl6.1; omega
  clear ho1 ho2 ho3 hI hp3 hp4 hp5 hp6 hb3 hb4 hb5 hb6 hE4 hpD hD HRT
  generalize v4.alloc (svO (⟨sk,stb,snm,sco,sta,sva,sit,sjn,son,swh,sod,sds,(none,0,0)⟩ : Sv)) = V at *
  generalize v4.heap.size = rb at *
  have hRf : Bs V z (zS 0) := hR3.but hE5 (by omega)
  have cR := hRf.cells
  have fR := hRf.free
  have hzlf := hRf.lt
  have d0 := cR.1
  have d1 := cR.2.1
  have d2 := cR.2.2.1
  have d3 := cR.2.2.2.1
  have d4 := cR.2.2.2.2.1
  have d5 := cR.2.2.2.2.2.1
  have d6 := cR.2.2.2.2.2.2.1
  have d7 := cR.2.2.2.2.2.2.2.1
  have d8 := cR.2.2.2.2.2.2.2.2.1
  have d9 := cR.2.2.2.2.2.2.2.2.2.1
  have d10 := cR.2.2.2.2.2.2.2.2.2.2.1
  have d11 := cR.2.2.2.2.2.2.2.2.2.2.2.1
  have d12 := cR.2.2.2.2.2.2.2.2.2.2.2.2
  have f0 := fR.1
  have f1 := fR.2.1
  have f2 := fR.2.2.1
  have f3 := fR.2.2.2.1
  have f4 := fR.2.2.2.2.1
  have f5 := fR.2.2.2.2.2.1
  have f6 := fR.2.2.2.2.2.2.1
  have f7 := fR.2.2.2.2.2.2.2.1
  have f8 := fR.2.2.2.2.2.2.2.2.1
  have f9 := fR.2.2.2.2.2.2.2.2.2.1
  have f10 := fR.2.2.2.2.2.2.2.2.2.2.1
  have f11 := fR.2.2.2.2.2.2.2.2.2.2.2.1
  have f12 := fR.2.2.2.2.2.2.2.2.2.2.2.2
  clear cR fR
  have T : Hid (TeSf g r w StOK (.returned (stV (⟨3,⟨#[]⟩,nm1,(none,0,0),(ta,tn,tc),(none,0,0),(none,0,0),⟨#[]⟩,(none,0,0),(none,0,0),(none,0,0),false,(some ⟨rb,0,none⟩,1,1)⟩ : Sv))) (set13 V z (⟨3,⟨#[]⟩,nm1,(none,0,0),(ta,tn,tc),(none,0,0),(none,0,0),⟨#[]⟩,(none,0,0),(none,0,0),(none,0,0),false,(some ⟨rb,0,none⟩,1,1)⟩ : Sv))) := hid (TeSf.fin (m := (⟨3,⟨#[]⟩,nm1,[],tl,[],[],⟨#[]⟩,[],[],[],false⟩,[m])) (hU3.trans hE5) { IsS.zero _ _ 3 with nm := rfl,ta := hrT } hrS (.inr (.inr (.inl ⟨nm1,tl,m,tabT,hnm,htg,.inl rfl,hm,rfl⟩))) hr6 hp7 hgl HX.out)
  clear hRf hrS hrT hp7 hnm htg hm hU3 hR3
  unfold set13 at T
  unfold stV at T
  dsimp only at T
  have HKs : Hid _ := hid (HK.out V hE5)
  clear HT
  go_simp
  refine hK.out _ _ ((by have h9 := HKs.out; have kp : ∀ b i v,b ≠ z → V.cell? ⟨b,i,none⟩ = some v → (set13 V z (⟨3,⟨#[]⟩,nm1,(none,0,0),(ta,tn,tc),(none,0,0),(none,0,0),⟨#[]⟩,(none,0,0),(none,0,0),(none,0,0),false,(some ⟨rb,0,none⟩,1,1)⟩ : Sv)).cell? ⟨b,i,none⟩ = some v := (fun b i v hb h => (World.cell?_of_block (a := ⟨b,i,none⟩) (set13_heap V z (⟨3,⟨#[]⟩,nm1,(none,0,0),(ta,tn,tc),(none,0,0),(none,0,0),⟨#[]⟩,(none,0,0),(none,0,0),(none,0,0),false,(some ⟨rb,0,none⟩,1,1)⟩ : Sv) hb)).trans h); exact ⟨kp _ _ _ (by omega) h9.1,kp _ _ _ (by omega) h9.2.1,kp _ _ _ hbz h9.2.2.1,kp _ _ _ hbz h9.2.2.2.1,kp _ _ _ hbz h9.2.2.2.2.1,kp _ _ _ hbz h9.2.2.2.2.2.1,kp _ _ _ hbz h9.2.2.2.2.2.2.1,kp _ _ _ hbz h9.2.2.2.2.2.2.2⟩)) (fun hHeld => ?_)
  clear hK K
  (try simp only [Act.put,List.setIfInBounds_toArray,List.set_cons_zero,List.set_cons_succ])
  refine wpAnyH_done (by kernel_rfl) ?_ _
  go_wp2
  refine bodyPost_ret (v := stV (⟨3,⟨#[]⟩,nm1,(none,0,0),(ta,tn,tc),(none,0,0),(none,0,0),⟨#[]⟩,(none,0,0),(none,0,0),(none,0,0),false,(some ⟨rb,0,none⟩,1,1)⟩ : Sv)) (by simp [results,Tryz.results19,go_sem,stV,d0,d1,d2,d3,d4,d5,d6,d7,d8,d9,d10,d11,d12]) rfl ?_
  exact T.out
 ·refine hK.out _ _ (HK.out _ hE3) (fun hHeld => ?_)
  clear hK K
  (try simp only [Act.put,List.setIfInBounds_toArray,List.set_cons_zero,List.set_cons_succ])
  refine wpAnyH_take (i := 10) (v := ?tv11) rfl (by kernel_rfl) (by kernel_rfl) (by kernel_rfl) (fun _ _ _ h => h) (Or.inl ⟨by rfl,?hy11⟩) (by assumption) ?rs11
  case hy11 => (intro w9 hSw; (try dsimp only at hSw); go_simp; (try with_reducible rfl))
  (try simp only [Act.put,List.setIfInBounds_toArray,List.set_cons_zero,List.set_cons_succ])
  refine wpAnyH_take (i := 11) (v := ?tv12) rfl (by kernel_rfl) (by kernel_rfl) (by kernel_rfl) (fun _ _ _ h => h) (Or.inl ⟨by rfl,?hy12⟩) (by assumption) ?rs12
  case hy12 => (intro w9 hSw; (try dsimp only at hSw); go_simp; (try with_reducible rfl))
  (try simp only [Act.put,List.setIfInBounds_toArray,List.set_cons_zero,List.set_cons_succ])
  refine wpAnyH_ready (rs := [12]) (by kernel_rfl) (by simp) ?_
  refine AllReadyH.cons rfl (fun K hK => ?_) AllReadyH.nil
  go_simp
  go_wp2_with (first | (go_at_call 42; refine Calls.mono (playSel_any (tb := tabU) (va := none) (vn := 0) (vc := 0) (a' := x2') (n' := y2') (c' := z2') hp5 (HT.out _ hE3) (.inr rfl) (HRT.out _ hE3).2) ?_; rintro e v4 ⟨s,m,r6,rfl,hm,hl6,hp6,hb6,hI,hinn⟩))
  have hE4 : But g wc v4 := hE3.trans hb6
  have ho3 := ho2.but hb6 (by have := hE1.size; omega)
  obtain ⟨sk,stb,snm,sco,sta,sva,sit,sjn,son,swh,sod,sds,sinn⟩ := s
  replace hinn : sinn = (none,0,0) := hinn
  subst hinn
  unfold stV
  dsimp only
  refine hK.out _ _ (HK.out _ hE4) (fun hHeld => ?_)
  clear hK K
  (try simp only [Act.put,List.setIfInBounds_toArray,List.set_cons_zero,List.set_cons_succ])
  refine wpAnyH_ready (rs := [13]) (by kernel_rfl) (by simp) ?_
  refine AllReadyH.cons rfl (fun K hK => ?_) AllReadyH.nil
  go_simp
  refine hK.out _ _ (HK.out _ (hE4.alloc (svO (⟨sk,stb,snm,sco,sta,sva,sit,sjn,son,swh,sod,sds,(none,0,0)⟩ : Sv)))) (fun hHeld => ?_)
  clear hK K
  (try simp only [Act.put,List.setIfInBounds_toArray,List.set_cons_zero,List.set_cons_succ])
  refine wpAnyH_take (i := 14) (v := ?tv13) rfl (by kernel_rfl) (by kernel_rfl) (by kernel_rfl) (fun _ _ _ h => h) (Or.inl ⟨by rfl,?hy13⟩) (by assumption) ?rs13
  case hy13 => (intro w9 hSw; (try dsimp only at hSw); go_simp; (try with_reducible rfl))
  (try simp only [Act.put,List.setIfInBounds_toArray,List.set_cons_zero,List.set_cons_succ])
  refine wpAnyH_ready (rs := [15]) (by kernel_rfl) (by simp) ?_
  refine AllReadyH.cons rfl (fun K hK => ?_) AllReadyH.nil
  have hs4 := hE4.size
  have hs3 := hE3.size
  have hs1 := hE1.size
  have hs2 := hE2.size
  have hE5 : But g wc (v4.alloc (svO (⟨sk,stb,snm,sco,sta,sva,sit,sjn,son,swh,sod,sds,(none,0,0)⟩ : Sv))) := hE4.alloc _
  have hrS : RowIs eStmt (fun b => z < b) (v4.alloc (svO (⟨sk,stb,snm,sco,sta,sva,sit,sjn,son,swh,sod,sds,(none,0,0)⟩ : Sv))) (.slice (some ⟨v4.heap.size,0,none⟩) 1 1) [m] := row_onS (s := (⟨sk,stb,snm,sco,sta,sva,sit,sjn,son,swh,sod,sds,(none,0,0)⟩ : Sv)) (by omega) (hI.mono fun b hb _ => by have h9 : v3.heap.size ≤ b := hb; omega) rfl
  have hrT : RowIs eTag (fun b => z < b) (v4.alloc (svO (⟨sk,stb,snm,sco,sta,sva,sit,sjn,son,swh,sod,sds,(none,0,0)⟩ : Sv))) (.slice ta tn tc) tl := tags_row (ho3.alloc (svO (⟨sk,stb,snm,sco,sta,sva,sit,sjn,son,swh,sod,sds,(none,0,0)⟩ : Sv))) (by omega)
  have hp7 : Pk (v4.alloc (svO (⟨sk,stb,snm,sco,sta,sva,sit,sjn,son,swh,sod,sds,(none,0,0)⟩ : Sv))) g r6 := hp6.alloc _
  have hr6 : r6 ≤ r := by have := hl5.1; have := hl6.1; omega
  clear ho1 ho2 ho3 hI hp3 hp4 hp5 hp6 hb3 hb4 hb5 hb6 hE4 hpD hD HRT
  generalize v4.alloc (svO (⟨sk,stb,snm,sco,sta,sva,sit,sjn,son,swh,sod,sds,(none,0,0)⟩ : Sv)) = V at *
  generalize v4.heap.size = rb at *
  have hRf : Bs V z (zS 0) := hR3.but hE5 (by omega)
  have cR := hRf.cells
  have fR := hRf.free
  have hzlf := hRf.lt
  have d0 := cR.1
  have d1 := cR.2.1
  have d2 := cR.2.2.1
  have d3 := cR.2.2.2.1
  have d4 := cR.2.2.2.2.1
  have d5 := cR.2.2.2.2.2.1
  have d6 := cR.2.2.2.2.2.2.1
  have d7 := cR.2.2.2.2.2.2.2.1
  have d8 := cR.2.2.2.2.2.2.2.2.1
  have d9 := cR.2.2.2.2.2.2.2.2.2.1
  have d10 := cR.2.2.2.2.2.2.2.2.2.2.1
  have d11 := cR.2.2.2.2.2.2.2.2.2.2.2.1
  have d12 := cR.2.2.2.2.2.2.2.2.2.2.2.2
  have f0 := fR.1
  have f1 := fR.2.1
  have f2 := fR.2.2.1
  have f3 := fR.2.2.2.1
  have f4 := fR.2.2.2.2.1
  have f5 := fR.2.2.2.2.2.1
  have f6 := fR.2.2.2.2.2.2.1
  have f7 := fR.2.2.2.2.2.2.2.1
  have f8 := fR.2.2.2.2.2.2.2.2.1
  have f9 := fR.2.2.2.2.2.2.2.2.2.1
  have f10 := fR.2.2.2.2.2.2.2.2.2.2.1
  have f11 := fR.2.2.2.2.2.2.2.2.2.2.2.1
  have f12 := fR.2.2.2.2.2.2.2.2.2.2.2.2
  clear cR fR
  have T : Hid (TeSf g r w StOK (.returned (stV (⟨3,⟨#[]⟩,nm1,(none,0,0),(ta,tn,tc),(none,0,0),(none,0,0),⟨#[]⟩,(none,0,0),(none,0,0),(none,0,0),false,(some ⟨rb,0,none⟩,1,1)⟩ : Sv))) (set13 V z (⟨3,⟨#[]⟩,nm1,(none,0,0),(ta,tn,tc),(none,0,0),(none,0,0),⟨#[]⟩,(none,0,0),(none,0,0),(none,0,0),false,(some ⟨rb,0,none⟩,1,1)⟩ : Sv))) := hid (TeSf.fin (m := (⟨3,⟨#[]⟩,nm1,[],tl,[],[],⟨#[]⟩,[],[],[],false⟩,[m])) (hU3.trans hE5) { IsS.zero _ _ 3 with nm := rfl,ta := hrT } hrS (.inr (.inr (.inl ⟨nm1,tl,m,tabU,hnm,htg,.inr rfl,hm,rfl⟩))) hr6 hp7 hgl HX.out)
  clear hRf hrS hrT hp7 hnm htg hm hU3 hR3
  unfold set13 at T
  unfold stV at T
  dsimp only at T
  have HKs : Hid _ := hid (HK.out V hE5)
  clear HT
  go_simp
  refine hK.out _ _ ((by have h9 := HKs.out; have kp : ∀ b i v,b ≠ z → V.cell? ⟨b,i,none⟩ = some v → (set13 V z (⟨3,⟨#[]⟩,nm1,(none,0,0),(ta,tn,tc),(none,0,0),(none,0,0),⟨#[]⟩,(none,0,0),(none,0,0),(none,0,0),false,(some ⟨rb,0,none⟩,1,1)⟩ : Sv)).cell? ⟨b,i,none⟩ = some v := (fun b i v hb h => (World.cell?_of_block (a := ⟨b,i,none⟩) (set13_heap V z (⟨3,⟨#[]⟩,nm1,(none,0,0),(ta,tn,tc),(none,0,0),(none,0,0),⟨#[]⟩,(none,0,0),(none,0,0),(none,0,0),false,(some ⟨rb,0,none⟩,1,1)⟩ : Sv) hb)).trans h); exact ⟨kp _ _ _ (by omega) h9.1,kp _ _ _ (by omega) h9.2.1,kp _ _ _ hbz h9.2.2.1,kp _ _ _ hbz h9.2.2.2.1,kp _ _ _ hbz h9.2.2.2.2.1,kp _ _ _ hbz h9.2.2.2.2.2.1,kp _ _ _ hbz h9.2.2.2.2.2.2.1,kp _ _ _ hbz h9.2.2.2.2.2.2.2⟩)) (fun hHeld => ?_)
  clear hK K
  (try simp only [Act.put,List.setIfInBounds_toArray,List.set_cons_zero,List.set_cons_succ])
  refine wpAnyH_done (by kernel_rfl) ?_ _
  go_wp2
  refine bodyPost_ret (v := stV (⟨3,⟨#[]⟩,nm1,(none,0,0),(ta,tn,tc),(none,0,0),(none,0,0),⟨#[]⟩,(none,0,0),(none,0,0),(none,0,0),false,(some ⟨rb,0,none⟩,1,1)⟩ : Sv)) (by simp [results,Tryz.results19,go_sem,stV,d0,d1,d2,d3,d4,d5,d6,d7,d8,d9,d10,d11,d12]) rfl ?_
  exact T.out

end Go.Proofs.YtljmlacnfnmjbaaGreat
namespace Go.Proofs.YtljmlacnfnmjbaaGreat
open Go.RowKit
set_option linter.unusedVariables false
set_option linter.unusedSimpArgs false

set_option maxRecDepth 100000 in
set_option maxHeartbeats 20000000 in
theorem playStmt_6 {g r : Nat} {w : World} (h : Pk w g r) (hk : nxP (w.alloc zSt) g 14 = 6) : Calls Tryz.prog 19 #[.pointer (some ⟨g,0,none⟩)] w (TeSf g r w StOK) := by
 have hgl := h.lt
 have hR0 : Bs (w.alloc zSt) w.heap.size (zS 0) := Bs.new w (zS 0)
 have hU0 : But g w (w.alloc zSt) := (But.refl g w).alloc _
 have hp0 := h.alloc zSt
 have HN : Hid _ := hid (num_exact hp0 14 (by decide) (by decide))
 clear h
 go_enter Tryz.func19,Tryz.ntmps19
 go_wp2_with fail
 refine Calls.mono HN.out ?_
 rintro e w2 ⟨r2,rfl,hk14,hl,hp2,hb2⟩
 generalize nxP (w.alloc zSt) g 14 = k at *
 have hU2 := hU0.trans hb2
 have hR2 := hR0.but hb2 (by omega)
 have hl2 := hl.1
 have HX : Hid (w.heap.size = w.heap.size) := hid rfl
 clear HN hU0 hR0 hp0 hb2 hl
 generalize hzz : w.heap.size = z at hR2 hgl HX ⊢
 replace HX : Hid (z = w.heap.size) := hid hzz.symm
 clear hzz
 have hzl2 := hR2.lt
 subst hk
 have g0 : (((6 : Nat) : Int) == 0) = false := by decide
 have g1 : (((6 : Nat) : Int) == 1) = false := by decide
 have g2 : (((6 : Nat) : Int) == 2) = false := by decide
 have g3 : (((6 : Nat) : Int) == 3) = false := by decide
 have g4 : (((6 : Nat) : Int) == 4) = false := by decide
 have g5 : (((6 : Nat) : Int) == 5) = false := by decide
 have HV : Hid _ := hid (view_any hp2)
 go_wp2_with fail
 refine Calls.mono HV.out ?_
 rintro e u ⟨nm1,r3,rfl,hnm,hl3,hp3,hE⟩
 have hRf : Bs u z (zS 0) := hR2.but hE (by omega)
 have cR := hRf.cells
 have fR := hRf.free
 have hzlf := hRf.lt
 have d0 := cR.1
 have d1 := cR.2.1
 have d2 := cR.2.2.1
 have d3 := cR.2.2.2.1
 have d4 := cR.2.2.2.2.1
 have d5 := cR.2.2.2.2.2.1
 have d6 := cR.2.2.2.2.2.2.1
 have d7 := cR.2.2.2.2.2.2.2.1
 have d8 := cR.2.2.2.2.2.2.2.2.1
 have d9 := cR.2.2.2.2.2.2.2.2.2.1
 have d10 := cR.2.2.2.2.2.2.2.2.2.2.1
 have d11 := cR.2.2.2.2.2.2.2.2.2.2.2.1
 have d12 := cR.2.2.2.2.2.2.2.2.2.2.2.2
 have f0 := fR.1
 have f1 := fR.2.1
 have f2 := fR.2.2.1
 have f3 := fR.2.2.2.1
 have f4 := fR.2.2.2.2.1
 have f5 := fR.2.2.2.2.2.1
 have f6 := fR.2.2.2.2.2.2.1
 have f7 := fR.2.2.2.2.2.2.2.1
 have f8 := fR.2.2.2.2.2.2.2.2.1
 have f9 := fR.2.2.2.2.2.2.2.2.2.1
 have f10 := fR.2.2.2.2.2.2.2.2.2.2.1
 have f11 := fR.2.2.2.2.2.2.2.2.2.2.2.1
 have f12 := fR.2.2.2.2.2.2.2.2.2.2.2.2
 clear cR fR
 have T : Hid (TeSf g r w StOK (.returned (stV (⟨13,⟨#[]⟩,nm1,(none,0,0),(none,0,0),(none,0,0),(none,0,0),⟨#[]⟩,(none,0,0),(none,0,0),(none,0,0),false,(none,0,0)⟩ : Sv))) (set13 u z (⟨13,⟨#[]⟩,nm1,(none,0,0),(none,0,0),(none,0,0),(none,0,0),⟨#[]⟩,(none,0,0),(none,0,0),(none,0,0),false,(none,0,0)⟩ : Sv))) := hid (TeSf.fin (m := (⟨13,⟨#[]⟩,nm1,[],[],[],[],⟨#[]⟩,[],[],[],false⟩,[])) (hU2.trans hE) { IsS.zero _ _ 13 with nm := rfl } (RowIs.nil _ _ _) (.inr (.inr (.inr (.inr (.inr (.inr (.inl ⟨nm1,hnm,rfl⟩))))))) (Nat.le_trans hl3 hl2) hp3 hgl HX.out)
 clear hRf HV hE hp3 hp2 hU2 hR2 hnm g0 g1 g2 g3 g4 g5
 unfold set13 at T
 unfold stV at T
 dsimp only at T
 go_wp2
 refine bodyPost_ret (v := stV (⟨13,⟨#[]⟩,nm1,(none,0,0),(none,0,0),(none,0,0),(none,0,0),⟨#[]⟩,(none,0,0),(none,0,0),(none,0,0),false,(none,0,0)⟩ : Sv)) (by simp [results,Tryz.results19,go_sem,stV,d0,d1,d2,d3,d4,d5,d6,d7,d8,d9,d10,d11,d12]) rfl ?_
 exact T.out

end Go.Proofs.YtljmlacnfnmjbaaGreat
namespace Go.Proofs.YtljmlacnfnmjbaaGreat
open Go.RowKit
set_option linter.unusedVariables false
set_option linter.unusedSimpArgs false

set_option maxRecDepth 100000 in
set_option maxHeartbeats 20000000 in
theorem playStmt_7 {g r : Nat} {w : World} (h : Pk w g r) (hk : 7 ≤ nxP (w.alloc zSt) g 14) : Calls Tryz.prog 19 #[.pointer (some ⟨g,0,none⟩)] w (TeSf g r w StOK) := by
 have hgl := h.lt
 have hR0 : Bs (w.alloc zSt) w.heap.size (zS 0) := Bs.new w (zS 0)
 have hU0 : But g w (w.alloc zSt) := (But.refl g w).alloc _
 have hp0 := h.alloc zSt
 have HN : Hid _ := hid (num_exact hp0 14 (by decide) (by decide))
 clear h
 go_enter Tryz.func19,Tryz.ntmps19
 go_wp2_with fail
 refine Calls.mono HN.out ?_
 rintro e w2 ⟨r2,rfl,hk14,hl,hp2,hb2⟩
 generalize nxP (w.alloc zSt) g 14 = k at *
 have hU2 := hU0.trans hb2
 have hR2 := hR0.but hb2 (by omega)
 have hl2 := hl.1
 have HX : Hid (w.heap.size = w.heap.size) := hid rfl
 clear HN hU0 hR0 hp0 hb2 hl
 generalize hzz : w.heap.size = z at hR2 hgl HX ⊢
 replace HX : Hid (z = w.heap.size) := hid hzz.symm
 clear hzz
 have hzl2 := hR2.lt
 have g0 : ((k : Int) == 0) = false := by simp; omega
 have g1 : ((k : Int) == 1) = false := by simp; omega
 have g2 : ((k : Int) == 2) = false := by simp; omega
 have g3 : ((k : Int) == 3) = false := by simp; omega
 have g4 : ((k : Int) == 4) = false := by simp; omega
 have g5 : ((k : Int) == 5) = false := by simp; omega
 have g6 : ((k : Int) == 6) = false := by simp; omega
 have HD : Hid _ := hid (playData_any hp2)
 go_wp2_with fail
 refine Calls.mono HD.out ?_
 rintro e u ⟨s,m,r3,rfl,hm,hl3,hp3,hE,hI,hinn⟩
 obtain ⟨sk,stb,snm,sco,sta,sva,sit,sjn,son,swh,sod,sds,sinn⟩ := s
 replace hinn : sinn = (none,0,0) := hinn
 subst hinn
 have hRf : Bs u z (zS 0) := hR2.but hE (by omega)
 have cR := hRf.cells
 have fR := hRf.free
 have hzlf := hRf.lt
 have d0 := cR.1
 have d1 := cR.2.1
 have d2 := cR.2.2.1
 have d3 := cR.2.2.2.1
 have d4 := cR.2.2.2.2.1
 have d5 := cR.2.2.2.2.2.1
 have d6 := cR.2.2.2.2.2.2.1
 have d7 := cR.2.2.2.2.2.2.2.1
 have d8 := cR.2.2.2.2.2.2.2.2.1
 have d9 := cR.2.2.2.2.2.2.2.2.2.1
 have d10 := cR.2.2.2.2.2.2.2.2.2.2.1
 have d11 := cR.2.2.2.2.2.2.2.2.2.2.2.1
 have d12 := cR.2.2.2.2.2.2.2.2.2.2.2.2
 have f0 := fR.1
 have f1 := fR.2.1
 have f2 := fR.2.2.1
 have f3 := fR.2.2.2.1
 have f4 := fR.2.2.2.2.1
 have f5 := fR.2.2.2.2.2.1
 have f6 := fR.2.2.2.2.2.2.1
 have f7 := fR.2.2.2.2.2.2.2.1
 have f8 := fR.2.2.2.2.2.2.2.2.1
 have f9 := fR.2.2.2.2.2.2.2.2.2.1
 have f10 := fR.2.2.2.2.2.2.2.2.2.2.1
 have f11 := fR.2.2.2.2.2.2.2.2.2.2.2.1
 have f12 := fR.2.2.2.2.2.2.2.2.2.2.2.2
 clear cR fR
 have T : Hid (TeSf g r w StOK (.returned (stV (⟨sk,stb,snm,sco,sta,sva,sit,sjn,son,swh,sod,sds,(none,0,0)⟩ : Sv))) (set13 u z (⟨sk,stb,snm,sco,sta,sva,sit,sjn,son,swh,sod,sds,(none,0,0)⟩ : Sv))) := hid (TeSf.fin (m := (m,[])) (hU2.trans hE) (hI.mono fun b hb _ => by omega) (RowIs.nil _ _ _) (.inr (.inr (.inr (.inr (.inr (.inr (.inr ⟨m,hm,rfl⟩))))))) (Nat.le_trans hl3.1 hl2) hp3 hgl HX.out)
 clear hRf HD hE hp3 hp2 hU2 hR2 hm hI g0 g1 g2 g3 g4 g5 g6
 unfold set13 at T
 unfold stV at T
 dsimp only at T
 unfold stV
 dsimp only
 go_wp2
 refine bodyPost_ret (v := stV (⟨sk,stb,snm,sco,sta,sva,sit,sjn,son,swh,sod,sds,(none,0,0)⟩ : Sv)) (by simp [results,Tryz.results19,go_sem,stV,d0,d1,d2,d3,d4,d5,d6,d7,d8,d9,d10,d11,d12]) rfl ?_
 exact T.out

end Go.Proofs.YtljmlacnfnmjbaaGreat
namespace Go.Proofs.YtljmlacnfnmjbaaGreat
open Go.RowKit
set_option linter.unusedVariables false
set_option linter.unusedSimpArgs false

def fitsP (S : List Cl3) (x : Pg × Tg) (k : Int) : Int := if (kdT S x).2 = 0 ∧ (kdT S x).1 ≠ k then 11 else (kdT S x).2
def whP (S : List Cl3) (l : List (Pg × Tg)) : Int := erL (l.map fun x => fitsP S x 3)
def orderKP (S : List Cl3) (l : List (Pg × Tg)) : Int := erL (l.map fun x => (kdT S x).2)
def onCP (S : List Cl3) (l : List (Pg × Tg)) : Int := if orderKP S l = 0 ∧ alikeP (l.map fun x => (kdT S x).1) = false then 11 else orderKP S l
def itmP (S : List Cl3) (t : It) : Int :=
 if t.1 = 1 then (if t.2.2 = ⟨#[]⟩ then 0 else 1)
 else if t.1 = 0 ∨ t.1 = 2 ∨ t.1 = 3 ∨ t.1 = 4 then (if (clmK S t.2.1 t.2.2).2 = 0 ∧ t.1 = 2 ∧ (clmK S t.2.1 t.2.2).1 = 2 then 11 else (clmK S t.2.1 t.2.2).2) else 1
def foldP (t : It) : Bool := t.1 != 0
def itmsP (S : List Cl3) (l : List It) (o : Nat) : Int :=
 if erL (l.map (itmP S)) ≠ 0 then erL (l.map (itmP S))
 else if 0 < (l.filter foldP).length ∧ ((l.filter foldP).length < l.length ∨ 0 < o) then 11 else 0
def colP1 (x : Pg × Tg) : Bool := decide (x.1.1 = 2) && decide ((toL x.2).length = 0)

set_option maxRecDepth 100000 in
set_option maxHeartbeats 4000000 in
theorem isColT_any (x : Pg × Tg) {Q : Nat → Prop} {w : World} {cs : List Value} (hx : eG.E Q w x cs) : Calls Tryz.prog 57 #[.agg cs.toArray] w fun en w' => en = .returned (.bool (colP1 x)) ∧ Below w.heap.size w w' := by
 obtain ⟨ea,en,ec,rfl,hn,h1,h2,-⟩ := hx
 simp only [exC]
 have hw := bal (Below.refl w.heap.size w) (.cells #[.int .i64 x.1.1,.int .i64 x.1.2.1,.int .i64 x.1.2.2.1,.string x.1.2.2.2.1,.string x.1.2.2.2.2.1,.string x.1.2.2.2.2.2,.slice ea en ec] 28)
 have HT : Hid (colP1 x = (decide (x.1.1 = 2) && decide ((toL x.2).length = 0))) := hid rfl
 generalize colP1 x = T at *
 obtain ⟨⟨op,k1,k2,k3,k4,k5⟩,f⟩ := x
 dsimp only at *
 subst hn
 by_cases h : op = 2
 ·subst h
  have HT2 : Hid (T = decide ((toL f).length = 0)) := hid (by rw [HT.out]; simp)
  clear HT
  go_enter Tryz.func57,Tryz.ntmps57
  go_wp2
  go_ret
  refine ⟨ret_bool ?_,hw⟩
  rw [HT2.out,Bool.eq_iff_iff]
  simp
 ·have HT2 : Hid (T = false) := hid (by rw [HT.out]; simp [h])
  have g : decide (op = 2) = false := by simpa using h
  clear HT
  go_enter Tryz.func57,Tryz.ntmps57
  go_wp2
  go_ret
  exact ⟨ret_bool HT2.out.symm,hw⟩
set_option maxRecDepth 100000 in
theorem isColT_such (w : World) : SuchZ eG colP1 w (.func (.func 57) #[] #[]) :=
 ⟨57,#[],rfl,fun args w' => by rfl,fun x Q cs w' _ hx => isColT_any x hx⟩
set_option maxRecDepth 100000 in
set_option maxHeartbeats 4000000 in
theorem isFolded_any (x : It) (w : World) : Calls Tryz.prog 92 #[.agg #[.int .i64 x.1,.string x.2.1,.string x.2.2]] w fun en w' => en = .returned (.bool (foldP x)) ∧ Below w.heap.size w w' := by
 obtain ⟨a,b,c⟩ := x
 have hw := bal (Below.refl w.heap.size w) (.cells #[.int .i64 a,.string b,.string c] 66)
 go_enter Tryz.func92,Tryz.ntmps92
 go_wp2
 go_ret
 refine ⟨ret_bool ?_,hw⟩
 first | rfl | (unfold foldP; rw [Bool.eq_iff_iff]; simp)
set_option maxRecDepth 100000 in
theorem isFolded_such (w : World) : SuchZ eItem foldP w (.func (.func 92) #[] #[]) :=
 ⟨92,#[],rfl,fun args w' => by rfl,fun x Q cs w' _ hx => by
  have hx' : cs = [.int .i64 x.1,.string x.2.1,.string x.2.2] := hx
  subst hx'
  exact isFolded_any x w'⟩
set_option maxRecDepth 100000 in
set_option maxHeartbeats 4000000 in
theorem fits_any {S : List Cl3} (hS : S.length ≤ 500) (x : Pg × Tg) (k : Int) {Q : Nat → Prop} {w : World} {cs : List Value} {a : Option Addr} {n c : Nat} (hR : RowIs eClm (fun _ => True) w (.slice a n c) S) (hx : eG.E Q w x cs) :
  Calls Tryz.prog 61 #[.slice a n c,.agg cs.toArray,.int .i64 k] w fun en w' => en = .returned (.int .i64 (fitsP S x k)) ∧ Below w.heap.size w w' := by
 have hEx' := hx
 obtain ⟨ea,en,ec,rfl,-⟩ := hEx'
 simp only [exC] at *
 have hw := bal (Below.refl w.heap.size w) (.cells #[.int .i64 x.1.1,.int .i64 x.1.2.1,.int .i64 x.1.2.2.1,.string x.1.2.2.2.1,.string x.1.2.2.2.2.1,.string x.1.2.2.2.2.2,.slice ea en ec] 28)
 have bx := Bk.new w (.cells #[.int .i64 x.1.1,.int .i64 x.1.2.1,.int .i64 x.1.2.2.1,.string x.1.2.2.2.1,.string x.1.2.2.2.2.1,.string x.1.2.2.2.2.2,.slice ea en ec] 28)
 have HK : Hid _ := hid (kind_any hS x Q (w.alloc (.cells #[.int .i64 x.1.1,.int .i64 x.1.2.1,.int .i64 x.1.2.2.1,.string x.1.2.2.2.1,.string x.1.2.2.2.2.1,.string x.1.2.2.2.2.2,.slice ea en ec] 28)) [.int .i64 x.1.1,.int .i64 x.1.2.1,.int .i64 x.1.2.2.1,.string x.1.2.2.2.1,.string x.1.2.2.2.2.1,.string x.1.2.2.2.2.2,.slice ea en ec] a n c (hR.keep (by decide) fun b _ hl => hw.block b hl) (eG.keep (fun b _ hl => hw.block b hl) hx))
 have HF : Hid (fitsP S x k = if (kdT S x).2 = 0 ∧ (kdT S x).1 ≠ k then 11 else (kdT S x).2) := hid rfl
 generalize fitsP S x k = T at *
 clear hR hx
 generalize (kdT S x).1 = r1 at *
 generalize (kdT S x).2 = r2 at *
 go_enter Tryz.func61,Tryz.ntmps61
 go_upto_region 1 with fail
 generalize w.alloc (.cells #[.int .i64 x.1.1,.int .i64 x.1.2.1,.int .i64 x.1.2.2.1,.string x.1.2.2.2.1,.string x.1.2.2.2.2.1,.string x.1.2.2.2.2.2,.slice ea en ec] 28) = W at *
 have d0 := bx.cell 0
 have d1 := bx.cell 1
 have d2 := bx.cell 2
 have d3 := bx.cell 3
 have d4 := bx.cell 4
 have d5 := bx.cell 5
 have d6 := bx.cell 6
 simp only [List.getElem?_toArray,List.getElem?_cons_zero,List.getElem?_cons_succ] at d0 d1 d2 d3 d4 d5 d6
 clear bx
 go_wp2_with fail
 refine Calls.mono HK.out ?_
 rintro e w4 ⟨rfl,hb4⟩
 have hB := Below.on hw hb4
 clear HK hb4 hw d0 d1 d2 d3 d4 d5 d6
 by_cases h2 : r2 = 0
 ·subst h2
  by_cases h1 : r1 = k
  ·subst h1
   have HT : Hid (T = 0) := hid (by rw [HF.out]; simp)
   clear HF
   go_wp2
   go_ret
   exact ⟨ret_int HT.out.symm,hB⟩
  ·have HT : Hid (T = 11) := hid (by rw [HF.out,if_pos ⟨rfl,h1⟩])
   have g1 : decide (r1 = k) = false := by simpa using h1
   have g2 : (r1 != k) = true := by simpa using h1
   clear HF
   go_wp2
   go_ret
   exact ⟨ret_int HT.out.symm,hB⟩
 ·have HT : Hid (T = r2) := hid (by rw [HF.out,if_neg (by rintro ⟨h,_⟩; exact h2 h)])
  have g1 : decide (r2 = 0) = false := by simpa using h2
  clear HF
  go_wp2
  go_ret
  exact ⟨ret_int HT.out.symm,hB⟩
set_option maxRecDepth 100000 in
set_option maxHeartbeats 4000000 in
theorem where1_any {S : List Cl3} (hS : S.length ≤ 500) (x : Pg × Tg) {Q : Nat → Prop} {w : World} {cs : List Value} {a : Option Addr} {n c bf : Nat} (hR : RowIs eClm (fun _ => True) w (.slice a n c) S) (hf : w.cell? ⟨bf,0,none⟩ = some (.slice a n c)) (hx : eG.E Q w x cs) :
  Calls Tryz.prog 94 #[.agg cs.toArray,.pointer (some ⟨bf,0,none⟩)] w fun en w' => en = .returned (.int .i64 (fitsP S x 3)) ∧ Below w.heap.size w w' := by
 have hEx' := hx
 obtain ⟨ea,en,ec,rfl,-⟩ := hEx'
 simp only [exC] at *
 have hw := bal (Below.refl w.heap.size w) (.cells #[.int .i64 x.1.1,.int .i64 x.1.2.1,.int .i64 x.1.2.2.1,.string x.1.2.2.2.1,.string x.1.2.2.2.2.1,.string x.1.2.2.2.2.2,.slice ea en ec] 28)
 have bx := Bk.new w (.cells #[.int .i64 x.1.1,.int .i64 x.1.2.1,.int .i64 x.1.2.2.1,.string x.1.2.2.2.1,.string x.1.2.2.2.2.1,.string x.1.2.2.2.2.2,.slice ea en ec] 28)
 have HK : Hid _ := hid (fits_any hS x 3 (w := w.alloc (.cells #[.int .i64 x.1.1,.int .i64 x.1.2.1,.int .i64 x.1.2.2.1,.string x.1.2.2.2.1,.string x.1.2.2.2.2.1,.string x.1.2.2.2.2.2,.slice ea en ec] 28)) (cs := [.int .i64 x.1.1,.int .i64 x.1.2.1,.int .i64 x.1.2.2.1,.string x.1.2.2.2.1,.string x.1.2.2.2.2.1,.string x.1.2.2.2.2.2,.slice ea en ec]) (hR.keep (by decide) fun b _ hl => hw.block b hl) (eG.keep (fun b _ hl => hw.block b hl) hx))
 have hf1 := cell_later hw hf
 clear hR hx hf
 go_enter Tryz.func94,Tryz.ntmps94
 go_upto_region 1 with fail
 generalize w.alloc (.cells #[.int .i64 x.1.1,.int .i64 x.1.2.1,.int .i64 x.1.2.2.1,.string x.1.2.2.2.1,.string x.1.2.2.2.2.1,.string x.1.2.2.2.2.2,.slice ea en ec] 28) = W at *
 have d0 := bx.cell 0
 have d1 := bx.cell 1
 have d2 := bx.cell 2
 have d3 := bx.cell 3
 have d4 := bx.cell 4
 have d5 := bx.cell 5
 have d6 := bx.cell 6
 simp only [List.getElem?_toArray,List.getElem?_cons_zero,List.getElem?_cons_succ] at d0 d1 d2 d3 d4 d5 d6
 clear bx
 go_wp2_with fail
 refine Calls.mono HK.out ?_
 rintro e w4 ⟨rfl,hb4⟩
 go_wp2
 go_ret
 exact ⟨rfl,Below.on hw hb4⟩

end Go.Proofs.YtljmlacnfnmjbaaGreat
