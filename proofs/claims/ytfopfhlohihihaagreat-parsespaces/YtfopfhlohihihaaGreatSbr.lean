import Derived.Test.YtfopfhlohihihaaGreatSbo
import Derived.Test.YtfopfhlohihihaaGreatSbj
namespace Go.Proofs.YtfopfhlohihihaaGreat
open Go.RowKit
set_option linter.unusedVariables false
set_option linter.unusedSimpArgs false
set_option maxRecDepth 100000 in
set_option maxHeartbeats 20000000 in
theorem playStmt_2 {g r : Nat} {w : World} (h : Pk w g r) (hk : nxP (w.alloc zSt) g 14 = 2) : Calls Tryz.prog 9 #[.pointer (some ⟨g,0,none⟩)] w (TeSf g r w StOK) := by
 have hgl := h.lt
 have hR0 : Bs (w.alloc zSt) w.heap.size (zS 0) := Bs.new w (zS 0)
 have hU0 : But g w (w.alloc zSt) := (But.refl g w).alloc _
 have hp0 := h.alloc zSt
 have HN : Hid _ := hid (num_exact hp0 14 (by decide) (by decide))
 clear h
 go_enter Tryz.func9,Tryz.ntmps9
 go_wp2_with fail
 refine Calls.mono HN.out ?_
 rintro e w2 ⟨r2,rfl,hk14,hl,hp2,hb2⟩
 generalize nxP (w.alloc zSt) g 14 = k at *
 have hU2 := hU0.trans hb2
 have hR2 := hR0.but hb2 (by omega)
 have hl2 := hl.1
 have HX : Hid (w.heap.size = w.heap.size) := hid rfl
 clear HN hU0 hR0 hp0 hb2 hl
 generalize hzz : w.heap.size = z at hR2 hgl HX ⊢
 replace HX : Hid (z = w.heap.size) := hid hzz.symm
 clear hzz
 have hzl2 := hR2.lt
 subst hk
 have g0 : (((2 : Nat) : Int) == 0) = false := by decide
 have g1 : (((2 : Nat) : Int) == 1) = false := by decide
 have HSc : Hid _ := hid (schema_any w2)
 go_upto_region 15 with fail
 go_cut [6] (fun v6 w' => ∃ y bt,v6 = .pointer (some ⟨y,0,none⟩) ∧ Blk w' y (scO bt) ∧ RowIs eTab (fun b => b ≠ g ∧ z < b) w' (.slice (some ⟨bt,0,none⟩) 2 2) [tabT,tabU] ∧ w2.heap.size ≤ y ∧ Below w2.heap.size w2 w')
 case first =>
  go_wp2_with fail
  refine Calls.mono HSc.out ?_
  rintro e w3 ⟨bt,rfl,hT,hbt,hb3⟩
  have hb4 := bal (Below.refl _ w3) (scO bt)
  have hgl2 := hp2.lt
  have T : Hid _ := hid (And.intro (Blk.new w3 (scO bt)) (And.intro ((hT.mono (by decide) (Q' := fun b => b ≠ g ∧ z < b) fun b hb _ => by omega).keep (by decide) fun b _ hl => hb4.block b hl) (And.intro hb3.size (Below.on hb3 hb4))))
  clear HSc hT hb3 hb4
  go_wp2_with fail
  go_meet
  exact ⟨_,bt,rfl,T.out.1,T.out.2.1,T.out.2.2.1,T.out.2.2.2⟩
 case rest =>
 obtain ⟨y,bt,rfl,hY,hT,hyz,hb3⟩ := hcut
 have hE3 : But g w2 wc := But.of hb3
 have hp3 := hp2.later hb3
 have hU3 := hU2.trans hE3
 have hR3 := hR2.later hb3
 have hzl3 := hR3.lt
 have hyl3 := hY.lt
 have hgl2 := hp2.lt
 clear HSc hb3 hE3 hp2 hU2 hR2
 have hD : But g wc wc.drew := But.of (Below.refl _ wc).drew
 have hpD := hp3.later (Below.refl _ wc).drew
 have HT : Hid (∀ w',But g wc w' → RowIs eTab (fun b => b ≠ g) w' (.slice (some ⟨bt,0,none⟩) 2 2) [tabT,tabU]) := hid fun w' hb => (hT.mono (by decide) fun b hq _ => hq.1).keep (by decide) fun b hq hl => hb.block b hl hq
 have hTT := (HT.out wc (But.refl g wc)).tabs
 have hbz : bt ≠ z := Nat.ne_of_gt (hT.inb (k := 0) (by decide)).2
 obtain ⟨hbt,hbg,-,⟨x1,y1,z1,x1',y1',z1',t0,t1,t2,rT⟩,⟨x2,y2,z2,x2',y2',z2',u0,u1,u2,rU⟩⟩ := hTT
 have HK : Hid (∀ w',But g wc w' → w'.cell? ⟨y,0,none⟩ = some (.slice (some ⟨bt,0,none⟩) 2 2) ∧ w'.cell? ⟨y,1,none⟩ = some (.slice none 0 0) ∧ w'.cell? ⟨bt,0,none⟩ = some (.string ⟨#[116]⟩) ∧ w'.cell? ⟨bt,1,none⟩ = some (.slice x1 y1 z1) ∧ w'.cell? ⟨bt,2,none⟩ = some (.slice x1' y1' z1') ∧ w'.cell? ⟨bt,3,none⟩ = some (.string ⟨#[117]⟩) ∧ w'.cell? ⟨bt,4,none⟩ = some (.slice x2 y2 z2) ∧ w'.cell? ⟨bt,5,none⟩ = some (.slice x2' y2' z2')) := hid fun w' hb => by
  have kp : ∀ i v,wc.cell? ⟨bt,i,none⟩ = some v → w'.cell? ⟨bt,i,none⟩ = some v := fun i v h => (World.cell?_of_block (a := ⟨bt,i,none⟩) (hb.block bt hbt hbg)).trans h
  exact ⟨(hY.but hb (by omega)).cell 0,(hY.but hb (by omega)).cell 1,kp _ _ t0,kp _ _ t1,kp _ _ t2,kp _ _ u0,kp _ _ u1,kp _ _ u2⟩
 have HRT : Hid (∀ w',But g wc w' → RowIs eCol (fun b => b ≠ g) w' (.slice x1 y1 z1) tabT.2 ∧ RowIs eCol (fun b => b ≠ g) w' (.slice x2 y2 z2) tabU.2) := hid fun w' hb => ⟨rT.keep (by decide) fun b hq hl => hb.block b hl hq,rU.keep (by decide) fun b hq hl => hb.block b hl hq⟩
 clear hT hY t0 t1 t2 u0 u1 u2 rT rU hp3 g0 g1
 go_upto_region 16 with fail
 refine wp_region_held_drew (S := (fun w' => w'.cell? ⟨y,0,none⟩ = some (.slice (some ⟨bt,0,none⟩) 2 2) ∧ w'.cell? ⟨y,1,none⟩ = some (.slice none 0 0) ∧ w'.cell? ⟨bt,0,none⟩ = some (.string ⟨#[116]⟩) ∧ w'.cell? ⟨bt,1,none⟩ = some (.slice x1 y1 z1) ∧ w'.cell? ⟨bt,2,none⟩ = some (.slice x1' y1' z1') ∧ w'.cell? ⟨bt,3,none⟩ = some (.string ⟨#[117]⟩) ∧ w'.cell? ⟨bt,4,none⟩ = some (.slice x2 y2 z2) ∧ w'.cell? ⟨bt,5,none⟩ = some (.slice x2' y2' z2'))) (by kernel_rfl) (HK.out _ hD) (fun hHeld => ?_)
 refine wpAnyH_take (i := 0) (v := ?tv1) rfl (by kernel_rfl) (by kernel_rfl) (by kernel_rfl) (fun _ _ _ h => h) (Or.inl ⟨by rfl,?hy1⟩) (by assumption) ?rs1
 case hy1 => (intro w9 hSw; (try dsimp only at hSw); go_simp; (try with_reducible rfl))
 (try simp only [Act.put,sA,sB,sC])
 refine wpAnyH_take (i := 2) (v := ?tv2) rfl (by kernel_rfl) (by kernel_rfl) (by kernel_rfl) (fun _ _ _ h => h) (Or.inl ⟨by rfl,?hy2⟩) (by assumption) ?rs2
 case hy2 => (intro w9 hSw; (try dsimp only at hSw); go_simp; (try with_reducible rfl))
 (try simp only [Act.put,sA,sB,sC])
 refine wpAnyH_take (i := 4) (v := ?tv3) rfl (by kernel_rfl) (by kernel_rfl) (by kernel_rfl) (fun _ _ _ h => h) (Or.inl ⟨by rfl,?hy3⟩) (by assumption) ?rs3
 case hy3 => (intro w9 hSw; (try dsimp only at hSw); go_simp; (try with_reducible rfl))
 (try simp only [Act.put,sA,sB,sC])
 refine wpAnyH_take (i := 5) (v := ?tv4) rfl (by kernel_rfl) (by kernel_rfl) (by kernel_rfl) (fun _ _ _ h => h) (Or.inl ⟨by rfl,?hy4⟩) (by assumption) ?rs4
 case hy4 => (intro w9 hSw; (try dsimp only at hSw); go_simp; (try with_reducible rfl))
 (try simp only [Act.put,sA,sB,sC])
 refine wpAnyH_take (i := 6) (v := ?tv5) rfl (by kernel_rfl) (by kernel_rfl) (by kernel_rfl) (fun _ _ _ h => h) (Or.inl ⟨by rfl,?hy5⟩) (by assumption) ?rs5
 case hy5 => (intro w9 hSw; (try dsimp only at hSw); go_simp; (try with_reducible rfl))
 (try simp only [Act.put,sA,sB,sC])
 refine wpAnyH_take (i := 7) (v := ?tv6) rfl (by kernel_rfl) (by kernel_rfl) (by kernel_rfl) (fun _ _ _ h => h) (Or.inl ⟨by rfl,?hy6⟩) (by assumption) ?rs6
 case hy6 => (intro w9 hSw; (try dsimp only at hSw); go_simp; (try with_reducible rfl))
 (try simp only [Act.put,sA,sB,sC])
 refine wpAnyH_take (i := 8) (v := ?tv7) rfl (by kernel_rfl) (by kernel_rfl) (by kernel_rfl) (fun _ _ _ h => h) (Or.inl ⟨by rfl,?hy7⟩) (by assumption) ?rs7
 case hy7 => (intro w9 hSw; (try dsimp only at hSw); go_simp; (try with_reducible rfl))
 (try simp only [Act.put,sA,sB,sC])
 refine wpAnyH_ready (rs := [1]) (by kernel_rfl) (by simp) ?_
 refine AllReadyH.cons rfl (fun K hK => ?_) AllReadyH.nil
 go_simp
 go_wp2_with (first | (go_at_call 21; refine Calls.mono (view_any hpD) ?_; rintro e v1 ⟨nm1,r3,rfl,hnm,hl3,hp3,hb3⟩))
 have hE1 : But g wc v1 := hD.trans hb3
 refine hK.out _ _ (HK.out _ hE1) (fun hHeld => ?_)
 clear hK K
 (try simp only [Act.put,sA,sB,sC])
 refine wpAnyH_ready (rs := [3]) (by kernel_rfl) (by simp) ?_
 refine AllReadyH.cons rfl (fun K hK => ?_) AllReadyH.nil
 go_simp
 go_wp2_with (first | (go_at_call 22; refine Calls.mono (tags_any hp3) ?_; rintro e v2 ⟨ta,tn,tc,tl,r4,rfl,htg,ho1,hl4,hp4,hb4⟩))
 have hE2 : But g wc v2 := hE1.trans hb4
 refine hK.out _ _ (HK.out _ hE2) (fun hHeld => ?_)
 clear hK K
 (try simp only [Act.put,sA,sB,sC])
 refine wpAnyH_ready (rs := [9]) (by kernel_rfl) (by simp) ?_
 refine AllReadyH.cons rfl (fun K hK => ?_) AllReadyH.nil
 go_simp
 go_wp2_with (first | (go_at_call 20; refine Calls.mono (num_any hp4 2 (by decide) (by decide)) ?_; rintro e v3 ⟨k3,r5,rfl,hk3,hl5,hp5,hb5⟩))
 have hE3 : But g wc v3 := hE2.trans hb5
 have ho2 := ho1.but hb5 (by have := hE1.size; omega)
 rcases (show k3 = 0 ∨ k3 = 1 by omega) with rfl | rfl
 ·refine hK.out _ _ (HK.out _ hE3) (fun hHeld => ?_)
  clear hK K
  (try simp only [Act.put,sA,sB,sC])
  refine wpAnyH_take (i := 10) (v := ?tv8) rfl (by kernel_rfl) (by kernel_rfl) (by kernel_rfl) (fun _ _ _ h => h) (Or.inl ⟨by rfl,?hy8⟩) (by assumption) ?rs8
  case hy8 => (intro w9 hSw; (try dsimp only at hSw); go_simp; (try with_reducible rfl))
  (try simp only [Act.put,sA,sB,sC])
  refine wpAnyH_take (i := 11) (v := ?tv9) rfl (by kernel_rfl) (by kernel_rfl) (by kernel_rfl) (fun _ _ _ h => h) (Or.inl ⟨by rfl,?hy9⟩) (by assumption) ?rs9
  case hy9 => (intro w9 hSw; (try dsimp only at hSw); go_simp; (try with_reducible rfl))
  (try simp only [Act.put,sA,sB,sC])
  refine wpAnyH_ready (rs := [12]) (by kernel_rfl) (by simp) ?_
  refine AllReadyH.cons rfl (fun K hK => ?_) AllReadyH.nil
  go_simp
  go_wp2_with (first | (go_at_call 23; refine Calls.mono (playSel_any (tb := tabT) (va := none) (vn := 0) (vc := 0) (a' := x1') (n' := y1') (c' := z1') hp5 (HT.out _ hE3) (.inl rfl) (HRT.out _ hE3).1) ?_; rintro e v4 ⟨s,m,r6,rfl,hm,hl6,hp6,hb6,hI,hinn⟩))
  have hE4 : But g wc v4 := hE3.trans hb6
  have ho3 := ho2.but hb6 (by have := hE1.size; omega)
  obtain ⟨sk,stb,snm,sco,sta,sva,sit,sjn,son,swh,sod,sds,sinn⟩ := s
  replace hinn : sinn = (none,0,0) := hinn
  subst hinn
  unfold stV
  dsimp only
  refine hK.out _ _ (HK.out _ hE4) (fun hHeld => ?_)
  clear hK K
  (try simp only [Act.put,sA,sB,sC])
  refine wpAnyH_ready (rs := [13]) (by kernel_rfl) (by simp) ?_
  refine AllReadyH.cons rfl (fun K hK => ?_) AllReadyH.nil
  go_simp
  refine hK.out _ _ (HK.out _ (hE4.alloc (svO (⟨sk,stb,snm,sco,sta,sva,sit,sjn,son,swh,sod,sds,(none,0,0)⟩ : Sv)))) (fun hHeld => ?_)
  clear hK K
  (try simp only [Act.put,sA,sB,sC])
  refine wpAnyH_take (i := 14) (v := ?tv10) rfl (by kernel_rfl) (by kernel_rfl) (by kernel_rfl) (fun _ _ _ h => h) (Or.inl ⟨by rfl,?hy10⟩) (by assumption) ?rs10
  case hy10 => (intro w9 hSw; (try dsimp only at hSw); go_simp; (try with_reducible rfl))
  (try simp only [Act.put,sA,sB,sC])
  refine wpAnyH_ready (rs := [15]) (by kernel_rfl) (by simp) ?_
  refine AllReadyH.cons rfl (fun K hK => ?_) AllReadyH.nil
  have hs4 := hE4.size
  have hs3 := hE3.size
  have hs1 := hE1.size
  have hs2 := hE2.size
  have hE5 : But g wc (v4.alloc (svO (⟨sk,stb,snm,sco,sta,sva,sit,sjn,son,swh,sod,sds,(none,0,0)⟩ : Sv))) := hE4.alloc _
  have hrS : RowIs eStmt (fun b => z < b) (v4.alloc (svO (⟨sk,stb,snm,sco,sta,sva,sit,sjn,son,swh,sod,sds,(none,0,0)⟩ : Sv))) (.slice (some ⟨v4.heap.size,0,none⟩) 1 1) [m] := row_onS (s := (⟨sk,stb,snm,sco,sta,sva,sit,sjn,son,swh,sod,sds,(none,0,0)⟩ : Sv)) (by omega) (hI.mono fun b hb _ => by have h9 : v3.heap.size ≤ b := hb; omega) rfl
  have hrT : RowIs eTag (fun b => z < b) (v4.alloc (svO (⟨sk,stb,snm,sco,sta,sva,sit,sjn,son,swh,sod,sds,(none,0,0)⟩ : Sv))) (.slice ta tn tc) tl := tags_row (ho3.alloc (svO (⟨sk,stb,snm,sco,sta,sva,sit,sjn,son,swh,sod,sds,(none,0,0)⟩ : Sv))) (by omega)
  have hp7 : Pk (v4.alloc (svO (⟨sk,stb,snm,sco,sta,sva,sit,sjn,son,swh,sod,sds,(none,0,0)⟩ : Sv))) g r6 := hp6.alloc _
  have hr6 : r6 ≤ r := by have := hl5.1; have := hl6.1; omega
  clear ho1 ho2 ho3 hI hp3 hp4 hp5 hp6 hb3 hb4 hb5 hb6 hE4 hpD hD HRT
  generalize v4.alloc (svO (⟨sk,stb,snm,sco,sta,sva,sit,sjn,son,swh,sod,sds,(none,0,0)⟩ : Sv)) = V at *
  generalize v4.heap.size = rb at *
  have hRf : Bs V z (zS 0) := hR3.but hE5 (by omega)
  have cR := hRf.cells
  have fR := hRf.free
  have hzlf := hRf.lt
  have d0 := cR.1
  have d1 := cR.2.1
  have d2 := cR.2.2.1
  have d3 := cR.2.2.2.1
  have d4 := cR.2.2.2.2.1
  have d5 := cR.2.2.2.2.2.1
  have d6 := cR.2.2.2.2.2.2.1
  have d7 := cR.2.2.2.2.2.2.2.1
  have d8 := cR.2.2.2.2.2.2.2.2.1
  have d9 := cR.2.2.2.2.2.2.2.2.2.1
  have d10 := cR.2.2.2.2.2.2.2.2.2.2.1
  have d11 := cR.2.2.2.2.2.2.2.2.2.2.2.1
  have d12 := cR.2.2.2.2.2.2.2.2.2.2.2.2
  have f0 := fR.1
  have f1 := fR.2.1
  have f2 := fR.2.2.1
  have f3 := fR.2.2.2.1
  have f4 := fR.2.2.2.2.1
  have f5 := fR.2.2.2.2.2.1
  have f6 := fR.2.2.2.2.2.2.1
  have f7 := fR.2.2.2.2.2.2.2.1
  have f8 := fR.2.2.2.2.2.2.2.2.1
  have f9 := fR.2.2.2.2.2.2.2.2.2.1
  have f10 := fR.2.2.2.2.2.2.2.2.2.2.1
  have f11 := fR.2.2.2.2.2.2.2.2.2.2.2.1
  have f12 := fR.2.2.2.2.2.2.2.2.2.2.2.2
  clear cR fR
  have T : Hid (TeSf g r w StOK (.returned (stV (⟨3,⟨#[]⟩,nm1,(none,0,0),(ta,tn,tc),(none,0,0),(none,0,0),⟨#[]⟩,(none,0,0),(none,0,0),(none,0,0),false,(some ⟨rb,0,none⟩,1,1)⟩ : Sv))) (set13 V z (⟨3,⟨#[]⟩,nm1,(none,0,0),(ta,tn,tc),(none,0,0),(none,0,0),⟨#[]⟩,(none,0,0),(none,0,0),(none,0,0),false,(some ⟨rb,0,none⟩,1,1)⟩ : Sv))) := hid (TeSf.fin (m := (⟨3,⟨#[]⟩,nm1,[],tl,[],[],⟨#[]⟩,[],[],[],false⟩,[m])) (hU3.trans hE5) { IsS.zero _ _ 3 with nm := rfl,ta := hrT } hrS (.inr (.inr (.inl ⟨nm1,tl,m,tabT,hnm,htg,.inl rfl,hm,rfl⟩))) hr6 hp7 hgl HX.out)
  clear hRf hrS hrT hp7 hnm htg hm hU3 hR3
  unfold set13 at T
  unfold stV at T
  dsimp only at T
  have HKs : Hid _ := hid (HK.out V hE5)
  clear HT
  go_simp
  refine hK.out _ _ ((by have h9 := HKs.out; have kp : ∀ b i v,b ≠ z → V.cell? ⟨b,i,none⟩ = some v → (set13 V z (⟨3,⟨#[]⟩,nm1,(none,0,0),(ta,tn,tc),(none,0,0),(none,0,0),⟨#[]⟩,(none,0,0),(none,0,0),(none,0,0),false,(some ⟨rb,0,none⟩,1,1)⟩ : Sv)).cell? ⟨b,i,none⟩ = some v := (fun b i v hb h => (World.cell?_of_block (a := ⟨b,i,none⟩) (set13_heap V z (⟨3,⟨#[]⟩,nm1,(none,0,0),(ta,tn,tc),(none,0,0),(none,0,0),⟨#[]⟩,(none,0,0),(none,0,0),(none,0,0),false,(some ⟨rb,0,none⟩,1,1)⟩ : Sv) hb)).trans h); exact ⟨kp _ _ _ (by omega) h9.1,kp _ _ _ (by omega) h9.2.1,kp _ _ _ hbz h9.2.2.1,kp _ _ _ hbz h9.2.2.2.1,kp _ _ _ hbz h9.2.2.2.2.1,kp _ _ _ hbz h9.2.2.2.2.2.1,kp _ _ _ hbz h9.2.2.2.2.2.2.1,kp _ _ _ hbz h9.2.2.2.2.2.2.2⟩)) (fun hHeld => ?_)
  clear hK K
  (try simp only [Act.put,sA,sB,sC])
  refine wpAnyH_done (by kernel_rfl) ?_ _
  go_wp2
  refine bodyPost_ret (v := stV (⟨3,⟨#[]⟩,nm1,(none,0,0),(ta,tn,tc),(none,0,0),(none,0,0),⟨#[]⟩,(none,0,0),(none,0,0),(none,0,0),false,(some ⟨rb,0,none⟩,1,1)⟩ : Sv)) (by simp [results,Tryz.results9,go_sem,stV,d0,d1,d2,d3,d4,d5,d6,d7,d8,d9,d10,d11,d12]) rfl ?_
  exact T.out
 ·refine hK.out _ _ (HK.out _ hE3) (fun hHeld => ?_)
  clear hK K
  (try simp only [Act.put,sA,sB,sC])
  refine wpAnyH_take (i := 10) (v := ?tv11) rfl (by kernel_rfl) (by kernel_rfl) (by kernel_rfl) (fun _ _ _ h => h) (Or.inl ⟨by rfl,?hy11⟩) (by assumption) ?rs11
  case hy11 => (intro w9 hSw; (try dsimp only at hSw); go_simp; (try with_reducible rfl))
  (try simp only [Act.put,sA,sB,sC])
  refine wpAnyH_take (i := 11) (v := ?tv12) rfl (by kernel_rfl) (by kernel_rfl) (by kernel_rfl) (fun _ _ _ h => h) (Or.inl ⟨by rfl,?hy12⟩) (by assumption) ?rs12
  case hy12 => (intro w9 hSw; (try dsimp only at hSw); go_simp; (try with_reducible rfl))
  (try simp only [Act.put,sA,sB,sC])
  refine wpAnyH_ready (rs := [12]) (by kernel_rfl) (by simp) ?_
  refine AllReadyH.cons rfl (fun K hK => ?_) AllReadyH.nil
  go_simp
  go_wp2_with (first | (go_at_call 23; refine Calls.mono (playSel_any (tb := tabU) (va := none) (vn := 0) (vc := 0) (a' := x2') (n' := y2') (c' := z2') hp5 (HT.out _ hE3) (.inr rfl) (HRT.out _ hE3).2) ?_; rintro e v4 ⟨s,m,r6,rfl,hm,hl6,hp6,hb6,hI,hinn⟩))
  have hE4 : But g wc v4 := hE3.trans hb6
  have ho3 := ho2.but hb6 (by have := hE1.size; omega)
  obtain ⟨sk,stb,snm,sco,sta,sva,sit,sjn,son,swh,sod,sds,sinn⟩ := s
  replace hinn : sinn = (none,0,0) := hinn
  subst hinn
  unfold stV
  dsimp only
  refine hK.out _ _ (HK.out _ hE4) (fun hHeld => ?_)
  clear hK K
  (try simp only [Act.put,sA,sB,sC])
  refine wpAnyH_ready (rs := [13]) (by kernel_rfl) (by simp) ?_
  refine AllReadyH.cons rfl (fun K hK => ?_) AllReadyH.nil
  go_simp
  refine hK.out _ _ (HK.out _ (hE4.alloc (svO (⟨sk,stb,snm,sco,sta,sva,sit,sjn,son,swh,sod,sds,(none,0,0)⟩ : Sv)))) (fun hHeld => ?_)
  clear hK K
  (try simp only [Act.put,sA,sB,sC])
  refine wpAnyH_take (i := 14) (v := ?tv13) rfl (by kernel_rfl) (by kernel_rfl) (by kernel_rfl) (fun _ _ _ h => h) (Or.inl ⟨by rfl,?hy13⟩) (by assumption) ?rs13
  case hy13 => (intro w9 hSw; (try dsimp only at hSw); go_simp; (try with_reducible rfl))
  (try simp only [Act.put,sA,sB,sC])
  refine wpAnyH_ready (rs := [15]) (by kernel_rfl) (by simp) ?_
  refine AllReadyH.cons rfl (fun K hK => ?_) AllReadyH.nil
  have hs4 := hE4.size
  have hs3 := hE3.size
  have hs1 := hE1.size
  have hs2 := hE2.size
  have hE5 : But g wc (v4.alloc (svO (⟨sk,stb,snm,sco,sta,sva,sit,sjn,son,swh,sod,sds,(none,0,0)⟩ : Sv))) := hE4.alloc _
  have hrS : RowIs eStmt (fun b => z < b) (v4.alloc (svO (⟨sk,stb,snm,sco,sta,sva,sit,sjn,son,swh,sod,sds,(none,0,0)⟩ : Sv))) (.slice (some ⟨v4.heap.size,0,none⟩) 1 1) [m] := row_onS (s := (⟨sk,stb,snm,sco,sta,sva,sit,sjn,son,swh,sod,sds,(none,0,0)⟩ : Sv)) (by omega) (hI.mono fun b hb _ => by have h9 : v3.heap.size ≤ b := hb; omega) rfl
  have hrT : RowIs eTag (fun b => z < b) (v4.alloc (svO (⟨sk,stb,snm,sco,sta,sva,sit,sjn,son,swh,sod,sds,(none,0,0)⟩ : Sv))) (.slice ta tn tc) tl := tags_row (ho3.alloc (svO (⟨sk,stb,snm,sco,sta,sva,sit,sjn,son,swh,sod,sds,(none,0,0)⟩ : Sv))) (by omega)
  have hp7 : Pk (v4.alloc (svO (⟨sk,stb,snm,sco,sta,sva,sit,sjn,son,swh,sod,sds,(none,0,0)⟩ : Sv))) g r6 := hp6.alloc _
  have hr6 : r6 ≤ r := by have := hl5.1; have := hl6.1; omega
  clear ho1 ho2 ho3 hI hp3 hp4 hp5 hp6 hb3 hb4 hb5 hb6 hE4 hpD hD HRT
  generalize v4.alloc (svO (⟨sk,stb,snm,sco,sta,sva,sit,sjn,son,swh,sod,sds,(none,0,0)⟩ : Sv)) = V at *
  generalize v4.heap.size = rb at *
  have hRf : Bs V z (zS 0) := hR3.but hE5 (by omega)
  have cR := hRf.cells
  have fR := hRf.free
  have hzlf := hRf.lt
  have d0 := cR.1
  have d1 := cR.2.1
  have d2 := cR.2.2.1
  have d3 := cR.2.2.2.1
  have d4 := cR.2.2.2.2.1
  have d5 := cR.2.2.2.2.2.1
  have d6 := cR.2.2.2.2.2.2.1
  have d7 := cR.2.2.2.2.2.2.2.1
  have d8 := cR.2.2.2.2.2.2.2.2.1
  have d9 := cR.2.2.2.2.2.2.2.2.2.1
  have d10 := cR.2.2.2.2.2.2.2.2.2.2.1
  have d11 := cR.2.2.2.2.2.2.2.2.2.2.2.1
  have d12 := cR.2.2.2.2.2.2.2.2.2.2.2.2
  have f0 := fR.1
  have f1 := fR.2.1
  have f2 := fR.2.2.1
  have f3 := fR.2.2.2.1
  have f4 := fR.2.2.2.2.1
  have f5 := fR.2.2.2.2.2.1
  have f6 := fR.2.2.2.2.2.2.1
  have f7 := fR.2.2.2.2.2.2.2.1
  have f8 := fR.2.2.2.2.2.2.2.2.1
  have f9 := fR.2.2.2.2.2.2.2.2.2.1
  have f10 := fR.2.2.2.2.2.2.2.2.2.2.1
  have f11 := fR.2.2.2.2.2.2.2.2.2.2.2.1
  have f12 := fR.2.2.2.2.2.2.2.2.2.2.2.2
  clear cR fR
  have T : Hid (TeSf g r w StOK (.returned (stV (⟨3,⟨#[]⟩,nm1,(none,0,0),(ta,tn,tc),(none,0,0),(none,0,0),⟨#[]⟩,(none,0,0),(none,0,0),(none,0,0),false,(some ⟨rb,0,none⟩,1,1)⟩ : Sv))) (set13 V z (⟨3,⟨#[]⟩,nm1,(none,0,0),(ta,tn,tc),(none,0,0),(none,0,0),⟨#[]⟩,(none,0,0),(none,0,0),(none,0,0),false,(some ⟨rb,0,none⟩,1,1)⟩ : Sv))) := hid (TeSf.fin (m := (⟨3,⟨#[]⟩,nm1,[],tl,[],[],⟨#[]⟩,[],[],[],false⟩,[m])) (hU3.trans hE5) { IsS.zero _ _ 3 with nm := rfl,ta := hrT } hrS (.inr (.inr (.inl ⟨nm1,tl,m,tabU,hnm,htg,.inr rfl,hm,rfl⟩))) hr6 hp7 hgl HX.out)
  clear hRf hrS hrT hp7 hnm htg hm hU3 hR3
  unfold set13 at T
  unfold stV at T
  dsimp only at T
  have HKs : Hid _ := hid (HK.out V hE5)
  clear HT
  go_simp
  refine hK.out _ _ ((by have h9 := HKs.out; have kp : ∀ b i v,b ≠ z → V.cell? ⟨b,i,none⟩ = some v → (set13 V z (⟨3,⟨#[]⟩,nm1,(none,0,0),(ta,tn,tc),(none,0,0),(none,0,0),⟨#[]⟩,(none,0,0),(none,0,0),(none,0,0),false,(some ⟨rb,0,none⟩,1,1)⟩ : Sv)).cell? ⟨b,i,none⟩ = some v := (fun b i v hb h => (World.cell?_of_block (a := ⟨b,i,none⟩) (set13_heap V z (⟨3,⟨#[]⟩,nm1,(none,0,0),(ta,tn,tc),(none,0,0),(none,0,0),⟨#[]⟩,(none,0,0),(none,0,0),(none,0,0),false,(some ⟨rb,0,none⟩,1,1)⟩ : Sv) hb)).trans h); exact ⟨kp _ _ _ (by omega) h9.1,kp _ _ _ (by omega) h9.2.1,kp _ _ _ hbz h9.2.2.1,kp _ _ _ hbz h9.2.2.2.1,kp _ _ _ hbz h9.2.2.2.2.1,kp _ _ _ hbz h9.2.2.2.2.2.1,kp _ _ _ hbz h9.2.2.2.2.2.2.1,kp _ _ _ hbz h9.2.2.2.2.2.2.2⟩)) (fun hHeld => ?_)
  clear hK K
  (try simp only [Act.put,sA,sB,sC])
  refine wpAnyH_done (by kernel_rfl) ?_ _
  go_wp2
  refine bodyPost_ret (v := stV (⟨3,⟨#[]⟩,nm1,(none,0,0),(ta,tn,tc),(none,0,0),(none,0,0),⟨#[]⟩,(none,0,0),(none,0,0),(none,0,0),false,(some ⟨rb,0,none⟩,1,1)⟩ : Sv)) (by simp [results,Tryz.results9,go_sem,stV,d0,d1,d2,d3,d4,d5,d6,d7,d8,d9,d10,d11,d12]) rfl ?_
  exact T.out
set_option maxRecDepth 100000 in
set_option maxHeartbeats 20000000 in
theorem playStmt_3 {g r : Nat} {w : World} (h : Pk w g r) (hk : nxP (w.alloc zSt) g 14 = 3) : Calls Tryz.prog 9 #[.pointer (some ⟨g,0,none⟩)] w (TeSf g r w StOK) := by
 have hgl := h.lt
 have hR0 : Bs (w.alloc zSt) w.heap.size (zS 0) := Bs.new w (zS 0)
 have hU0 : But g w (w.alloc zSt) := (But.refl g w).alloc _
 have hp0 := h.alloc zSt
 have HN : Hid _ := hid (num_exact hp0 14 (by decide) (by decide))
 clear h
 go_enter Tryz.func9,Tryz.ntmps9
 go_wp2_with fail
 refine Calls.mono HN.out ?_
 rintro e w2 ⟨r2,rfl,hk14,hl,hp2,hb2⟩
 generalize nxP (w.alloc zSt) g 14 = k at *
 have hU2 := hU0.trans hb2
 have hR2 := hR0.but hb2 (by omega)
 have hl2 := hl.1
 have HX : Hid (w.heap.size = w.heap.size) := hid rfl
 clear HN hU0 hR0 hp0 hb2 hl
 generalize hzz : w.heap.size = z at hR2 hgl HX ⊢
 replace HX : Hid (z = w.heap.size) := hid hzz.symm
 clear hzz
 have hzl2 := hR2.lt
 subst hk
 have g0 : (((3 : Nat) : Int) == 0) = false := by decide
 have g1 : (((3 : Nat) : Int) == 1) = false := by decide
 have g2 : (((3 : Nat) : Int) == 2) = false := by decide
 have HD : Hid _ := hid (playData_any hp2)
 go_upto_region 18 with fail
 go_cut [7] (fun v7 w' => ∃ q s m r',v7 = .pointer (some ⟨q,0,none⟩) ∧ CloR g r z q w w' s m r')
 case first =>
  go_wp2_with fail
  refine Calls.mono HD.out ?_
  rintro e u ⟨s,m,r3,rfl,hm,hl3,hp3,hE,hI,hinn⟩
  have hsE := hE.size
  obtain ⟨sk,stb,snm,sco,sta,sva,sit,sjn,son,swh,sod,sds,sinn⟩ := s
  replace hinn : sinn = (none,0,0) := hinn
  subst hinn
  have T : Hid (CloR g r z u.heap.size w (u.alloc (svO (⟨sk,stb,snm,sco,sta,sva,sit,sjn,son,swh,sod,sds,(none,0,0)⟩ : Sv))) (⟨sk,stb,snm,sco,sta,sva,sit,sjn,son,swh,sod,sds,(none,0,0)⟩ : Sv) m r3) := hid ⟨Bs.new u (⟨sk,stb,snm,sco,sta,sva,sit,sjn,son,swh,sod,sds,(none,0,0)⟩ : Sv),(hI.mono fun b hb hl => by omega).keep fun b _ hl => (bal (Below.refl _ u) (svO (⟨sk,stb,snm,sco,sta,sva,sit,sjn,son,swh,sod,sds,(none,0,0)⟩ : Sv))).block b hl,rfl,hm,by have := hl3.1; omega,hp3.alloc _,(hU2.trans hE).alloc _,(hR2.but hE (by omega)).later (bal (Below.refl _ u) (svO (⟨sk,stb,snm,sco,sta,sva,sit,sjn,son,swh,sod,sds,(none,0,0)⟩ : Sv))),by omega,by rw [← HX.out]; omega⟩
  clear HD hI hp3 hE hU2 hR2 hp2 hm
  unfold stV
  go_wp2_with fail
  go_meet
  exact ⟨_,(⟨sk,stb,snm,sco,sta,sva,sit,sjn,son,swh,sod,sds,(none,0,0)⟩ : Sv),m,r3,rfl,T.out⟩
 case rest =>
 obtain ⟨q,s0,m0,r0,rfl,hC0⟩ := hcut
 clear HD hU2 hR2 hp2 g0 g1 g2
 go_wp2
 go_loopw [] (fun wr => ∃ s m r',CloR g r z q w wr s m r') (fun wr => mesK q g wr)
 case atStart => exact ⟨s0,m0,r0,hC0⟩
 case round =>
  clear hC0
  obtain ⟨s,m,r3,hC⟩ := hrel
  obtain ⟨sk,stb,snm,sco,sta,sva,sit,sjn,son,swh,sod,sds,sinn⟩ := s
  have hinn : sinn = (none,0,0) := hC.inn
  subst hinn
  have hsk : sk = m.kind := hC.is.k
  have cq := hC.box.cells
  have fq := hC.box.free
  have hql := hC.box.lt
  have hzq := hC.far
  have hgw := hC.pk.lt
  have hzlw := hC.res.lt
  obtain ⟨d0,d1,d2,d3,d4,d5,d6,d7,d8,d9,d10,d11,d12⟩ := cq
  obtain ⟨f0,f1,f2,f3,f4,f5,f6,f7,f8,f9,f10,f11,f12⟩ := fq
  by_cases h6 : sk = 6
  ·subst h6
   have hmes : mesK q g wr = r3 + 1 := hC.mes6
   have HO : Hid _ := hid (over_any hC.pk)
   go_wp2_with fail
   refine Calls.mono HO.out ?_
   rintro e u ⟨rfl,hp4,hb4⟩
   have hE4 := hC.but.trans hb4
   have hC4 := hC.next hb4 hp4 (Nat.le_refl _) (by omega) (by omega)
   have cq := hC4.box.cells
   have fq := hC4.box.free
   have hql4 := hC4.box.lt
   clear HO hC hp4 hb4 hE4 d0 d1 d2 d3 d4 d5 d6 d7 d8 d9 d10 d11 d12 f0 f1 f2 f3 f4 f5 f6 f7 f8 f9 f10 f11 f12 hsk
   by_cases hr0 : r3 = 0
   ·have gr : decide (r3 = 0) = true := by simpa using hr0
    have T : Hid _ := hid (hC4.del (by omega))
    have hm2 : mesK q g (set13 u q (⟨8,⟨#[117]⟩,⟨#[]⟩,(none,0,0),(none,0,0),(none,0,0),(none,0,0),⟨#[]⟩,(none,0,0),(none,0,0),(none,0,0),false,(none,0,0)⟩ : Sv)) = 0 := T.out.mes0 (by decide)
    obtain ⟨d0,d1,d2,d3,d4,d5,d6,d7,d8,d9,d10,d11,d12⟩ := cq
    obtain ⟨f0,f1,f2,f3,f4,f5,f6,f7,f8,f9,f10,f11,f12⟩ := fq
    clear hC4
    have M2 : Hid _ := hid hm2
    clear hm2
    unfold set13 at T M2
    dsimp only at T M2
    go_wp2
    go_roundw
    case rel => exact ⟨_,_,_,T.out⟩
    case measure => rw [hmes,M2.out]; omega
   ·have gr : decide (r3 = 0) = false := by simpa using hr0
    have HD : Hid _ := hid (playData_any hC4.pk)
    go_wp2_with fail
    refine Calls.mono HD.out ?_
    rintro e v ⟨s5,m5,r5,rfl,hm5,hl5,hp5,hE5,hI5,hinn5⟩
    obtain ⟨tk,ttb,tnm,tco,tta,tva,tit,tjn,ton,twh,tod,tds,tinn⟩ := s5
    replace hinn5 : tinn = (none,0,0) := hinn5
    subst hinn5
    have hR5 := hC4.res.but hE5 (by omega)
    have hq5 := hC4.box.but hE5 (by omega)
    have cq5 := hq5.cells
    have fq5 := hq5.free
    have hql5 := hq5.lt
    have hs5 := hE5.size
    have hl6 := hl5.2 (by omega)
    have T : Hid _ := hid (hC4.put hE5 hm5 hl5.1 hp5 hI5 rfl (by omega))
    have hm2 : mesK q g (set13 v q (⟨tk,ttb,tnm,tco,tta,tva,tit,tjn,ton,twh,tod,tds,(none,0,0)⟩ : Sv)) ≤ r5 + 1 := T.out.mesLe
    have M2 : Hid _ := hid hm2
    clear cq fq hC4 hm2 HD hI5 hE5 hp5 hq5 hm5
    obtain ⟨d0,d1,d2,d3,d4,d5,d6,d7,d8,d9,d10,d11,d12⟩ := cq5
    obtain ⟨f0,f1,f2,f3,f4,f5,f6,f7,f8,f9,f10,f11,f12⟩ := fq5
    unfold set13 at T M2
    dsimp only at T M2
    unfold stV
    dsimp only
    go_wp2
    go_roundw
    case rel => exact ⟨_,_,_,T.out⟩
    case measure => rw [hmes]; have := M2.out; omega
  ·have g6 : (sk == 6) = false := by simpa using h6
   have hk6 : m.kind ≠ 6 := by rw [← hsk]; exact h6
   clear hsk
   have hD : But g wr wr.drew := But.of (Below.refl _ wr).drew
   have hpD := hC.pk.later (Below.refl _ wr).drew
   have HK : Hid (∀ w',But g wr w' → w'.cell? ⟨q,0,none⟩ = some (.int .i64 sk) ∧ w'.cell? ⟨q,1,none⟩ = some (.string stb) ∧ w'.cell? ⟨q,2,none⟩ = some (.string snm) ∧ w'.cell? ⟨q,3,none⟩ = some (.slice sco.1 sco.2.1 sco.2.2) ∧ w'.cell? ⟨q,4,none⟩ = some (.slice sta.1 sta.2.1 sta.2.2) ∧ w'.cell? ⟨q,5,none⟩ = some (.slice sva.1 sva.2.1 sva.2.2) ∧ w'.cell? ⟨q,6,none⟩ = some (.slice sit.1 sit.2.1 sit.2.2) ∧ w'.cell? ⟨q,7,none⟩ = some (.string sjn) ∧ w'.cell? ⟨q,8,none⟩ = some (.slice son.1 son.2.1 son.2.2) ∧ w'.cell? ⟨q,9,none⟩ = some (.slice swh.1 swh.2.1 swh.2.2) ∧ w'.cell? ⟨q,10,none⟩ = some (.slice sod.1 sod.2.1 sod.2.2) ∧ w'.cell? ⟨q,11,none⟩ = some (.bool sds) ∧ w'.cell? ⟨q,12,none⟩ = some (.slice none 0 0)) := hid fun w' hb => (hC.box.but hb (by omega)).cells
   have hIs := hC.is
   have hU3 := hC.but
   have hR3 := hC.res
   have hm := hC.ok
   have hr3 := hC.less
   clear hC d1 d2 d3 d4 d5 d6 d7 d8 d9 d10 d11 d12 f0 f1 f2 f3 f4 f5 f6 f7 f8 f9 f10 f11 f12
   go_upto_region 23 with fail
   clear d0
   refine wp_region_held_drew (S := (fun w' => w'.cell? ⟨q,0,none⟩ = some (.int .i64 sk) ∧ w'.cell? ⟨q,1,none⟩ = some (.string stb) ∧ w'.cell? ⟨q,2,none⟩ = some (.string snm) ∧ w'.cell? ⟨q,3,none⟩ = some (.slice sco.1 sco.2.1 sco.2.2) ∧ w'.cell? ⟨q,4,none⟩ = some (.slice sta.1 sta.2.1 sta.2.2) ∧ w'.cell? ⟨q,5,none⟩ = some (.slice sva.1 sva.2.1 sva.2.2) ∧ w'.cell? ⟨q,6,none⟩ = some (.slice sit.1 sit.2.1 sit.2.2) ∧ w'.cell? ⟨q,7,none⟩ = some (.string sjn) ∧ w'.cell? ⟨q,8,none⟩ = some (.slice son.1 son.2.1 son.2.2) ∧ w'.cell? ⟨q,9,none⟩ = some (.slice swh.1 swh.2.1 swh.2.2) ∧ w'.cell? ⟨q,10,none⟩ = some (.slice sod.1 sod.2.1 sod.2.2) ∧ w'.cell? ⟨q,11,none⟩ = some (.bool sds) ∧ w'.cell? ⟨q,12,none⟩ = some (.slice none 0 0))) (by kernel_rfl) (HK.out _ hD) (fun hHeld => ?_)
   refine tkH 0 ?tv72 rfl (by kernel_rfl) (by kernel_rfl) (by kernel_rfl) (fun _ _ _ h => h) (by rfl) ?hy72 hHeld ?rs72
   case hy72 => (intro w9 hSw; (try dsimp only at hSw); go_simp; (try with_reducible rfl))
   (try simp only [Act.put,sA,sB,sC])
   refine tkH 2 ?tv73 rfl (by kernel_rfl) (by kernel_rfl) (by kernel_rfl) (fun _ _ _ h => h) (by rfl) ?hy73 hHeld ?rs73
   case hy73 => (intro w9 hSw; (try dsimp only at hSw); go_simp; (try with_reducible rfl))
   (try simp only [Act.put,sA,sB,sC])
   refine tkH 4 ?tv74 rfl (by kernel_rfl) (by kernel_rfl) (by kernel_rfl) (fun _ _ _ h => h) (by rfl) ?hy74 hHeld ?rs74
   case hy74 => (intro w9 hSw; (try dsimp only at hSw); go_simp; (try with_reducible rfl))
   (try simp only [Act.put,sA,sB,sC])
   refine wpAnyH_ready (rs := [1,5]) (by kernel_rfl) (by simp) ?_
   refine AllReadyH.cons rfl (fun K hK => ?_) (AllReadyH.cons rfl (fun K hK => ?_) AllReadyH.nil)
   ·go_simp
    go_wp2_with (first | (go_at_call 21; refine Calls.mono (view_any hpD) ?_; rintro e u35 ⟨nm1,r35,rfl,hnm,hl35,hp35,hb35⟩))
    have hE35 : But g wr u35 := hD.trans hb35
    refine hK.out _ _ (HK.out _ hE35) (fun hHeld => ?_)
    clear hK K
    (try simp only [Act.put,sA,sB,sC])
    refine wpAnyH_ready (rs := [3,5]) (by kernel_rfl) (by simp) ?_
    refine AllReadyH.cons rfl (fun K hK => ?_) (AllReadyH.cons rfl (fun K hK => ?_) AllReadyH.nil)
    ·go_simp
     go_wp2_with (first | (go_at_call 22; refine Calls.mono (tags_any hp35) ?_; rintro e u36 ⟨ta,tn,tc,tl,r36,rfl,htg,ho36,hl36,hp36,hb36⟩))
     have hE36 : But g wr u36 := hE35.trans hb36
     have hoT := ho36.base (B' := z + 1) (by have := hE35.size; omega)
     refine hK.out _ _ (HK.out _ hE36) (fun hHeld => ?_)
     clear hK K
     (try simp only [Act.put,sA,sB,sC])
     refine wpAnyH_ready (rs := [5]) (by kernel_rfl) (by simp) ?_
     refine AllReadyH.cons rfl (fun K hK => ?_) AllReadyH.nil
     go_simp
     have hE37 : But g wr (u36.alloc (svO (⟨sk,stb,snm,sco,sta,sva,sit,sjn,son,swh,sod,sds,(none,0,0)⟩ : Sv))) := hE36.alloc _
     have hp37 : Pk (u36.alloc (svO (⟨sk,stb,snm,sco,sta,sva,sit,sjn,son,swh,sod,sds,(none,0,0)⟩ : Sv))) g r36 := hp36.alloc _
     have hrS37 : RowIs eStmt (fun b => z < b) (u36.alloc (svO (⟨sk,stb,snm,sco,sta,sva,sit,sjn,son,swh,sod,sds,(none,0,0)⟩ : Sv))) (.slice (some ⟨u36.heap.size,0,none⟩) 1 1) [m] := row_onS (w := u36) (s := (⟨sk,stb,snm,sco,sta,sva,sit,sjn,son,swh,sod,sds,(none,0,0)⟩ : Sv)) (by have := hE36.size; show z < u36.heap.size; omega) ((hIs.mono fun b hb _ => hb.1).keep fun b hq hl => hE36.block b hl (by omega)) rfl
     have hoU := hoT.alloc (svO (⟨sk,stb,snm,sco,sta,sva,sit,sjn,son,swh,sod,sds,(none,0,0)⟩ : Sv))
     have HS37 : Hid _ := hid (HK.out _ hE37)
     generalize (u36.alloc (svO (⟨sk,stb,snm,sco,sta,sva,sit,sjn,son,swh,sod,sds,(none,0,0)⟩ : Sv))) = u37 at *
     generalize hgb : u36.heap.size = rb at hrS37 ⊢
     clear hgb
     refine hK.out _ _ (HS37.out) (fun hHeld => ?_)
     clear hK K
     (try simp only [Act.put,sA,sB,sC])
     refine tkH 6 ?tv75 rfl (by kernel_rfl) (by kernel_rfl) (by kernel_rfl) (fun _ _ _ h => h) (by rfl) ?hy75 hHeld ?rs75
     case hy75 => (intro w9 hSw; (try dsimp only at hSw); go_simp; (try with_reducible rfl))
     (try simp only [Act.put,sA,sB,sC])
     refine wpAnyH_ready (rs := [7]) (by kernel_rfl) (by simp) ?_
     refine AllReadyH.cons rfl (fun K hK => ?_) AllReadyH.nil
     have hrT := tags_row hoU (Nat.lt_succ_self z)
     have HKs : Hid _ := hid (HK.out u37 hE37)
     have hr9 : r36 ≤ r := by omega
     have hRf : Bs u37 z (zS 0) := hR3.but hE37 (by omega)
     have cR := hRf.cells
     have fR := hRf.free
     have hzlf := hRf.lt
     have d0 := cR.1
     have d1 := cR.2.1
     have d2 := cR.2.2.1
     have d3 := cR.2.2.2.1
     have d4 := cR.2.2.2.2.1
     have d5 := cR.2.2.2.2.2.1
     have d6 := cR.2.2.2.2.2.2.1
     have d7 := cR.2.2.2.2.2.2.2.1
     have d8 := cR.2.2.2.2.2.2.2.2.1
     have d9 := cR.2.2.2.2.2.2.2.2.2.1
     have d10 := cR.2.2.2.2.2.2.2.2.2.2.1
     have d11 := cR.2.2.2.2.2.2.2.2.2.2.2.1
     have d12 := cR.2.2.2.2.2.2.2.2.2.2.2.2
     have f0 := fR.1
     have f1 := fR.2.1
     have f2 := fR.2.2.1
     have f3 := fR.2.2.2.1
     have f4 := fR.2.2.2.2.1
     have f5 := fR.2.2.2.2.2.1
     have f6 := fR.2.2.2.2.2.2.1
     have f7 := fR.2.2.2.2.2.2.2.1
     have f8 := fR.2.2.2.2.2.2.2.2.1
     have f9 := fR.2.2.2.2.2.2.2.2.2.1
     have f10 := fR.2.2.2.2.2.2.2.2.2.2.1
     have f11 := fR.2.2.2.2.2.2.2.2.2.2.2.1
     have f12 := fR.2.2.2.2.2.2.2.2.2.2.2.2
     clear cR fR
     have T : Hid (TeSf g r w StOK (.returned (stV (⟨4,⟨#[]⟩,nm1,(none,0,0),(ta,tn,tc),(none,0,0),(none,0,0),⟨#[]⟩,(none,0,0),(none,0,0),(none,0,0),false,(some ⟨rb,0,none⟩,1,1)⟩ : Sv))) (set13 u37 z (⟨4,⟨#[]⟩,nm1,(none,0,0),(ta,tn,tc),(none,0,0),(none,0,0),⟨#[]⟩,(none,0,0),(none,0,0),(none,0,0),false,(some ⟨rb,0,none⟩,1,1)⟩ : Sv))) := hid (TeSf.fin (m := (⟨4,⟨#[]⟩,nm1,[],tl,[],[],⟨#[]⟩,[],[],[],false⟩,[m])) (hU3.trans hE37) { IsS.zero _ _ 4 with nm := rfl,ta := hrT } hrS37 (.inr (.inr (.inr (.inl ⟨nm1,tl,m,hnm,htg,hm,hk6,rfl⟩)))) hr9 hp37 hgl HX.out)
     clear hRf hrT hnm htg hm hU3 hR3 hIs HK
     unfold set13 at T
     unfold stV at T
     dsimp only at T
     go_simp
     refine hK.out _ _ ((by have h9 := HKs.out; have kp : ∀ i v,u37.cell? ⟨q,i,none⟩ = some v → (set13 u37 z (⟨4,⟨#[]⟩,nm1,(none,0,0),(ta,tn,tc),(none,0,0),(none,0,0),⟨#[]⟩,(none,0,0),(none,0,0),(none,0,0),false,(some ⟨rb,0,none⟩,1,1)⟩ : Sv)).cell? ⟨q,i,none⟩ = some v := (fun i v h => (World.cell?_of_block (a := ⟨q,i,none⟩) (set13_heap u37 z (⟨4,⟨#[]⟩,nm1,(none,0,0),(ta,tn,tc),(none,0,0),(none,0,0),⟨#[]⟩,(none,0,0),(none,0,0),(none,0,0),false,(some ⟨rb,0,none⟩,1,1)⟩ : Sv) (by show q ≠ z; omega))).trans h); exact ⟨kp _ _ h9.1,kp _ _ h9.2.1,kp _ _ h9.2.2.1,kp _ _ h9.2.2.2.1,kp _ _ h9.2.2.2.2.1,kp _ _ h9.2.2.2.2.2.1,kp _ _ h9.2.2.2.2.2.2.1,kp _ _ h9.2.2.2.2.2.2.2.1,kp _ _ h9.2.2.2.2.2.2.2.2.1,kp _ _ h9.2.2.2.2.2.2.2.2.2.1,kp _ _ h9.2.2.2.2.2.2.2.2.2.2.1,kp _ _ h9.2.2.2.2.2.2.2.2.2.2.2.1,kp _ _ h9.2.2.2.2.2.2.2.2.2.2.2.2⟩)) (fun hHeld => ?_)
     clear hK K
     (try simp only [Act.put,sA,sB,sC])
     refine wpAnyH_done (by kernel_rfl) ?_ _
     go_wp2
     refine bodyPost_ret (v := stV (⟨4,⟨#[]⟩,nm1,(none,0,0),(ta,tn,tc),(none,0,0),(none,0,0),⟨#[]⟩,(none,0,0),(none,0,0),(none,0,0),false,(some ⟨rb,0,none⟩,1,1)⟩ : Sv)) (by simp [results,Tryz.results9,go_sem,stV,d0,d1,d2,d3,d4,d5,d6,d7,d8,d9,d10,d11,d12]) rfl ?_
     exact T.out
    go_simp
    have hE38 : But g wr (u35.alloc (svO (⟨sk,stb,snm,sco,sta,sva,sit,sjn,son,swh,sod,sds,(none,0,0)⟩ : Sv))) := hE35.alloc _
    have hp38 : Pk (u35.alloc (svO (⟨sk,stb,snm,sco,sta,sva,sit,sjn,son,swh,sod,sds,(none,0,0)⟩ : Sv))) g r35 := hp35.alloc _
    have hrS38 : RowIs eStmt (fun b => z < b) (u35.alloc (svO (⟨sk,stb,snm,sco,sta,sva,sit,sjn,son,swh,sod,sds,(none,0,0)⟩ : Sv))) (.slice (some ⟨u35.heap.size,0,none⟩) 1 1) [m] := row_onS (w := u35) (s := (⟨sk,stb,snm,sco,sta,sva,sit,sjn,son,swh,sod,sds,(none,0,0)⟩ : Sv)) (by have := hE35.size; show z < u35.heap.size; omega) ((hIs.mono fun b hb _ => hb.1).keep fun b hq hl => hE35.block b hl (by omega)) rfl
    have HS38 : Hid _ := hid (HK.out _ hE38)
    generalize (u35.alloc (svO (⟨sk,stb,snm,sco,sta,sva,sit,sjn,son,swh,sod,sds,(none,0,0)⟩ : Sv))) = u38 at *
    generalize hgb : u35.heap.size = rb at hrS38 ⊢
    clear hgb
    refine hK.out _ _ (HS38.out) (fun hHeld => ?_)
    clear hK K
    (try simp only [Act.put,sA,sB,sC])
    refine wpAnyH_ready (rs := [3]) (by kernel_rfl) (by simp) ?_
    refine AllReadyH.cons rfl (fun K hK => ?_) AllReadyH.nil
    go_simp
    go_wp2_with (first | (go_at_call 22; refine Calls.mono (tags_any hp38) ?_; rintro e u39 ⟨ta,tn,tc,tl,r39,rfl,htg,ho39,hl39,hp39,hb39⟩))
    have hE39 : But g wr u39 := hE38.trans hb39
    have hoT := ho39.base (B' := z + 1) (by have := hE38.size; omega)
    have hrS39 := hrS38.keep (by decide) fun b hq hl => hb39.block b hl (by omega)
    refine hK.out _ _ (HK.out _ hE39) (fun hHeld => ?_)
    clear hK K
    (try simp only [Act.put,sA,sB,sC])
    refine tkH 6 ?tv76 rfl (by kernel_rfl) (by kernel_rfl) (by kernel_rfl) (fun _ _ _ h => h) (by rfl) ?hy76 hHeld ?rs76
    case hy76 => (intro w9 hSw; (try dsimp only at hSw); go_simp; (try with_reducible rfl))
    (try simp only [Act.put,sA,sB,sC])
    refine wpAnyH_ready (rs := [7]) (by kernel_rfl) (by simp) ?_
    refine AllReadyH.cons rfl (fun K hK => ?_) AllReadyH.nil
    have hrT := tags_row hoT (Nat.lt_succ_self z)
    have HKs : Hid _ := hid (HK.out u39 hE39)
    have hr9 : r39 ≤ r := by omega
    have hRf : Bs u39 z (zS 0) := hR3.but hE39 (by omega)
    have cR := hRf.cells
    have fR := hRf.free
    have hzlf := hRf.lt
    have d0 := cR.1
    have d1 := cR.2.1
    have d2 := cR.2.2.1
    have d3 := cR.2.2.2.1
    have d4 := cR.2.2.2.2.1
    have d5 := cR.2.2.2.2.2.1
    have d6 := cR.2.2.2.2.2.2.1
    have d7 := cR.2.2.2.2.2.2.2.1
    have d8 := cR.2.2.2.2.2.2.2.2.1
    have d9 := cR.2.2.2.2.2.2.2.2.2.1
    have d10 := cR.2.2.2.2.2.2.2.2.2.2.1
    have d11 := cR.2.2.2.2.2.2.2.2.2.2.2.1
    have d12 := cR.2.2.2.2.2.2.2.2.2.2.2.2
    have f0 := fR.1
    have f1 := fR.2.1
    have f2 := fR.2.2.1
    have f3 := fR.2.2.2.1
    have f4 := fR.2.2.2.2.1
    have f5 := fR.2.2.2.2.2.1
    have f6 := fR.2.2.2.2.2.2.1
    have f7 := fR.2.2.2.2.2.2.2.1
    have f8 := fR.2.2.2.2.2.2.2.2.1
    have f9 := fR.2.2.2.2.2.2.2.2.2.1
    have f10 := fR.2.2.2.2.2.2.2.2.2.2.1
    have f11 := fR.2.2.2.2.2.2.2.2.2.2.2.1
    have f12 := fR.2.2.2.2.2.2.2.2.2.2.2.2
    clear cR fR
    have T : Hid (TeSf g r w StOK (.returned (stV (⟨4,⟨#[]⟩,nm1,(none,0,0),(ta,tn,tc),(none,0,0),(none,0,0),⟨#[]⟩,(none,0,0),(none,0,0),(none,0,0),false,(some ⟨rb,0,none⟩,1,1)⟩ : Sv))) (set13 u39 z (⟨4,⟨#[]⟩,nm1,(none,0,0),(ta,tn,tc),(none,0,0),(none,0,0),⟨#[]⟩,(none,0,0),(none,0,0),(none,0,0),false,(some ⟨rb,0,none⟩,1,1)⟩ : Sv))) := hid (TeSf.fin (m := (⟨4,⟨#[]⟩,nm1,[],tl,[],[],⟨#[]⟩,[],[],[],false⟩,[m])) (hU3.trans hE39) { IsS.zero _ _ 4 with nm := rfl,ta := hrT } hrS39 (.inr (.inr (.inr (.inl ⟨nm1,tl,m,hnm,htg,hm,hk6,rfl⟩)))) hr9 hp39 hgl HX.out)
    clear hRf hrT hnm htg hm hU3 hR3 hIs HK
    unfold set13 at T
    unfold stV at T
    dsimp only at T
    go_simp
    refine hK.out _ _ ((by have h9 := HKs.out; have kp : ∀ i v,u39.cell? ⟨q,i,none⟩ = some v → (set13 u39 z (⟨4,⟨#[]⟩,nm1,(none,0,0),(ta,tn,tc),(none,0,0),(none,0,0),⟨#[]⟩,(none,0,0),(none,0,0),(none,0,0),false,(some ⟨rb,0,none⟩,1,1)⟩ : Sv)).cell? ⟨q,i,none⟩ = some v := (fun i v h => (World.cell?_of_block (a := ⟨q,i,none⟩) (set13_heap u39 z (⟨4,⟨#[]⟩,nm1,(none,0,0),(ta,tn,tc),(none,0,0),(none,0,0),⟨#[]⟩,(none,0,0),(none,0,0),(none,0,0),false,(some ⟨rb,0,none⟩,1,1)⟩ : Sv) (by show q ≠ z; omega))).trans h); exact ⟨kp _ _ h9.1,kp _ _ h9.2.1,kp _ _ h9.2.2.1,kp _ _ h9.2.2.2.1,kp _ _ h9.2.2.2.2.1,kp _ _ h9.2.2.2.2.2.1,kp _ _ h9.2.2.2.2.2.2.1,kp _ _ h9.2.2.2.2.2.2.2.1,kp _ _ h9.2.2.2.2.2.2.2.2.1,kp _ _ h9.2.2.2.2.2.2.2.2.2.1,kp _ _ h9.2.2.2.2.2.2.2.2.2.2.1,kp _ _ h9.2.2.2.2.2.2.2.2.2.2.2.1,kp _ _ h9.2.2.2.2.2.2.2.2.2.2.2.2⟩)) (fun hHeld => ?_)
    clear hK K
    (try simp only [Act.put,sA,sB,sC])
    refine wpAnyH_done (by kernel_rfl) ?_ _
    go_wp2
    refine bodyPost_ret (v := stV (⟨4,⟨#[]⟩,nm1,(none,0,0),(ta,tn,tc),(none,0,0),(none,0,0),⟨#[]⟩,(none,0,0),(none,0,0),(none,0,0),false,(some ⟨rb,0,none⟩,1,1)⟩ : Sv)) (by simp [results,Tryz.results9,go_sem,stV,d0,d1,d2,d3,d4,d5,d6,d7,d8,d9,d10,d11,d12]) rfl ?_
    exact T.out
   go_simp
   have hE40 : But g wr (wr.alloc (svO (⟨sk,stb,snm,sco,sta,sva,sit,sjn,son,swh,sod,sds,(none,0,0)⟩ : Sv))).drew := hD.alloc _
   have hp40 : Pk (wr.alloc (svO (⟨sk,stb,snm,sco,sta,sva,sit,sjn,son,swh,sod,sds,(none,0,0)⟩ : Sv))).drew g r3 := hpD.alloc _
   have hrS40 : RowIs eStmt (fun b => z < b) (wr.alloc (svO (⟨sk,stb,snm,sco,sta,sva,sit,sjn,son,swh,sod,sds,(none,0,0)⟩ : Sv))).drew (.slice (some ⟨wr.heap.size,0,none⟩) 1 1) [m] := row_onS (w := wr.drew) (s := (⟨sk,stb,snm,sco,sta,sva,sit,sjn,son,swh,sod,sds,(none,0,0)⟩ : Sv)) (by have := hD.size; show z < wr.drew.heap.size; omega) ((hIs.mono fun b hb _ => hb.1).keep fun b hq hl => hD.block b hl (by omega)) rfl
   have HS40 : Hid _ := hid (HK.out _ hE40)
   generalize (wr.alloc (svO (⟨sk,stb,snm,sco,sta,sva,sit,sjn,son,swh,sod,sds,(none,0,0)⟩ : Sv))).drew = u40 at *
   generalize hgb : wr.heap.size = rb at hrS40 ⊢
   clear hgb
   refine hK.out _ _ (HS40.out) (fun hHeld => ?_)
   clear hK K
   (try simp only [Act.put,sA,sB,sC])
   refine wpAnyH_ready (rs := [1]) (by kernel_rfl) (by simp) ?_
   refine AllReadyH.cons rfl (fun K hK => ?_) AllReadyH.nil
   go_simp
   go_wp2_with (first | (go_at_call 21; refine Calls.mono (view_any hp40) ?_; rintro e u41 ⟨nm1,r41,rfl,hnm,hl41,hp41,hb41⟩))
   have hE41 : But g wr u41 := hE40.trans hb41
   have hrS41 := hrS40.keep (by decide) fun b hq hl => hb41.block b hl (by omega)
   refine hK.out _ _ (HK.out _ hE41) (fun hHeld => ?_)
   clear hK K
   (try simp only [Act.put,sA,sB,sC])
   refine wpAnyH_ready (rs := [3]) (by kernel_rfl) (by simp) ?_
   refine AllReadyH.cons rfl (fun K hK => ?_) AllReadyH.nil
   go_simp
   go_wp2_with (first | (go_at_call 22; refine Calls.mono (tags_any hp41) ?_; rintro e u42 ⟨ta,tn,tc,tl,r42,rfl,htg,ho42,hl42,hp42,hb42⟩))
   have hE42 : But g wr u42 := hE41.trans hb42
   have hoT := ho42.base (B' := z + 1) (by have := hE41.size; omega)
   have hrS42 := hrS41.keep (by decide) fun b hq hl => hb42.block b hl (by omega)
   refine hK.out _ _ (HK.out _ hE42) (fun hHeld => ?_)
   clear hK K
   (try simp only [Act.put,sA,sB,sC])
   refine tkH 6 ?tv77 rfl (by kernel_rfl) (by kernel_rfl) (by kernel_rfl) (fun _ _ _ h => h) (by rfl) ?hy77 hHeld ?rs77
   case hy77 => (intro w9 hSw; (try dsimp only at hSw); go_simp; (try with_reducible rfl))
   (try simp only [Act.put,sA,sB,sC])
   refine wpAnyH_ready (rs := [7]) (by kernel_rfl) (by simp) ?_
   refine AllReadyH.cons rfl (fun K hK => ?_) AllReadyH.nil
   have hrT := tags_row hoT (Nat.lt_succ_self z)
   have HKs : Hid _ := hid (HK.out u42 hE42)
   have hr9 : r42 ≤ r := by omega
   have hRf : Bs u42 z (zS 0) := hR3.but hE42 (by omega)
   have cR := hRf.cells
   have fR := hRf.free
   have hzlf := hRf.lt
   have d0 := cR.1
   have d1 := cR.2.1
   have d2 := cR.2.2.1
   have d3 := cR.2.2.2.1
   have d4 := cR.2.2.2.2.1
   have d5 := cR.2.2.2.2.2.1
   have d6 := cR.2.2.2.2.2.2.1
   have d7 := cR.2.2.2.2.2.2.2.1
   have d8 := cR.2.2.2.2.2.2.2.2.1
   have d9 := cR.2.2.2.2.2.2.2.2.2.1
   have d10 := cR.2.2.2.2.2.2.2.2.2.2.1
   have d11 := cR.2.2.2.2.2.2.2.2.2.2.2.1
   have d12 := cR.2.2.2.2.2.2.2.2.2.2.2.2
   have f0 := fR.1
   have f1 := fR.2.1
   have f2 := fR.2.2.1
   have f3 := fR.2.2.2.1
   have f4 := fR.2.2.2.2.1
   have f5 := fR.2.2.2.2.2.1
   have f6 := fR.2.2.2.2.2.2.1
   have f7 := fR.2.2.2.2.2.2.2.1
   have f8 := fR.2.2.2.2.2.2.2.2.1
   have f9 := fR.2.2.2.2.2.2.2.2.2.1
   have f10 := fR.2.2.2.2.2.2.2.2.2.2.1
   have f11 := fR.2.2.2.2.2.2.2.2.2.2.2.1
   have f12 := fR.2.2.2.2.2.2.2.2.2.2.2.2
   clear cR fR
   have T : Hid (TeSf g r w StOK (.returned (stV (⟨4,⟨#[]⟩,nm1,(none,0,0),(ta,tn,tc),(none,0,0),(none,0,0),⟨#[]⟩,(none,0,0),(none,0,0),(none,0,0),false,(some ⟨rb,0,none⟩,1,1)⟩ : Sv))) (set13 u42 z (⟨4,⟨#[]⟩,nm1,(none,0,0),(ta,tn,tc),(none,0,0),(none,0,0),⟨#[]⟩,(none,0,0),(none,0,0),(none,0,0),false,(some ⟨rb,0,none⟩,1,1)⟩ : Sv))) := hid (TeSf.fin (m := (⟨4,⟨#[]⟩,nm1,[],tl,[],[],⟨#[]⟩,[],[],[],false⟩,[m])) (hU3.trans hE42) { IsS.zero _ _ 4 with nm := rfl,ta := hrT } hrS42 (.inr (.inr (.inr (.inl ⟨nm1,tl,m,hnm,htg,hm,hk6,rfl⟩)))) hr9 hp42 hgl HX.out)
   clear hRf hrT hnm htg hm hU3 hR3 hIs HK
   unfold set13 at T
   unfold stV at T
   dsimp only at T
   go_simp
   refine hK.out _ _ ((by have h9 := HKs.out; have kp : ∀ i v,u42.cell? ⟨q,i,none⟩ = some v → (set13 u42 z (⟨4,⟨#[]⟩,nm1,(none,0,0),(ta,tn,tc),(none,0,0),(none,0,0),⟨#[]⟩,(none,0,0),(none,0,0),(none,0,0),false,(some ⟨rb,0,none⟩,1,1)⟩ : Sv)).cell? ⟨q,i,none⟩ = some v := (fun i v h => (World.cell?_of_block (a := ⟨q,i,none⟩) (set13_heap u42 z (⟨4,⟨#[]⟩,nm1,(none,0,0),(ta,tn,tc),(none,0,0),(none,0,0),⟨#[]⟩,(none,0,0),(none,0,0),(none,0,0),false,(some ⟨rb,0,none⟩,1,1)⟩ : Sv) (by show q ≠ z; omega))).trans h); exact ⟨kp _ _ h9.1,kp _ _ h9.2.1,kp _ _ h9.2.2.1,kp _ _ h9.2.2.2.1,kp _ _ h9.2.2.2.2.1,kp _ _ h9.2.2.2.2.2.1,kp _ _ h9.2.2.2.2.2.2.1,kp _ _ h9.2.2.2.2.2.2.2.1,kp _ _ h9.2.2.2.2.2.2.2.2.1,kp _ _ h9.2.2.2.2.2.2.2.2.2.1,kp _ _ h9.2.2.2.2.2.2.2.2.2.2.1,kp _ _ h9.2.2.2.2.2.2.2.2.2.2.2.1,kp _ _ h9.2.2.2.2.2.2.2.2.2.2.2.2⟩)) (fun hHeld => ?_)
   clear hK K
   (try simp only [Act.put,sA,sB,sC])
   refine wpAnyH_done (by kernel_rfl) ?_ _
   go_wp2
   refine bodyPost_ret (v := stV (⟨4,⟨#[]⟩,nm1,(none,0,0),(ta,tn,tc),(none,0,0),(none,0,0),⟨#[]⟩,(none,0,0),(none,0,0),(none,0,0),false,(some ⟨rb,0,none⟩,1,1)⟩ : Sv)) (by simp [results,Tryz.results9,go_sem,stV,d0,d1,d2,d3,d4,d5,d6,d7,d8,d9,d10,d11,d12]) rfl ?_
   exact T.out
end Go.Proofs.YtfopfhlohihihaaGreat
