import Derived.Test.YtljmlacnfnmjbaaGreatTmai
namespace Go.Proofs.YtljmlacnfnmjbaaGreat
open Go.RowKit
set_option linter.unusedVariables false
set_option linter.unusedSimpArgs false

set_option maxRecDepth 100000 in
set_option maxHeartbeats 20000000 in
theorem playData_any {g r : Nat} {w : World} (h : Pk w g r) : Calls Tryz.prog 43 #[.pointer (some ⟨g,0,none⟩)] w (TeSt g r w DataOK) := by
 have hgl := h.lt
 have hR0 : Bs (w.alloc zSt) w.heap.size (zS 0) := Bs.new w (zS 0)
 have hU0 : But g w (w.alloc zSt) := (But.refl g w).alloc _
 have hp0 := h.alloc zSt
 have HSc : Hid _ := hid (schema_any (w.alloc zSt))
 clear h
 go_enter Tryz.func43,Tryz.ntmps43
 go_wp2_with fail
 refine Calls.mono HSc.out ?_
 rintro e w1 ⟨bt,rfl,hT1,hbt,hb1⟩
 have hb2 := bal (Below.refl _ w1) (scO bt)
 have hU2 := (hU0.trans (But.of hb1)).trans (But.of hb2)
 have hR2 := (hR0.later hb1).later hb2
 have hp2 := (hp0.later hb1).later hb2
 have hT2 : RowIs eTab (fun b => b ≠ g ∧ w.heap.size < b) (w1.alloc (scO bt)) (.slice (some ⟨bt,0,none⟩) 2 2) [tabT,tabU] := (hT1.mono (by decide) (Q' := fun b => b ≠ g ∧ w.heap.size < b) fun b hb _ => by simp at hb; omega).keep (by decide) fun b _ hl => hb2.block b hl
 have hY2 : Blk (w1.alloc (scO bt)) w1.heap.size (scO bt) := Blk.new w1 _
 have hz1 : w.heap.size < w1.heap.size := by have := hb1.size; simp at this; omega
 have HZ : Hid _ := hid (rfl : w.heap.size = w.heap.size)
 clear HSc hU0 hR0 hp0 hT1 hb1 hb2 hbt
 go_upto_region 2 with fail
 generalize w1.alloc (scO bt) = W at *
 generalize w1.heap.size = y at *
 generalize hzz : w.heap.size = z at hR2 hT2 hz1 hgl ⊢
 have HX : Hid (z = w.heap.size) := hid hzz.symm
 clear hzz HZ
 go_cut [4] (fun v4 w' => TabR g r w z y bt v4 w')
 case first =>
  have hD : But g W W.drew := But.of (Below.refl _ W).drew
  have hpD := hp2.later (Below.refl _ W).drew
  have hyl := hY2.lt
  have hzl := hR2.lt
  have HT : Hid (∀ w',But g W w' → RowIs eTab (fun b => b ≠ g ∧ z < b ∧ b < W.heap.size) w' (.slice (some ⟨bt,0,none⟩) 2 2) [tabT,tabU]) := hid fun w' hb => (hT2.mono (by decide) (Q' := fun b => b ≠ g ∧ z < b ∧ b < W.heap.size) fun b hq hl => ⟨hq.1,hq.2,hl⟩).keep (by decide) fun b hq hl => hb.block b hl hq.1
  have HTl : Hid (True) := hid trivial
  refine wp_region_held_drew (S := (fun w' => w'.cell? ⟨y,0,none⟩ = some (.slice (some ⟨bt,0,none⟩) 2 2))) (by kernel_rfl) (hY2.cell 0) (fun hHeld => ?_)
  refine wpAnyH_take (i := 0) (v := ?tv1) rfl (by kernel_rfl) (by kernel_rfl) (by kernel_rfl) (fun _ _ _ h => h) (Or.inl ⟨by rfl,?hy1⟩) (by assumption) ?rs1
  case hy1 => (intro w9 hSw; (try dsimp only at hSw); go_simp; (try with_reducible rfl))
  (try simp only [Act.put,List.setIfInBounds_toArray,List.set_cons_zero,List.set_cons_succ])
  refine wpAnyH_take (i := 1) (v := ?tv2) rfl (by kernel_rfl) (by kernel_rfl) (by kernel_rfl) (fun _ _ _ h => h) (Or.inl ⟨by rfl,?hy2⟩) (by assumption) ?rs2
  case hy2 => (intro w9 hSw; (try dsimp only at hSw); go_simp; (try with_reducible rfl))
  (try simp only [Act.put,List.setIfInBounds_toArray,List.set_cons_zero,List.set_cons_succ])
  refine wpAnyH_take (i := 2) (v := ?tv3) rfl (by kernel_rfl) (by kernel_rfl) (by kernel_rfl) (fun _ _ _ h => h) (Or.inl ⟨by rfl,?hy3⟩) (by assumption) ?rs3
  case hy3 => (intro w9 hSw; (try dsimp only at hSw); go_simp; (try with_reducible rfl))
  (try simp only [Act.put,List.setIfInBounds_toArray,List.set_cons_zero,List.set_cons_succ])
  refine wpAnyH_ready (rs := [3,6]) (by kernel_rfl) (by simp) ?_
  refine AllReadyH.cons rfl (fun K hK => ?_) (AllReadyH.cons rfl (fun K hK => ?_) AllReadyH.nil)
  ·go_simp
   go_wp2_with (first | (go_at_call 39; refine Calls.mono (num_any hpD 2 (by decide) (by decide)) ?_; rintro e u1 ⟨k,r1,rfl,hk,hl1,hp1,hb1⟩))
   have hE : But g W u1 := hD.trans hb1
   have hx := HT.out u1 hE
   obtain ⟨hbt,-,-,⟨x1,y1,z1,x1',y1',z1',t0,t1,t2,rT⟩,⟨x2,y2,z2,x2',y2',z2',u0,u2,u3,rU⟩⟩ := hx.tabs
   rcases (show k = 0 ∨ k = 1 by omega) with rfl | rfl
   ·refine hK.out _ _ ((hY2.but hE (by omega)).cell 0) (fun hHeld => ?_)
    clear hK K
    (try simp only [Act.put,List.setIfInBounds_toArray,List.set_cons_zero,List.set_cons_succ])
    refine wpAnyH_take (i := 4) (v := ?tv4) rfl (by kernel_rfl) (by kernel_rfl) (by kernel_rfl) (fun _ _ _ h => h) (Or.inl ⟨by rfl,?hy4⟩) (by assumption) ?rs4
    case hy4 => (intro w9 hSw; (try dsimp only at hSw); go_simp; (try with_reducible rfl))
    (try simp only [Act.put,List.setIfInBounds_toArray,List.set_cons_zero,List.set_cons_succ])
    refine wpAnyH_ready (rs := [5,6]) (by kernel_rfl) (by simp) ?_
    refine AllReadyH.cons rfl (fun K hK => ?_) (AllReadyH.cons rfl (fun K hK => ?_) AllReadyH.nil)
    ·go_simp
     refine hK.out _ _ (hHeld) (fun hHeld => ?_)
     clear hK K
     (try simp only [Act.put,List.setIfInBounds_toArray,List.set_cons_zero,List.set_cons_succ])
     refine wpAnyH_ready (rs := [6]) (by kernel_rfl) (by simp) ?_
     refine AllReadyH.cons rfl (fun K hK => ?_) AllReadyH.nil
     go_simp
     refine hK.out _ _ ((hY2.but (hE.alloc zTb) (by omega)).cell 0) (fun hHeld => ?_)
     clear hK K
     (try simp only [Act.put,List.setIfInBounds_toArray,List.set_cons_zero,List.set_cons_succ])
     refine wpAnyH_ready (rs := [7]) (by kernel_rfl) (by simp) ?_
     refine AllReadyH.cons rfl (fun K hK => ?_) AllReadyH.nil
     go_simp
     refine hK.out _ _ ((hY2.but (hE.alloc (tbO ⟨#[116]⟩ x1 y1 z1 x1' y1' z1')) (by omega)).cell 0) (fun hHeld => ?_)
     clear hK K
     (try simp only [Act.put,List.setIfInBounds_toArray,List.set_cons_zero,List.set_cons_succ])
     refine wpAnyH_done (by kernel_rfl) ?_ _
     go_wp2_with fail
     go_meet
     have hb3 := bal (Below.refl _ u1) (tbO ⟨#[116]⟩ x1 y1 z1 x1' y1' z1')
     refine ⟨tabT,u1.heap.size,_,_,_,_,_,_,r1,rfl,.inl rfl,by have := hE.size; omega,by have := hE.size; omega,Blk.new u1 _,(rT.keep (by decide) fun b hb hl => hb3.block b hl).mono (by decide) (fun b hb _ => ⟨hb.1,hb.2.1⟩),(hx.keep (by decide) fun b hb hl => hb3.block b hl).mono (by decide) (fun b hb _ => ⟨hb.1,hb.2.1⟩),(hY2.but hE (by omega)).later hb3,(hR2.but hE (by omega)).later hb3,hp1.later hb3,hl1,(hU2.trans hE).trans (But.of hb3)⟩
    ·go_simp
     refine hK.out _ _ ((hY2.but (hE.alloc zTb) (by omega)).cell 0) (fun hHeld => ?_)
     clear hK K
     (try simp only [Act.put,List.setIfInBounds_toArray,List.set_cons_zero,List.set_cons_succ])
     refine wpAnyH_ready (rs := [5]) (by kernel_rfl) (by simp) ?_
     refine AllReadyH.cons rfl (fun K hK => ?_) AllReadyH.nil
     go_simp
     refine hK.out _ _ (hHeld) (fun hHeld => ?_)
     clear hK K
     (try simp only [Act.put,List.setIfInBounds_toArray,List.set_cons_zero,List.set_cons_succ])
     refine wpAnyH_ready (rs := [7]) (by kernel_rfl) (by simp) ?_
     refine AllReadyH.cons rfl (fun K hK => ?_) AllReadyH.nil
     go_simp
     refine hK.out _ _ ((hY2.but (hE.alloc (tbO ⟨#[116]⟩ x1 y1 z1 x1' y1' z1')) (by omega)).cell 0) (fun hHeld => ?_)
     clear hK K
     (try simp only [Act.put,List.setIfInBounds_toArray,List.set_cons_zero,List.set_cons_succ])
     refine wpAnyH_done (by kernel_rfl) ?_ _
     go_wp2_with fail
     go_meet
     have hb3 := bal (Below.refl _ u1) (tbO ⟨#[116]⟩ x1 y1 z1 x1' y1' z1')
     refine ⟨tabT,u1.heap.size,_,_,_,_,_,_,r1,rfl,.inl rfl,by have := hE.size; omega,by have := hE.size; omega,Blk.new u1 _,(rT.keep (by decide) fun b hb hl => hb3.block b hl).mono (by decide) (fun b hb _ => ⟨hb.1,hb.2.1⟩),(hx.keep (by decide) fun b hb hl => hb3.block b hl).mono (by decide) (fun b hb _ => ⟨hb.1,hb.2.1⟩),(hY2.but hE (by omega)).later hb3,(hR2.but hE (by omega)).later hb3,hp1.later hb3,hl1,(hU2.trans hE).trans (But.of hb3)⟩
   ·refine hK.out _ _ ((hY2.but hE (by omega)).cell 0) (fun hHeld => ?_)
    clear hK K
    (try simp only [Act.put,List.setIfInBounds_toArray,List.set_cons_zero,List.set_cons_succ])
    refine wpAnyH_take (i := 4) (v := ?tv5) rfl (by kernel_rfl) (by kernel_rfl) (by kernel_rfl) (fun _ _ _ h => h) (Or.inl ⟨by rfl,?hy5⟩) (by assumption) ?rs5
    case hy5 => (intro w9 hSw; (try dsimp only at hSw); go_simp; (try with_reducible rfl))
    (try simp only [Act.put,List.setIfInBounds_toArray,List.set_cons_zero,List.set_cons_succ])
    refine wpAnyH_ready (rs := [5,6]) (by kernel_rfl) (by simp) ?_
    refine AllReadyH.cons rfl (fun K hK => ?_) (AllReadyH.cons rfl (fun K hK => ?_) AllReadyH.nil)
    ·go_simp
     refine hK.out _ _ (hHeld) (fun hHeld => ?_)
     clear hK K
     (try simp only [Act.put,List.setIfInBounds_toArray,List.set_cons_zero,List.set_cons_succ])
     refine wpAnyH_ready (rs := [6]) (by kernel_rfl) (by simp) ?_
     refine AllReadyH.cons rfl (fun K hK => ?_) AllReadyH.nil
     go_simp
     refine hK.out _ _ ((hY2.but (hE.alloc zTb) (by omega)).cell 0) (fun hHeld => ?_)
     clear hK K
     (try simp only [Act.put,List.setIfInBounds_toArray,List.set_cons_zero,List.set_cons_succ])
     refine wpAnyH_ready (rs := [7]) (by kernel_rfl) (by simp) ?_
     refine AllReadyH.cons rfl (fun K hK => ?_) AllReadyH.nil
     go_simp
     refine hK.out _ _ ((hY2.but (hE.alloc (tbO ⟨#[117]⟩ x2 y2 z2 x2' y2' z2')) (by omega)).cell 0) (fun hHeld => ?_)
     clear hK K
     (try simp only [Act.put,List.setIfInBounds_toArray,List.set_cons_zero,List.set_cons_succ])
     refine wpAnyH_done (by kernel_rfl) ?_ _
     go_wp2_with fail
     go_meet
     have hb3 := bal (Below.refl _ u1) (tbO ⟨#[117]⟩ x2 y2 z2 x2' y2' z2')
     refine ⟨tabU,u1.heap.size,_,_,_,_,_,_,r1,rfl,.inr rfl,by have := hE.size; omega,by have := hE.size; omega,Blk.new u1 _,(rU.keep (by decide) fun b hb hl => hb3.block b hl).mono (by decide) (fun b hb _ => ⟨hb.1,hb.2.1⟩),(hx.keep (by decide) fun b hb hl => hb3.block b hl).mono (by decide) (fun b hb _ => ⟨hb.1,hb.2.1⟩),(hY2.but hE (by omega)).later hb3,(hR2.but hE (by omega)).later hb3,hp1.later hb3,hl1,(hU2.trans hE).trans (But.of hb3)⟩
    ·go_simp
     refine hK.out _ _ ((hY2.but (hE.alloc zTb) (by omega)).cell 0) (fun hHeld => ?_)
     clear hK K
     (try simp only [Act.put,List.setIfInBounds_toArray,List.set_cons_zero,List.set_cons_succ])
     refine wpAnyH_ready (rs := [5]) (by kernel_rfl) (by simp) ?_
     refine AllReadyH.cons rfl (fun K hK => ?_) AllReadyH.nil
     go_simp
     refine hK.out _ _ (hHeld) (fun hHeld => ?_)
     clear hK K
     (try simp only [Act.put,List.setIfInBounds_toArray,List.set_cons_zero,List.set_cons_succ])
     refine wpAnyH_ready (rs := [7]) (by kernel_rfl) (by simp) ?_
     refine AllReadyH.cons rfl (fun K hK => ?_) AllReadyH.nil
     go_simp
     refine hK.out _ _ ((hY2.but (hE.alloc (tbO ⟨#[117]⟩ x2 y2 z2 x2' y2' z2')) (by omega)).cell 0) (fun hHeld => ?_)
     clear hK K
     (try simp only [Act.put,List.setIfInBounds_toArray,List.set_cons_zero,List.set_cons_succ])
     refine wpAnyH_done (by kernel_rfl) ?_ _
     go_wp2_with fail
     go_meet
     have hb3 := bal (Below.refl _ u1) (tbO ⟨#[117]⟩ x2 y2 z2 x2' y2' z2')
     refine ⟨tabU,u1.heap.size,_,_,_,_,_,_,r1,rfl,.inr rfl,by have := hE.size; omega,by have := hE.size; omega,Blk.new u1 _,(rU.keep (by decide) fun b hb hl => hb3.block b hl).mono (by decide) (fun b hb _ => ⟨hb.1,hb.2.1⟩),(hx.keep (by decide) fun b hb hl => hb3.block b hl).mono (by decide) (fun b hb _ => ⟨hb.1,hb.2.1⟩),(hY2.but hE (by omega)).later hb3,(hR2.but hE (by omega)).later hb3,hp1.later hb3,hl1,(hU2.trans hE).trans (But.of hb3)⟩
  ·go_simp
   have hA : But g W (W.alloc zTb).drew := hD.alloc _
   have hpA : Pk (W.alloc zTb).drew g r := hpD.alloc _
   have hAa : Blk (W.alloc zTb).drew W.heap.size zTb := Blk.new W.drew zTb
   refine hK.out _ _ ((hY2.but hA (by omega)).cell 0) (fun hHeld => ?_)
   clear hK K
   (try simp only [Act.put,List.setIfInBounds_toArray,List.set_cons_zero,List.set_cons_succ])
   refine wpAnyH_ready (rs := [3]) (by kernel_rfl) (by simp) ?_
   refine AllReadyH.cons rfl (fun K hK => ?_) AllReadyH.nil
   go_simp
   go_wp2_with (first | (go_at_call 39; refine Calls.mono (num_any hpA 2 (by decide) (by decide)) ?_; rintro e u1 ⟨k,r1,rfl,hk,hl1,hp1,hb1⟩))
   have hE : But g W u1 := hA.trans hb1
   have hx := HT.out u1 hE
   obtain ⟨hbt,-,-,⟨x1,y1,z1,x1',y1',z1',t0,t1,t2,rT⟩,⟨x2,y2,z2,x2',y2',z2',u0,u2,u3,rU⟩⟩ := hx.tabs
   have hAb := hAa.but hb1 (by omega)
   rcases (show k = 0 ∨ k = 1 by omega) with rfl | rfl
   ·refine hK.out _ _ ((hY2.but hE (by omega)).cell 0) (fun hHeld => ?_)
    clear hK K
    (try simp only [Act.put,List.setIfInBounds_toArray,List.set_cons_zero,List.set_cons_succ])
    refine wpAnyH_take (i := 4) (v := ?tv6) rfl (by kernel_rfl) (by kernel_rfl) (by kernel_rfl) (fun _ _ _ h => h) (Or.inl ⟨by rfl,?hy6⟩) (by assumption) ?rs6
    case hy6 => (intro w9 hSw; (try dsimp only at hSw); go_simp; (try with_reducible rfl))
    (try simp only [Act.put,List.setIfInBounds_toArray,List.set_cons_zero,List.set_cons_succ])
    refine wpAnyH_ready (rs := [5]) (by kernel_rfl) (by simp) ?_
    refine AllReadyH.cons rfl (fun K hK => ?_) AllReadyH.nil
    go_simp
    refine hK.out _ _ (hHeld) (fun hHeld => ?_)
    clear hK K
    (try simp only [Act.put,List.setIfInBounds_toArray,List.set_cons_zero,List.set_cons_succ])
    refine wpAnyH_ready (rs := [7]) (by kernel_rfl) (by simp) ?_
    refine AllReadyH.cons rfl (fun K hK => ?_) AllReadyH.nil
    have hbl := hAb.lt
    have f0 := hAb.free 0
    have f1 := hAb.free 1
    have f2 := hAb.free 2
    have c0 := hAb.cell 0
    have c1 := hAb.cell 1
    have c2 := hAb.cell 2
    simp at c0 c1 c2
    go_simp
    refine hK.out _ _ (((((hY2.but hE (by omega)).other (by omega) 0 _).other (by omega) 1 _).other (by omega) 2 _).cell 0) (fun hHeld => ?_)
    clear hK K
    (try simp only [Act.put,List.setIfInBounds_toArray,List.set_cons_zero,List.set_cons_succ])
    refine wpAnyH_done (by kernel_rfl) ?_ _
    go_wp2_with fail
    go_meet
    have hk3 : ∀ j,j ≠ W.heap.size → (((u1.setCell ⟨W.heap.size,0,none⟩ (.string ⟨#[116]⟩)).setCell ⟨W.heap.size,1,none⟩ (.slice x1 y1 z1)).setCell ⟨W.heap.size,2,none⟩ (.slice x1' y1' z1')).heap[j]? = u1.heap[j]? := fun j hj => (Below.heap_setCell _ _ _ _ hj).trans ((Below.heap_setCell _ _ _ _ hj).trans (Below.heap_setCell _ _ _ _ hj))
    refine ⟨tabT,W.heap.size,_,_,_,_,_,_,r1,rfl,.inl rfl,by omega,by omega,hAb.set3 _ _ _,(rT.keep (by decide) fun b hb hl => hk3 b (by omega)).mono (by decide) (fun b hb _ => ⟨hb.1,hb.2.1⟩),(hx.keep (by decide) fun b hb hl => hk3 b (by omega)).mono (by decide) (fun b hb _ => ⟨hb.1,hb.2.1⟩),(hY2.but hE (by omega)).keep (hk3 _ (by omega)),(hR2.but hE (by omega)).keep (hk3 _ (by omega)),hp1.new3 (by omega) _ _ _,hl1,(hU2.trans hE).new3 (by rw [← HX.out]; omega) _ _ _⟩
   ·refine hK.out _ _ ((hY2.but hE (by omega)).cell 0) (fun hHeld => ?_)
    clear hK K
    (try simp only [Act.put,List.setIfInBounds_toArray,List.set_cons_zero,List.set_cons_succ])
    refine wpAnyH_take (i := 4) (v := ?tv7) rfl (by kernel_rfl) (by kernel_rfl) (by kernel_rfl) (fun _ _ _ h => h) (Or.inl ⟨by rfl,?hy7⟩) (by assumption) ?rs7
    case hy7 => (intro w9 hSw; (try dsimp only at hSw); go_simp; (try with_reducible rfl))
    (try simp only [Act.put,List.setIfInBounds_toArray,List.set_cons_zero,List.set_cons_succ])
    refine wpAnyH_ready (rs := [5]) (by kernel_rfl) (by simp) ?_
    refine AllReadyH.cons rfl (fun K hK => ?_) AllReadyH.nil
    go_simp
    refine hK.out _ _ (hHeld) (fun hHeld => ?_)
    clear hK K
    (try simp only [Act.put,List.setIfInBounds_toArray,List.set_cons_zero,List.set_cons_succ])
    refine wpAnyH_ready (rs := [7]) (by kernel_rfl) (by simp) ?_
    refine AllReadyH.cons rfl (fun K hK => ?_) AllReadyH.nil
    have hbl := hAb.lt
    have f0 := hAb.free 0
    have f1 := hAb.free 1
    have f2 := hAb.free 2
    have c0 := hAb.cell 0
    have c1 := hAb.cell 1
    have c2 := hAb.cell 2
    simp at c0 c1 c2
    go_simp
    refine hK.out _ _ (((((hY2.but hE (by omega)).other (by omega) 0 _).other (by omega) 1 _).other (by omega) 2 _).cell 0) (fun hHeld => ?_)
    clear hK K
    (try simp only [Act.put,List.setIfInBounds_toArray,List.set_cons_zero,List.set_cons_succ])
    refine wpAnyH_done (by kernel_rfl) ?_ _
    go_wp2_with fail
    go_meet
    have hk3 : ∀ j,j ≠ W.heap.size → (((u1.setCell ⟨W.heap.size,0,none⟩ (.string ⟨#[117]⟩)).setCell ⟨W.heap.size,1,none⟩ (.slice x2 y2 z2)).setCell ⟨W.heap.size,2,none⟩ (.slice x2' y2' z2')).heap[j]? = u1.heap[j]? := fun j hj => (Below.heap_setCell _ _ _ _ hj).trans ((Below.heap_setCell _ _ _ _ hj).trans (Below.heap_setCell _ _ _ _ hj))
    refine ⟨tabU,W.heap.size,_,_,_,_,_,_,r1,rfl,.inr rfl,by omega,by omega,hAb.set3 _ _ _,(rU.keep (by decide) fun b hb hl => hk3 b (by omega)).mono (by decide) (fun b hb _ => ⟨hb.1,hb.2.1⟩),(hx.keep (by decide) fun b hb hl => hk3 b (by omega)).mono (by decide) (fun b hb _ => ⟨hb.1,hb.2.1⟩),(hY2.but hE (by omega)).keep (hk3 _ (by omega)),(hR2.but hE (by omega)).keep (hk3 _ (by omega)),hp1.new3 (by omega) _ _ _,hl1,(hU2.trans hE).new3 (by rw [← HX.out]; omega) _ _ _⟩
 case rest =>
  obtain ⟨tb,x,a,n,c,a',n',c',r2,rfl,htb,hzx,hyx,hX,hrow,hT,hY,hR,hp,hl,hU⟩ := hcut
  clear hR2 hT2 hY2 hU2 hp2
  obtain ⟨hone,htwo,hl3⟩ := has1 htb
  have hcl : tb.2.length = 3 := by rw [colsOf,List.length_map] at hl3; exact hl3
  have HC : Hid _ := hid (playCols_any (nm := tb.1) (a' := a') (n' := n') (c' := c') hrow (by omega))
  have e0 : wc.cell? ⟨x,0,none⟩ = some (.string tb.1) := hX.cell 0
  have e1 : wc.cell? ⟨x,1,none⟩ = some (.slice a n c) := hX.cell 1
  have e2 : wc.cell? ⟨x,2,none⟩ = some (.slice a' n' c') := hX.cell 2
  have hxl := hX.lt
  go_wp2_with fail
  refine Calls.mono HC.out ?_
  rintro e w3 ⟨v1,v2,rfl,ho1,ho2,hap,hb3⟩
  have hX3 := hX.later hb3
  have hrow3 := hrow.keep (by decide) fun b _ hl => hb3.block b hl
  have hT3 := hT.keep (by decide) fun b _ hl => hb3.block b hl
  have hY3 := hY.later hb3
  have hR3 := hR.later hb3
  have hp3 := hp.later hb3
  have hU3 := hU.trans (But.of hb3)
  have hs3 := hb3.size
  have hgx : g < wc.heap.size := by omega
  have ho1' : OwnR 66 3 wc.heap.size w3 v1 ((colsOf tb).map fun x => itC x.1) := by rw [colsOf,List.map_map]; exact ho1
  have ho2' : OwnR 3 1 wc.heap.size w3 v2 ((colsOf tb).map fun x => [.int .i64 x.2]) := by rw [colsOf,List.map_map]; exact ho2
  clear HC hX hrow hT hY hR hp hU e0 e1 e2 hb3 ho1 ho2 hap
  obtain ⟨i1,m1,j1,rfl⟩ := ho1'.sl
  obtain ⟨i2,m2,j2,rfl⟩ := ho2'.sl
  obtain ⟨e5,e6,hC3⟩ := Cols.of (g := g) ho1' ho2' (by omega) (by omega) hone htwo
  subst e5
  subst e6
  have HL3 : Hid _ := hid (And.intro hl3 hcl)
  clear hl3 hcl hone htwo
  have HN : Hid _ := hid (num_any hp3 7 (by decide) (by decide))
  clear ho1' ho2'
  go_wp2_with fail
  refine Calls.mono HN.out ?_
  rintro e w4 ⟨k,r4,rfl,hk,hl4,hp4,hb4⟩
  have hX4 := hX3.but hb4 (by omega)
  have hrow4 := hrow3.keep (by decide) fun b hq hl => hb4.block b hl hq.1
  have hT4 := hT3.keep (by decide) fun b hq hl => hb4.block b hl hq.1
  have hY4 := hY3.but hb4 (by omega)
  have hR4 := hR3.but hb4 (by omega)
  have hU4 := hU3.trans hb4
  have hC4 := hC3.but hb4
  have hl5 := hl.on hl4.1
  have hxl4 := hX4.lt
  have hyl4 := hY4.lt
  have hzl4 := hR4.lt
  clear HN hX3 hrow3 hT3 hY3 hR3 hp3 hU3 hC3 hb4 hl hl4
  have e0 : w4.cell? ⟨x,0,none⟩ = some (.string tb.1) := hX4.cell 0
  have e1 : w4.cell? ⟨x,1,none⟩ = some (.slice a n c) := hX4.cell 1
  have e2 : w4.cell? ⟨x,2,none⟩ = some (.slice a' n' c') := hX4.cell 2
  by_cases hk3 : k < 3
  ·have hk0 : k = 0 ∨ k = 1 ∨ k = 2 := by omega
   go_upto_if 24 with fail
   go_cut [24] (fun v24 w' => v24 = .bool true ∧ w4 = w')
   case first =>
    clear hX4 hrow4 hT4 hY4 hR4 hp4 hU4 hC4 e0 e1 e2
    rcases hk0 with rfl | rfl | rfl
    all_goals
     go_wp2_with fail
     go_meet
     exact ⟨rfl,rfl⟩
   case rest =>
    obtain ⟨rfl,hwc⟩ := hcut
    subst hwc
    have hnl : tb.2.length = n ∧ n ≤ c ∧ c ≤ 9223372036854775807 := hrow4.len
    have hn3 : n = 3 := by rw [← hnl.1]; exact HL3.out.2
    have hb5 := bal (Below.refl _ w4) (.cells #[.int .i64 5,.string tb.1,.string ⟨#[]⟩,.slice none 0 0,.slice none 0 0,.slice none 0 0,.slice none 0 0,.string ⟨#[]⟩,.slice none 0 0,.slice none 0 0,.slice none 0 0,.bool false,.slice none 0 0] 43)
    have q1 : Bs (w4.alloc (.cells #[.int .i64 5,.string tb.1,.string ⟨#[]⟩,.slice none 0 0,.slice none 0 0,.slice none 0 0,.slice none 0 0,.string ⟨#[]⟩,.slice none 0 0,.slice none 0 0,.slice none 0 0,.bool false,.slice none 0 0] 43)) w4.heap.size (sIns tb.1 (none,0,0)) := Bs.new w4 (sIns tb.1 (none,0,0))
    have q2 : RowIs eCol (fun b => b ≠ g ∧ z < b ∧ b < w4.heap.size) (w4.alloc (.cells #[.int .i64 5,.string tb.1,.string ⟨#[]⟩,.slice none 0 0,.slice none 0 0,.slice none 0 0,.slice none 0 0,.string ⟨#[]⟩,.slice none 0 0,.slice none 0 0,.slice none 0 0,.bool false,.slice none 0 0] 43)) (.slice a n c) tb.2 := (hrow4.mono (by decide) fun b hb hl => ⟨hb.1,hb.2,hl⟩).keep (by decide) fun b _ hl => hb5.block b hl
    have hI : InsR g r z w4.heap.size x w tb (tbO tb.1 a n c a' n' c') a n c [] (none,0,0) r4 (w4.alloc (.cells #[.int .i64 5,.string tb.1,.string ⟨#[]⟩,.slice none 0 0,.slice none 0 0,.slice none 0 0,.slice none 0 0,.string ⟨#[]⟩,.slice none 0 0,.slice none 0 0,.slice none 0 0,.bool false,.slice none 0 0] 43)) := InsR.zero q1 hl5 (hp4.later hb5) (hU4.trans (But.of hb5)) (hX4.later hb5) q2 (hR4.later hb5)
    have hwq : w.heap.size ≤ w4.heap.size := hU4.size
    clear q1 q2 hb5 hX4 hrow4 hT4 hY4 hR4 hp4 hU4 hC4 e1 e2 hk0 hk3 hk
    go_upto_region 9 with fail
    generalize w4.alloc (.cells #[.int .i64 5,.string tb.1,.string ⟨#[]⟩,.slice none 0 0,.slice none 0 0,.slice none 0 0,.slice none 0 0,.string ⟨#[]⟩,.slice none 0 0,.slice none 0 0,.slice none 0 0,.bool false,.slice none 0 0] 43) = W5 at *
    generalize w4.heap.size = q at *
    subst hn3
    have hcc := hnl.2
    have hl3 : Hid (tb.2.length = 3) := hid hnl.1
    clear hnl e0
    go_wp2
    go_loopw [8] (fun v8 wr => ∃ (i : Nat) (ps : List Pay) (v : Sl) (r5 : Nat),v8 = .int .i64 i ∧ ps.length = i ∧ i ≤ 3 ∧ InsR g r z q x w tb (tbO tb.1 a 3 c a' n' c') a 3 c ps v r5 wr) (fun v8 _ => 3 - (intOf v8).toNat)
    case atStart => exact ⟨0,[],(none,0,0),r4,rfl,rfl,by decide,hI⟩
    case round =>
     clear hI
     obtain ⟨i,ps,v,r5,rfl,hpl,hi3,hI⟩ := hrel
     have e1 : wr.cell? ⟨x,1,none⟩ = some (.slice a 3 c) := hI.blk.cell 1
     have hxl' := hI.blk.lt
     have hql := hI.box.lt
     have hrl := hI.res.lt
     by_cases hlt : i < 3
     ·have glt : decide ((i : Int) < 3) = true := by simp; omega
      have hil : i < tb.2.length := by rw [hl3.out]; exact hlt
      obtain ⟨b,f,rfl,-,c1,-⟩ := hI.row.col1 (k := i) hil
      have hkd : tb.2[i].2.1 = 1 ∨ tb.2[i].2.1 = 2 := by
       have hm : tb.2[i] ∈ tb.2 := List.getElem_mem _
       generalize tb.2[i] = y at hm
       rcases htb with rfl | rfl
       ·simp [tabT] at hm; rcases hm with rfl | rfl | rfl <;> simp
       ·simp [tabU] at hm; rcases hm with rfl | rfl | rfl <;> simp
      generalize hkk : tb.2[i].2.1 = kd at *
      have hrowb : b ≠ g ∧ z < b ∧ b < q := hI.row.inb hil
      have HK : Hid (∀ w',But g wr w' → w'.cell? ⟨x,1,none⟩ = some (.slice (some ⟨b,f,none⟩) 3 c) ∧ w'.cell? ⟨b,f + i * 3 + 1,none⟩ = some (.int .i64 kd)) := hid fun w' hb => ⟨(hI.blk.but hb (by omega)).cell 1,(World.cell?_of_block (a := ⟨b,_,none⟩) (hb.block b (World.block_lt_of_cell? _ _ c1) hrowb.1)).trans c1⟩
      have HQ : Hid (∀ w',But g wr w' → w'.cell? ⟨q,5,none⟩ = some (.slice v.1 v.2.1 v.2.2) ∧ w'.frozen? ⟨q,5,none⟩ = false ∧ q < w'.heap.size) := hid fun w' hb => ⟨(hI.box.but hb (by omega)).cells.2.2.2.2.2.1,(hI.box.but hb (by omega)).free.2.2.2.2.2.1,(hI.box.but hb (by omega)).lt⟩
      have cq0 := hI.box.cells.2.2.2.2.2.1
      have hD : But g wr wr.drew := But.of (Below.refl _ wr).drew
      have hpD := hI.pk.later (Below.refl _ wr).drew
      have hblk := hI.own.blk
      have HI : Hid _ := hid hI
      have i0 : (0 : Int) ≤ (i : Int) := by omega
      have i1 : (i : Int) < 3 := by omega
      clear htb hI
      go_upto_region 12 with fail
      refine wp_region_held_drew (S := (fun w' => w'.cell? ⟨x,1,none⟩ = some (.slice (some ⟨b,f,none⟩) 3 c) ∧ w'.cell? ⟨b,f + i * 3 + 1,none⟩ = some (.int .i64 kd))) (by kernel_rfl) (HK.out _ hD) (fun hHeld => ?_)
      refine wpAnyH_take (i := 0) (v := ?tv22) rfl (by kernel_rfl) (by kernel_rfl) (by kernel_rfl) (fun _ _ _ h => h) (Or.inl ⟨by rfl,?hy22⟩) (by assumption) ?rs22
      case hy22 => (intro w9 hSw; (try dsimp only at hSw); go_simp; (try with_reducible rfl))
      (try simp only [Act.put,List.setIfInBounds_toArray,List.set_cons_zero,List.set_cons_succ])
      refine wpAnyH_take (i := 2) (v := ?tv23) rfl (by kernel_rfl) (by kernel_rfl) (by kernel_rfl) (fun _ _ _ h => h) (Or.inl ⟨by rfl,?hy23⟩) (by assumption) ?rs23
      case hy23 => (intro w9 hSw; (try dsimp only at hSw); go_simp; (try with_reducible rfl))
      (try simp only [Act.put,List.setIfInBounds_toArray,List.set_cons_zero,List.set_cons_succ])
      refine wpAnyH_take (i := 3) (v := ?tv24) rfl (by kernel_rfl) (by kernel_rfl) (by kernel_rfl) (fun _ _ _ h => h) (Or.inl ⟨by rfl,?hy24⟩) (by assumption) ?rs24
      case hy24 => (intro w9 hSw; (try dsimp only at hSw); go_simp; (try with_reducible rfl))
      (try simp only [Act.put,List.setIfInBounds_toArray,List.set_cons_zero,List.set_cons_succ])
      refine wpAnyH_take (i := 4) (v := ?tv25) rfl (by kernel_rfl) (by kernel_rfl) (by kernel_rfl) (fun _ _ _ h => h) (Or.inl ⟨by rfl,?hy25⟩) (by assumption) ?rs25
      case hy25 => (intro w9 hSw; (try dsimp only at hSw); go_simp; (try with_reducible rfl))
      (try simp only [Act.put,List.setIfInBounds_toArray,List.set_cons_zero,List.set_cons_succ])
      refine wpAnyH_take (i := 5) (v := ?tv26) rfl (by kernel_rfl) (by kernel_rfl) (by kernel_rfl) (fun _ _ _ h => h) (Or.inl ⟨by rfl,?hy26⟩) (by assumption) ?rs26
      case hy26 => (intro w9 hSw; (try dsimp only at hSw); go_simp; (try with_reducible rfl))
      (try simp only [Act.put,List.setIfInBounds_toArray,List.set_cons_zero,List.set_cons_succ])
      refine wpAnyH_take (i := 6) (v := ?tv27) rfl (by kernel_rfl) (by kernel_rfl) (by kernel_rfl) (fun _ _ _ h => h) (Or.inl ⟨by rfl,?hy27⟩) (by assumption) ?rs27
      case hy27 => (intro w9 hSw; (try dsimp only at hSw); go_simp; (try with_reducible rfl))
      (try simp only [Act.put,List.setIfInBounds_toArray,List.set_cons_zero,List.set_cons_succ])
      refine wpAnyH_take (i := 7) (v := ?tv28) rfl (by kernel_rfl) (by kernel_rfl) (by kernel_rfl) (fun _ _ _ h => h) (Or.inl ⟨by rfl,?hy28⟩) (by assumption) ?rs28
      case hy28 => (intro w9 hSw; (try dsimp only at hSw); go_simp; (try with_reducible rfl))
      (try simp only [Act.put,List.setIfInBounds_toArray,List.set_cons_zero,List.set_cons_succ])
      refine wpAnyH_take (i := 8) (v := ?tv29) rfl (by kernel_rfl) (by kernel_rfl) (by kernel_rfl) (fun _ _ _ h => h) (Or.inl ⟨by rfl,?hy29⟩) (by assumption) ?rs29
      case hy29 => (intro w9 hSw; (try dsimp only at hSw); go_simp; (try with_reducible rfl))
      (try simp only [Act.put,List.setIfInBounds_toArray,List.set_cons_zero,List.set_cons_succ])
      refine wpAnyH_ready (rs := [1,9]) (by kernel_rfl) (by simp) ?_
      refine AllReadyH.cons rfl (fun K hK => ?_) (AllReadyH.cons rfl (fun K hK => ?_) AllReadyH.nil)
      ·go_simp
       refine hK.out _ _ (hHeld) (fun hHeld => ?_)
       clear hK K
       (try simp only [Act.put,List.setIfInBounds_toArray,List.set_cons_zero,List.set_cons_succ])
       refine wpAnyH_ready (rs := [9]) (by kernel_rfl) (by simp) ?_
       refine AllReadyH.cons rfl (fun K hK => ?_) AllReadyH.nil
       go_simp
       go_wp2_with (first | (go_at_call 48; refine Calls.mono (value_any hpD kd hkd) ?_; rintro e u1 ⟨iv,tx,r6,rfl,hva,hl6,hp6,hb6⟩))
       have hE : But g wr u1 := hD.trans hb6
       obtain ⟨cq1,fq1,hq1⟩ := HQ.out u1 hE
       refine hK.out _ _ (HK.out _ hE) (fun hHeld => ?_)
       clear hK K
       (try simp only [Act.put,List.setIfInBounds_toArray,List.set_cons_zero,List.set_cons_succ])
       refine wpAnyH_ready (rs := [10]) (by kernel_rfl) (by simp) ?_
       refine AllReadyH.cons rfl (fun K hK => ?_) AllReadyH.nil
       go_simp
       go_wp2_with (first | (go_at_call 47; refine Calls.mono (lit_any kd iv tx u1) ?_; rintro e u2 ⟨rfl,hb7⟩; unfold exV))
       have hE2 : But g wr u2 := hE.trans (But.of hb7)
       obtain ⟨cq2,fq2,hq2⟩ := HQ.out u2 hE2
       have hp7 := hp6.later hb7
       refine hK.out _ _ (HK.out _ hE2) (fun hHeld => ?_)
       clear hK K
       (try simp only [Act.put,List.setIfInBounds_toArray,List.set_cons_zero,List.set_cons_succ])
       refine wpAnyH_ready (rs := [11]) (by kernel_rfl) (by simp) ?_
       refine AllReadyH.cons rfl (fun K hK => ?_) AllReadyH.nil
       go_simp
       have hE3 : But g wr (u2.alloc (.cells #[.int .i64 1,.int .i64 kd,.int .i64 iv,.string tx,.string ⟨#[]⟩,.string ⟨#[]⟩,.slice none 0 0] 28)) := hE2.alloc _
       have ho5 := (HI.out.own.but hE2 (by omega)).alloc (.cells #[.int .i64 1,.int .i64 kd,.int .i64 iv,.string tx,.string ⟨#[]⟩,.string ⟨#[]⟩,.slice none 0 0] 28)
       refine hK.out _ _ (HK.out _ hE3) (fun hHeld => ?_)
       clear hK K
       (try simp only [Act.put,List.setIfInBounds_toArray,List.set_cons_zero,List.set_cons_succ])
       refine wpAnyH_ready (rs := [12]) (by kernel_rfl) (by simp) ?_
       refine AllReadyH.cons rfl (fun K hK => ?_) AllReadyH.nil
       refine step_appR (B := q + 1) (by rfl) (.tmp 39) (.tmp 49) (by rfl) Tryz.underlying26 Tryz.infoTExpr rfl (by decide) (by decide) _ (ps.map fun p => exC 1 p (.slice none 0 0)) u2.heap.size [.int .i64 1,.int .i64 kd,.int .i64 iv,.string tx,.string ⟨#[]⟩,.string ⟨#[]⟩,.slice none 0 0] (by rfl) (by rfl) ho5 rfl (by simp [Value.oneCell']) (new7 u2 _ _ _ _ _ _ _ _) (by simp; omega) (by rw [World.size_alloc]; omega) ?_
       intro v' w6 hO6 hg6 hown
       obtain ⟨ao',m',c'',rfl⟩ := hO6.sl
       have hR : InsR g r z q x w tb (tbO tb.1 (some ⟨b,f,none⟩) 3 c a' n' c') (some ⟨b,f,none⟩) 3 c (ps ++ [(kd,iv,tx,⟨#[]⟩,⟨#[]⟩)]) (ao',m',c'') r6 (w6.setCell ⟨q,5,none⟩ (.slice ao' m' c'')) := HI.out.next (v' := (ao',m',c'')) (by rw [hpl]; exact hil) (by simp only [hpl]; exact hkk) hva hl6 (hp7.alloc (.cells #[.int .i64 1,.int .i64 kd,.int .i64 iv,.string tx,.string ⟨#[]⟩,.string ⟨#[]⟩,.slice none 0 0] 28)) hE3 hgl hzx (by omega) hwq hg6 hO6
       have cz : w6.cell? ⟨q,5,none⟩ = some (.slice v.1 v.2.1 v.2.2) := (World.cell?_of_block (a := ⟨q,5,none⟩) (hg6.block q (by rw [World.size_alloc]; omega) fun e => by have := (hblk q e.symm).1; omega)).trans (HQ.out _ hE3).1
       have fz : w6.frozen? ⟨q,5,none⟩ = false := (frozen_of_block (a := ⟨q,5,none⟩) (hg6.block q (by rw [World.size_alloc]; omega) fun e => by have := (hblk q e.symm).1; omega)).trans (HQ.out _ hE3).2.1
       have hq6 : q < w6.heap.size := World.block_lt_of_cell? _ _ cz
       have cx : w6.cell? ⟨x,1,none⟩ = some (.slice (some ⟨b,f,none⟩) 3 c) := (World.cell?_of_block (a := ⟨x,1,none⟩) (hg6.block x (by rw [World.size_alloc]; omega) fun e => by have := (hblk x e.symm).1; omega)).trans (HK.out _ hE3).1
       have cb : w6.cell? ⟨b,f + i * 3 + 1,none⟩ = some (.int .i64 kd) := (World.cell?_of_block (a := ⟨b,_,none⟩) (hg6.block b (by rw [World.size_alloc]; omega) fun e => by have := (hblk b e.symm).1; omega)).trans (HK.out _ hE3).2
       clear hO6 hg6 hown ho5
       refine hK.out _ _ (⟨cx,cb⟩) (fun hHeld => ?_)
       clear hK K
       (try simp only [Act.put,List.setIfInBounds_toArray,List.set_cons_zero,List.set_cons_succ])
       refine wpAnyH_take (i := 13) (v := ?tv30) rfl (by kernel_rfl) (by kernel_rfl) (by kernel_rfl) (fun _ _ _ h => h) (Or.inl ⟨by rfl,?hy30⟩) (by assumption) ?rs30
       case hy30 => (intro w9 hSw; (try dsimp only at hSw); go_simp; (try with_reducible rfl))
       (try simp only [Act.put,List.setIfInBounds_toArray,List.set_cons_zero,List.set_cons_succ])
       refine wpAnyH_ready (rs := [14]) (by kernel_rfl) (by simp) ?_
       refine AllReadyH.cons rfl (fun K hK => ?_) AllReadyH.nil
       go_simp
       refine hK.out _ _ (⟨(World.cell?_of_block (a := ⟨x,1,none⟩) (Below.heap_setCell _ _ _ _ (by show x ≠ q; omega))).trans cx,(World.cell?_of_block (a := ⟨b,_,none⟩) (Below.heap_setCell _ _ _ _ (by show b ≠ q; omega))).trans cb⟩) (fun hHeld => ?_)
       clear hK K
       (try simp only [Act.put,List.setIfInBounds_toArray,List.set_cons_zero,List.set_cons_succ])
       refine wpAnyH_done (by kernel_rfl) ?_ _
       clear cx cb cz fz cq0 cq1 cq2 fq1 fq2 HK HQ HI hE hE2 hE3 hb6 hb7 hp6 hp7 hpD hD c1 e1 hkd
       go_wp2
       go_roundw
       case rel => exact ⟨i + 1,_,(ao',m',c''),r6,by go_num,by simp [hpl],by omega,hR⟩
       case measure => simp only [intOf]; omega
      ·go_simp
       go_wp2_with (first | (go_at_call 48; refine Calls.mono (value_any hpD kd hkd) ?_; rintro e u1 ⟨iv,tx,r6,rfl,hva,hl6,hp6,hb6⟩))
       have hE : But g wr u1 := hD.trans hb6
       obtain ⟨cq1,fq1,hq1⟩ := HQ.out u1 hE
       refine hK.out _ _ (HK.out _ hE) (fun hHeld => ?_)
       clear hK K
       (try simp only [Act.put,List.setIfInBounds_toArray,List.set_cons_zero,List.set_cons_succ])
       refine wpAnyH_ready (rs := [1,10]) (by kernel_rfl) (by simp) ?_
       refine AllReadyH.cons rfl (fun K hK => ?_) (AllReadyH.cons rfl (fun K hK => ?_) AllReadyH.nil)
       ·go_simp
        refine hK.out _ _ (hHeld) (fun hHeld => ?_)
        clear hK K
        (try simp only [Act.put,List.setIfInBounds_toArray,List.set_cons_zero,List.set_cons_succ])
        refine wpAnyH_ready (rs := [10]) (by kernel_rfl) (by simp) ?_
        refine AllReadyH.cons rfl (fun K hK => ?_) AllReadyH.nil
        go_simp
        go_wp2_with (first | (go_at_call 47; refine Calls.mono (lit_any kd iv tx u1) ?_; rintro e u2 ⟨rfl,hb7⟩; unfold exV))
        have hE2 : But g wr u2 := hE.trans (But.of hb7)
        obtain ⟨cq2,fq2,hq2⟩ := HQ.out u2 hE2
        have hp7 := hp6.later hb7
        refine hK.out _ _ (HK.out _ hE2) (fun hHeld => ?_)
        clear hK K
        (try simp only [Act.put,List.setIfInBounds_toArray,List.set_cons_zero,List.set_cons_succ])
        refine wpAnyH_ready (rs := [11]) (by kernel_rfl) (by simp) ?_
        refine AllReadyH.cons rfl (fun K hK => ?_) AllReadyH.nil
        go_simp
        have hE3 : But g wr (u2.alloc (.cells #[.int .i64 1,.int .i64 kd,.int .i64 iv,.string tx,.string ⟨#[]⟩,.string ⟨#[]⟩,.slice none 0 0] 28)) := hE2.alloc _
        have ho5 := (HI.out.own.but hE2 (by omega)).alloc (.cells #[.int .i64 1,.int .i64 kd,.int .i64 iv,.string tx,.string ⟨#[]⟩,.string ⟨#[]⟩,.slice none 0 0] 28)
        refine hK.out _ _ (HK.out _ hE3) (fun hHeld => ?_)
        clear hK K
        (try simp only [Act.put,List.setIfInBounds_toArray,List.set_cons_zero,List.set_cons_succ])
        refine wpAnyH_ready (rs := [12]) (by kernel_rfl) (by simp) ?_
        refine AllReadyH.cons rfl (fun K hK => ?_) AllReadyH.nil
        refine step_appR (B := q + 1) (by rfl) (.tmp 39) (.tmp 49) (by rfl) Tryz.underlying26 Tryz.infoTExpr rfl (by decide) (by decide) _ (ps.map fun p => exC 1 p (.slice none 0 0)) u2.heap.size [.int .i64 1,.int .i64 kd,.int .i64 iv,.string tx,.string ⟨#[]⟩,.string ⟨#[]⟩,.slice none 0 0] (by rfl) (by rfl) ho5 rfl (by simp [Value.oneCell']) (new7 u2 _ _ _ _ _ _ _ _) (by simp; omega) (by rw [World.size_alloc]; omega) ?_
        intro v' w6 hO6 hg6 hown
        obtain ⟨ao',m',c'',rfl⟩ := hO6.sl
        have hR : InsR g r z q x w tb (tbO tb.1 (some ⟨b,f,none⟩) 3 c a' n' c') (some ⟨b,f,none⟩) 3 c (ps ++ [(kd,iv,tx,⟨#[]⟩,⟨#[]⟩)]) (ao',m',c'') r6 (w6.setCell ⟨q,5,none⟩ (.slice ao' m' c'')) := HI.out.next (v' := (ao',m',c'')) (by rw [hpl]; exact hil) (by simp only [hpl]; exact hkk) hva hl6 (hp7.alloc (.cells #[.int .i64 1,.int .i64 kd,.int .i64 iv,.string tx,.string ⟨#[]⟩,.string ⟨#[]⟩,.slice none 0 0] 28)) hE3 hgl hzx (by omega) hwq hg6 hO6
        have cz : w6.cell? ⟨q,5,none⟩ = some (.slice v.1 v.2.1 v.2.2) := (World.cell?_of_block (a := ⟨q,5,none⟩) (hg6.block q (by rw [World.size_alloc]; omega) fun e => by have := (hblk q e.symm).1; omega)).trans (HQ.out _ hE3).1
        have fz : w6.frozen? ⟨q,5,none⟩ = false := (frozen_of_block (a := ⟨q,5,none⟩) (hg6.block q (by rw [World.size_alloc]; omega) fun e => by have := (hblk q e.symm).1; omega)).trans (HQ.out _ hE3).2.1
        have hq6 : q < w6.heap.size := World.block_lt_of_cell? _ _ cz
        have cx : w6.cell? ⟨x,1,none⟩ = some (.slice (some ⟨b,f,none⟩) 3 c) := (World.cell?_of_block (a := ⟨x,1,none⟩) (hg6.block x (by rw [World.size_alloc]; omega) fun e => by have := (hblk x e.symm).1; omega)).trans (HK.out _ hE3).1
        have cb : w6.cell? ⟨b,f + i * 3 + 1,none⟩ = some (.int .i64 kd) := (World.cell?_of_block (a := ⟨b,_,none⟩) (hg6.block b (by rw [World.size_alloc]; omega) fun e => by have := (hblk b e.symm).1; omega)).trans (HK.out _ hE3).2
        clear hO6 hg6 hown ho5
        refine hK.out _ _ (⟨cx,cb⟩) (fun hHeld => ?_)
        clear hK K
        (try simp only [Act.put,List.setIfInBounds_toArray,List.set_cons_zero,List.set_cons_succ])
        refine wpAnyH_take (i := 13) (v := ?tv31) rfl (by kernel_rfl) (by kernel_rfl) (by kernel_rfl) (fun _ _ _ h => h) (Or.inl ⟨by rfl,?hy31⟩) (by assumption) ?rs31
        case hy31 => (intro w9 hSw; (try dsimp only at hSw); go_simp; (try with_reducible rfl))
        (try simp only [Act.put,List.setIfInBounds_toArray,List.set_cons_zero,List.set_cons_succ])
        refine wpAnyH_ready (rs := [14]) (by kernel_rfl) (by simp) ?_
        refine AllReadyH.cons rfl (fun K hK => ?_) AllReadyH.nil
        go_simp
        refine hK.out _ _ (⟨(World.cell?_of_block (a := ⟨x,1,none⟩) (Below.heap_setCell _ _ _ _ (by show x ≠ q; omega))).trans cx,(World.cell?_of_block (a := ⟨b,_,none⟩) (Below.heap_setCell _ _ _ _ (by show b ≠ q; omega))).trans cb⟩) (fun hHeld => ?_)
        clear hK K
        (try simp only [Act.put,List.setIfInBounds_toArray,List.set_cons_zero,List.set_cons_succ])
        refine wpAnyH_done (by kernel_rfl) ?_ _
        clear cx cb cz fz cq0 cq1 cq2 fq1 fq2 HK HQ HI hE hE2 hE3 hb6 hb7 hp6 hp7 hpD hD c1 e1 hkd
        go_wp2
        go_roundw
        case rel => exact ⟨i + 1,_,(ao',m',c''),r6,by go_num,by simp [hpl],by omega,hR⟩
        case measure => simp only [intOf]; omega
       ·go_simp
        go_wp2_with (first | (go_at_call 47; refine Calls.mono (lit_any kd iv tx u1) ?_; rintro e u2 ⟨rfl,hb7⟩; unfold exV))
        have hE2 : But g wr u2 := hE.trans (But.of hb7)
        obtain ⟨cq2,fq2,hq2⟩ := HQ.out u2 hE2
        have hp7 := hp6.later hb7
        refine hK.out _ _ (HK.out _ hE2) (fun hHeld => ?_)
        clear hK K
        (try simp only [Act.put,List.setIfInBounds_toArray,List.set_cons_zero,List.set_cons_succ])
        refine wpAnyH_ready (rs := [1,11]) (by kernel_rfl) (by simp) ?_
        refine AllReadyH.cons rfl (fun K hK => ?_) (AllReadyH.cons rfl (fun K hK => ?_) AllReadyH.nil)
        ·go_simp
         refine hK.out _ _ (hHeld) (fun hHeld => ?_)
         clear hK K
         (try simp only [Act.put,List.setIfInBounds_toArray,List.set_cons_zero,List.set_cons_succ])
         refine wpAnyH_ready (rs := [11]) (by kernel_rfl) (by simp) ?_
         refine AllReadyH.cons rfl (fun K hK => ?_) AllReadyH.nil
         go_simp
         have hE3 : But g wr (u2.alloc (.cells #[.int .i64 1,.int .i64 kd,.int .i64 iv,.string tx,.string ⟨#[]⟩,.string ⟨#[]⟩,.slice none 0 0] 28)) := hE2.alloc _
         have ho5 := (HI.out.own.but hE2 (by omega)).alloc (.cells #[.int .i64 1,.int .i64 kd,.int .i64 iv,.string tx,.string ⟨#[]⟩,.string ⟨#[]⟩,.slice none 0 0] 28)
         refine hK.out _ _ (HK.out _ hE3) (fun hHeld => ?_)
         clear hK K
         (try simp only [Act.put,List.setIfInBounds_toArray,List.set_cons_zero,List.set_cons_succ])
         refine wpAnyH_ready (rs := [12]) (by kernel_rfl) (by simp) ?_
         refine AllReadyH.cons rfl (fun K hK => ?_) AllReadyH.nil
         refine step_appR (B := q + 1) (by rfl) (.tmp 39) (.tmp 49) (by rfl) Tryz.underlying26 Tryz.infoTExpr rfl (by decide) (by decide) _ (ps.map fun p => exC 1 p (.slice none 0 0)) u2.heap.size [.int .i64 1,.int .i64 kd,.int .i64 iv,.string tx,.string ⟨#[]⟩,.string ⟨#[]⟩,.slice none 0 0] (by rfl) (by rfl) ho5 rfl (by simp [Value.oneCell']) (new7 u2 _ _ _ _ _ _ _ _) (by simp; omega) (by rw [World.size_alloc]; omega) ?_
         intro v' w6 hO6 hg6 hown
         obtain ⟨ao',m',c'',rfl⟩ := hO6.sl
         have hR : InsR g r z q x w tb (tbO tb.1 (some ⟨b,f,none⟩) 3 c a' n' c') (some ⟨b,f,none⟩) 3 c (ps ++ [(kd,iv,tx,⟨#[]⟩,⟨#[]⟩)]) (ao',m',c'') r6 (w6.setCell ⟨q,5,none⟩ (.slice ao' m' c'')) := HI.out.next (v' := (ao',m',c'')) (by rw [hpl]; exact hil) (by simp only [hpl]; exact hkk) hva hl6 (hp7.alloc (.cells #[.int .i64 1,.int .i64 kd,.int .i64 iv,.string tx,.string ⟨#[]⟩,.string ⟨#[]⟩,.slice none 0 0] 28)) hE3 hgl hzx (by omega) hwq hg6 hO6
         have cz : w6.cell? ⟨q,5,none⟩ = some (.slice v.1 v.2.1 v.2.2) := (World.cell?_of_block (a := ⟨q,5,none⟩) (hg6.block q (by rw [World.size_alloc]; omega) fun e => by have := (hblk q e.symm).1; omega)).trans (HQ.out _ hE3).1
         have fz : w6.frozen? ⟨q,5,none⟩ = false := (frozen_of_block (a := ⟨q,5,none⟩) (hg6.block q (by rw [World.size_alloc]; omega) fun e => by have := (hblk q e.symm).1; omega)).trans (HQ.out _ hE3).2.1
         have hq6 : q < w6.heap.size := World.block_lt_of_cell? _ _ cz
         have cx : w6.cell? ⟨x,1,none⟩ = some (.slice (some ⟨b,f,none⟩) 3 c) := (World.cell?_of_block (a := ⟨x,1,none⟩) (hg6.block x (by rw [World.size_alloc]; omega) fun e => by have := (hblk x e.symm).1; omega)).trans (HK.out _ hE3).1
         have cb : w6.cell? ⟨b,f + i * 3 + 1,none⟩ = some (.int .i64 kd) := (World.cell?_of_block (a := ⟨b,_,none⟩) (hg6.block b (by rw [World.size_alloc]; omega) fun e => by have := (hblk b e.symm).1; omega)).trans (HK.out _ hE3).2
         clear hO6 hg6 hown ho5
         refine hK.out _ _ (⟨cx,cb⟩) (fun hHeld => ?_)
         clear hK K
         (try simp only [Act.put,List.setIfInBounds_toArray,List.set_cons_zero,List.set_cons_succ])
         refine wpAnyH_take (i := 13) (v := ?tv32) rfl (by kernel_rfl) (by kernel_rfl) (by kernel_rfl) (fun _ _ _ h => h) (Or.inl ⟨by rfl,?hy32⟩) (by assumption) ?rs32
         case hy32 => (intro w9 hSw; (try dsimp only at hSw); go_simp; (try with_reducible rfl))
         (try simp only [Act.put,List.setIfInBounds_toArray,List.set_cons_zero,List.set_cons_succ])
         refine wpAnyH_ready (rs := [14]) (by kernel_rfl) (by simp) ?_
         refine AllReadyH.cons rfl (fun K hK => ?_) AllReadyH.nil
         go_simp
         refine hK.out _ _ (⟨(World.cell?_of_block (a := ⟨x,1,none⟩) (Below.heap_setCell _ _ _ _ (by show x ≠ q; omega))).trans cx,(World.cell?_of_block (a := ⟨b,_,none⟩) (Below.heap_setCell _ _ _ _ (by show b ≠ q; omega))).trans cb⟩) (fun hHeld => ?_)
         clear hK K
         (try simp only [Act.put,List.setIfInBounds_toArray,List.set_cons_zero,List.set_cons_succ])
         refine wpAnyH_done (by kernel_rfl) ?_ _
         clear cx cb cz fz cq0 cq1 cq2 fq1 fq2 HK HQ HI hE hE2 hE3 hb6 hb7 hp6 hp7 hpD hD c1 e1 hkd
         go_wp2
         go_roundw
         case rel => exact ⟨i + 1,_,(ao',m',c''),r6,by go_num,by simp [hpl],by omega,hR⟩
         case measure => simp only [intOf]; omega
        ·go_simp
         have hE3 : But g wr (u2.alloc (.cells #[.int .i64 1,.int .i64 kd,.int .i64 iv,.string tx,.string ⟨#[]⟩,.string ⟨#[]⟩,.slice none 0 0] 28)) := hE2.alloc _
         have ho5 := (HI.out.own.but hE2 (by omega)).alloc (.cells #[.int .i64 1,.int .i64 kd,.int .i64 iv,.string tx,.string ⟨#[]⟩,.string ⟨#[]⟩,.slice none 0 0] 28)
         refine hK.out _ _ (HK.out _ hE3) (fun hHeld => ?_)
         clear hK K
         (try simp only [Act.put,List.setIfInBounds_toArray,List.set_cons_zero,List.set_cons_succ])
         refine wpAnyH_ready (rs := [1]) (by kernel_rfl) (by simp) ?_
         refine AllReadyH.cons rfl (fun K hK => ?_) AllReadyH.nil
         go_simp
         refine hK.out _ _ (hHeld) (fun hHeld => ?_)
         clear hK K
         (try simp only [Act.put,List.setIfInBounds_toArray,List.set_cons_zero,List.set_cons_succ])
         refine wpAnyH_ready (rs := [12]) (by kernel_rfl) (by simp) ?_
         refine AllReadyH.cons rfl (fun K hK => ?_) AllReadyH.nil
         refine step_appR (B := q + 1) (by rfl) (.tmp 39) (.tmp 49) (by rfl) Tryz.underlying26 Tryz.infoTExpr rfl (by decide) (by decide) _ (ps.map fun p => exC 1 p (.slice none 0 0)) u2.heap.size [.int .i64 1,.int .i64 kd,.int .i64 iv,.string tx,.string ⟨#[]⟩,.string ⟨#[]⟩,.slice none 0 0] (by rfl) (by rfl) ho5 rfl (by simp [Value.oneCell']) (new7 u2 _ _ _ _ _ _ _ _) (by simp; omega) (by rw [World.size_alloc]; omega) ?_
         intro v' w6 hO6 hg6 hown
         obtain ⟨ao',m',c'',rfl⟩ := hO6.sl
         have hR : InsR g r z q x w tb (tbO tb.1 (some ⟨b,f,none⟩) 3 c a' n' c') (some ⟨b,f,none⟩) 3 c (ps ++ [(kd,iv,tx,⟨#[]⟩,⟨#[]⟩)]) (ao',m',c'') r6 (w6.setCell ⟨q,5,none⟩ (.slice ao' m' c'')) := HI.out.next (v' := (ao',m',c'')) (by rw [hpl]; exact hil) (by simp only [hpl]; exact hkk) hva hl6 (hp7.alloc (.cells #[.int .i64 1,.int .i64 kd,.int .i64 iv,.string tx,.string ⟨#[]⟩,.string ⟨#[]⟩,.slice none 0 0] 28)) hE3 hgl hzx (by omega) hwq hg6 hO6
         have cz : w6.cell? ⟨q,5,none⟩ = some (.slice v.1 v.2.1 v.2.2) := (World.cell?_of_block (a := ⟨q,5,none⟩) (hg6.block q (by rw [World.size_alloc]; omega) fun e => by have := (hblk q e.symm).1; omega)).trans (HQ.out _ hE3).1
         have fz : w6.frozen? ⟨q,5,none⟩ = false := (frozen_of_block (a := ⟨q,5,none⟩) (hg6.block q (by rw [World.size_alloc]; omega) fun e => by have := (hblk q e.symm).1; omega)).trans (HQ.out _ hE3).2.1
         have hq6 : q < w6.heap.size := World.block_lt_of_cell? _ _ cz
         have cx : w6.cell? ⟨x,1,none⟩ = some (.slice (some ⟨b,f,none⟩) 3 c) := (World.cell?_of_block (a := ⟨x,1,none⟩) (hg6.block x (by rw [World.size_alloc]; omega) fun e => by have := (hblk x e.symm).1; omega)).trans (HK.out _ hE3).1
         have cb : w6.cell? ⟨b,f + i * 3 + 1,none⟩ = some (.int .i64 kd) := (World.cell?_of_block (a := ⟨b,_,none⟩) (hg6.block b (by rw [World.size_alloc]; omega) fun e => by have := (hblk b e.symm).1; omega)).trans (HK.out _ hE3).2
         clear hO6 hg6 hown ho5
         refine hK.out _ _ (⟨cx,cb⟩) (fun hHeld => ?_)
         clear hK K
         (try simp only [Act.put,List.setIfInBounds_toArray,List.set_cons_zero,List.set_cons_succ])
         refine wpAnyH_take (i := 13) (v := ?tv33) rfl (by kernel_rfl) (by kernel_rfl) (by kernel_rfl) (fun _ _ _ h => h) (Or.inl ⟨by rfl,?hy33⟩) (by assumption) ?rs33
         case hy33 => (intro w9 hSw; (try dsimp only at hSw); go_simp; (try with_reducible rfl))
         (try simp only [Act.put,List.setIfInBounds_toArray,List.set_cons_zero,List.set_cons_succ])
         refine wpAnyH_ready (rs := [14]) (by kernel_rfl) (by simp) ?_
         refine AllReadyH.cons rfl (fun K hK => ?_) AllReadyH.nil
         go_simp
         refine hK.out _ _ (⟨(World.cell?_of_block (a := ⟨x,1,none⟩) (Below.heap_setCell _ _ _ _ (by show x ≠ q; omega))).trans cx,(World.cell?_of_block (a := ⟨b,_,none⟩) (Below.heap_setCell _ _ _ _ (by show b ≠ q; omega))).trans cb⟩) (fun hHeld => ?_)
         clear hK K
         (try simp only [Act.put,List.setIfInBounds_toArray,List.set_cons_zero,List.set_cons_succ])
         refine wpAnyH_done (by kernel_rfl) ?_ _
         clear cx cb cz fz cq0 cq1 cq2 fq1 fq2 HK HQ HI hE hE2 hE3 hb6 hb7 hp6 hp7 hpD hD c1 e1 hkd
         go_wp2
         go_roundw
         case rel => exact ⟨i + 1,_,(ao',m',c''),r6,by go_num,by simp [hpl],by omega,hR⟩
         case measure => simp only [intOf]; omega
     ·obtain rfl : i = 3 := by omega
      have glt : decide (((3 : Nat) : Int) < 3) = false := by simp
      have T : Hid _ := hid (hI.fin htb (by rw [hl3.out]; exact hpl) (by rw [← HX.out]; omega) HX.out (by omega))
      have cq := hI.box.cells
      have cR := hI.res.cells
      have fR := hI.res.free
      obtain ⟨k0,k1,k2,k3,k4,k5,k6,k7,k8,k9,k10,k11,k12⟩ := cq
      obtain ⟨d0,d1,d2,d3,d4,d5,d6,d7,d8,d9,d10,d11,d12⟩ := cR
      obtain ⟨f0,f1,f2,f3,f4,f5,f6,f7,f8,f9,f10,f11,f12⟩ := fR
      clear hI htb
      unfold stV set13 at T
      go_wp2
      refine bodyPost_ret (v := stV (sIns tb.1 v)) (by simp [results,Tryz.results43,go_sem,stV,d0,d1,d2,d3,d4,d5,d6,d7,d8,d9,d10,d11,d12]) rfl ?_
      exact T.out
  have g0 : ((k : Int) == 0) = false := by simp; omega
  have g1 : ((k : Int) == 1) = false := by simp; omega
  have g2 : ((k : Int) == 2) = false := by simp; omega
  by_cases h3 : k = 3
  ·subst h3
   have hD : But g w4 w4.drew := But.of (Below.refl _ w4).drew
   have hpD := hp4.later (Below.refl _ w4).drew
   have hCD := hC4.but hD
   go_upto_region 15 with fail
   go_cut [9] (fun v9 w' => UpR g r w z x tb (tbO tb.1 a n c a' n' c') i1 j1 i2 j2 (fun c k => c = ⟨#[110]⟩ ∧ k = 1) v9 w')
   case first =>
    refine wp_region_held_drew (S := (fun w' => w'.cell? ⟨x,0,none⟩ = some (.string tb.1))) (by kernel_rfl) (hX4.cell 0) (fun hHeld => ?_)
    refine wpAnyH_take (i := 0) (v := ?tv14) rfl (by kernel_rfl) (by kernel_rfl) (by kernel_rfl) (fun _ _ _ h => h) (Or.inl ⟨by rfl,?hy14⟩) (by assumption) ?rs14
    case hy14 => (intro w9 hSw; (try dsimp only at hSw); go_simp; (try with_reducible rfl))
    (try simp only [Act.put,List.setIfInBounds_toArray,List.set_cons_zero,List.set_cons_succ])
    refine wpAnyH_take (i := 1) (v := ?tv15) rfl (by kernel_rfl) (by kernel_rfl) (by kernel_rfl) (fun _ _ _ h => h) (Or.inl ⟨by rfl,?hy15⟩) (by assumption) ?rs15
    case hy15 => (intro w9 hSw; (try dsimp only at hSw); go_simp; (try with_reducible rfl))
    (try simp only [Act.put,List.setIfInBounds_toArray,List.set_cons_zero,List.set_cons_succ])
    refine wpAnyH_take (i := 2) (v := ?tv16) rfl (by kernel_rfl) (by kernel_rfl) (by kernel_rfl) (fun _ _ _ h => h) (Or.inl ⟨by rfl,?hy16⟩) (by assumption) ?rs16
    case hy16 => (intro w9 hSw; (try dsimp only at hSw); go_simp; (try with_reducible rfl))
    (try simp only [Act.put,List.setIfInBounds_toArray,List.set_cons_zero,List.set_cons_succ])
    refine wpAnyH_take (i := 3) (v := ?tv17) rfl (by kernel_rfl) (by kernel_rfl) (by kernel_rfl) (fun _ _ _ h => h) (Or.inl ⟨by rfl,?hy17⟩) (by assumption) ?rs17
    case hy17 => (intro w9 hSw; (try dsimp only at hSw); go_simp; (try with_reducible rfl))
    (try simp only [Act.put,List.setIfInBounds_toArray,List.set_cons_zero,List.set_cons_succ])
    refine wpAnyH_take (i := 4) (v := ?tv18) rfl (by kernel_rfl) (by kernel_rfl) (by kernel_rfl) (fun _ _ _ h => h) (Or.inl ⟨by rfl,?hy18⟩) (by assumption) ?rs18
    case hy18 => (intro w9 hSw; (try dsimp only at hSw); go_simp; (try with_reducible rfl))
    (try simp only [Act.put,List.setIfInBounds_toArray,List.set_cons_zero,List.set_cons_succ])
    refine wpAnyH_ready (rs := [5,8]) (by kernel_rfl) (by simp) ?_
    refine AllReadyH.cons rfl (fun K hK => ?_) (AllReadyH.cons rfl (fun K hK => ?_) AllReadyH.nil)
    ·go_simp
     go_wp2_with (first | (go_at_call 21; refine Calls.mono (play_any 4 1 1 hpD hCD (.inl rfl) rfl) ?_; rintro e u1 ⟨o1,p1,a1,n1,c1,t1,r5,rfl,hX1,hl6,hp5,hb5,hx1⟩; unfold exV))
     have hE : But g w4 u1 := hD.trans hb5
     refine hK.out _ _ ((hX4.but hE (by omega)).cell 0) (fun hHeld => ?_)
     clear hK K
     (try simp only [Act.put,List.setIfInBounds_toArray,List.set_cons_zero,List.set_cons_succ])
     refine wpAnyH_ready (rs := [6,8]) (by kernel_rfl) (by simp) ?_
     refine AllReadyH.cons rfl (fun K hK => ?_) (AllReadyH.cons rfl (fun K hK => ?_) AllReadyH.nil)
     ·go_simp
      refine hK.out _ _ ((hX4.but (hE.alloc (exO o1 p1 a1 n1 c1)) (by omega)).cell 0) (fun hHeld => ?_)
      clear hK K
      (try simp only [Act.put,List.setIfInBounds_toArray,List.set_cons_zero,List.set_cons_succ])
      refine wpAnyH_take (i := 7) (v := ?tv19) rfl (by kernel_rfl) (by kernel_rfl) (by kernel_rfl) (fun _ _ _ h => h) (Or.inl ⟨by rfl,?hy19⟩) (by assumption) ?rs19
      case hy19 => (intro w9 hSw; (try dsimp only at hSw); go_simp; (try with_reducible rfl))
      (try simp only [Act.put,List.setIfInBounds_toArray,List.set_cons_zero,List.set_cons_succ])
      refine wpAnyH_ready (rs := [8]) (by kernel_rfl) (by simp) ?_
      refine AllReadyH.cons rfl (fun K hK => ?_) AllReadyH.nil
      go_simp
      refine hK.out _ _ ((hX4.but ((hE.alloc (exO o1 p1 a1 n1 c1)).alloc zSt) (by omega)).cell 0) (fun hHeld => ?_)
      clear hK K
      (try simp only [Act.put,List.setIfInBounds_toArray,List.set_cons_zero,List.set_cons_succ])
      refine wpAnyH_ready (rs := [9]) (by kernel_rfl) (by simp) ?_
      refine AllReadyH.cons rfl (fun K hK => ?_) AllReadyH.nil
      have hs6 : w4.heap.size ≤ u1.heap.size := hE.size
      have hRl := hR4.lt
      have T : Hid (UpR g r w z x tb (tbO tb.1 a n c a' n' c') i1 j1 i2 j2 (fun c k => c = ⟨#[110]⟩ ∧ k = 1) (.pointer (some ⟨(u1.alloc (exO o1 p1 a1 n1 c1)).heap.size,0,none⟩)) ((u1.alloc (exO o1 p1 a1 n1 c1)).alloc (.cells #[.int .i64 7,.string tb.1,.string ⟨#[110]⟩,.slice none 0 0,.slice none 0 0,.slice (some ⟨u1.heap.size,0,none⟩) 1 1,.slice none 0 0,.string ⟨#[]⟩,.slice none 0 0,.slice none 0 0,.slice none 0 0,.bool false,.slice none 0 0] 43))) := hid (UpR.new ((hU4.trans hE).alloc _) (row_onE (by constructor <;> omega) (hx1.mono fun b hb hl => by have h9 := hb; simp at h9; constructor <;> omega)) ⟨rfl,rfl⟩ hX1 (hX4.but (hE.alloc _) (by omega)) (hR4.but (hE.alloc _) (by omega)) (hC4.but (hE.alloc _)) (hp5.alloc _) (hl5.on hl6.1))
      have HXS : Hid (((u1.alloc (exO o1 p1 a1 n1 c1)).alloc (.cells #[.int .i64 7,.string tb.1,.string ⟨#[110]⟩,.slice none 0 0,.slice none 0 0,.slice (some ⟨u1.heap.size,0,none⟩) 1 1,.slice none 0 0,.string ⟨#[]⟩,.slice none 0 0,.slice none 0 0,.slice none 0 0,.bool false,.slice none 0 0] 43)).cell? ⟨x,0,none⟩ = some (.string tb.1)) := hid ((hX4.but ((hE.alloc (exO o1 p1 a1 n1 c1)).alloc _) (by omega)).cell 0)
      clear e0 e1 e2 g0 g1 g2 hs3 hgx hk3 hCD hpD hD hC4 hT4 hrow4 hp4 hY4 HX hxl hx1 hp5 hb5 hX1 hl6 htb
      go_simp
      refine hK.out _ _ (HXS.out) (fun hHeld => ?_)
      clear hK K
      (try simp only [Act.put,List.setIfInBounds_toArray,List.set_cons_zero,List.set_cons_succ])
      refine wpAnyH_done (by kernel_rfl) ?_ _
      go_wp2_with fail
      go_meet
      have T9 := T.out
      rw [World.size_alloc] at T9
      exact T9
     ·go_simp
      refine hK.out _ _ ((hX4.but (hE.alloc zSt) (by omega)).cell 0) (fun hHeld => ?_)
      clear hK K
      (try simp only [Act.put,List.setIfInBounds_toArray,List.set_cons_zero,List.set_cons_succ])
      refine wpAnyH_ready (rs := [6]) (by kernel_rfl) (by simp) ?_
      refine AllReadyH.cons rfl (fun K hK => ?_) AllReadyH.nil
      have hq6 : Bs (u1.alloc zSt) u1.heap.size (zS 0) := Bs.new u1 (zS 0)
      have hE6 : But g w4 (u1.alloc zSt) := hE.alloc _
      have hp6 : Pk (u1.alloc zSt) g r5 := hp5.alloc _
      have hx6 : Ex (fun b => z < b ∧ b ≠ u1.heap.size ∧ b ≠ g) (u1.alloc zSt) t1 (exV o1 p1 (.slice a1 n1 c1)) := (hx1.mono fun b hb hl => by have h9 := hb; simp at h9; refine ⟨?_,?_,?_⟩ <;> omega).later (bal (Below.refl _ u1) zSt)
      have hs6 : w4.heap.size ≤ u1.heap.size := hE.size
      clear hx1 hp5 hb5 hE
      generalize u1.alloc zSt = W6 at *
      generalize u1.heap.size = q at *
      go_simp
      refine hK.out _ _ ((hX4.but (hE6.alloc (exO o1 p1 a1 n1 c1)) (by omega)).cell 0) (fun hHeld => ?_)
      clear hK K
      (try simp only [Act.put,List.setIfInBounds_toArray,List.set_cons_zero,List.set_cons_succ])
      refine wpAnyH_take (i := 7) (v := ?tv20) rfl (by kernel_rfl) (by kernel_rfl) (by kernel_rfl) (fun _ _ _ h => h) (Or.inl ⟨by rfl,?hy20⟩) (by assumption) ?rs20
      case hy20 => (intro w9 hSw; (try dsimp only at hSw); go_simp; (try with_reducible rfl))
      (try simp only [Act.put,List.setIfInBounds_toArray,List.set_cons_zero,List.set_cons_succ])
      refine wpAnyH_ready (rs := [9]) (by kernel_rfl) (by simp) ?_
      refine AllReadyH.cons rfl (fun K hK => ?_) AllReadyH.nil
      have hql0 := hq6.lt
      have hRl := hR4.lt
      have b1 : But g w4 (W6.alloc (exO o1 p1 a1 n1 c1)) := hE6.alloc _
      have b2 : Bs (W6.alloc (exO o1 p1 a1 n1 c1)) q (zS 0) := hq6.later (bal (Below.refl _ W6) (exO o1 p1 a1 n1 c1))
      have b3 : RowIs eExpr (fun b => z < b ∧ b ≠ q ∧ b ≠ g) (W6.alloc (exO o1 p1 a1 n1 c1)) (.slice (some ⟨W6.heap.size,0,none⟩) 1 1) [t1] := row_onE (by refine ⟨?_,?_,?_⟩ <;> omega) hx6
      have b7 : Pk (W6.alloc (exO o1 p1 a1 n1 c1)) g r5 := hp6.alloc _
      have b4 : Cols3 (W6.alloc (exO o1 p1 a1 n1 c1)) g q (colsOf tb) i1 j1 i2 j2 := (hC4.three (by omega)).but b1
      have b5 : w.heap.size ≤ q := by rw [← HX.out]; omega
      have b6 : q ≠ z ∧ q ≠ x ∧ q ≠ g ∧ g < q := by refine ⟨?_,?_,?_,?_⟩ <;> omega
      clear e0 e1 e2 g0 g1 g2 hs3 hgx hk3 hCD hpD hD hC4 hT4 hrow4 hp4 hY4 HX hxl hp6 hx6 hE6 hq6
      generalize (W6.alloc (exO o1 p1 a1 n1 c1)) = W7 at *
      generalize W6.heap.size = rb at *
      have T : Hid (UpR g r w z x tb (tbO tb.1 a n c a' n' c') i1 j1 i2 j2 (fun c k => c = ⟨#[110]⟩ ∧ k = 1) (.pointer (some ⟨q,0,none⟩)) (set13 W7 q (sUp tb.1 ⟨#[110]⟩ rb))) := hid (UpR.box (hU4.trans b1) b2 b3 ⟨rfl,rfl⟩ hX1 b6.1 b6.2.1 b6.2.2.1 b6.2.2.2 b5 (hX4.but b1 (by omega)) (hR4.but b1 (by omega)) b4 b7 (hl5.on hl6.1))
      have HXS : Hid ((set13 W7 q (sUp tb.1 ⟨#[110]⟩ rb)).cell? ⟨x,0,none⟩ = some (.string tb.1)) := hid (((hX4.but b1 (by omega)).keep (set13_heap W7 q (sUp tb.1 ⟨#[110]⟩ rb) (by omega))).cell 0)
      have cR := b2.cells
      have fR := b2.free
      have hql := b2.lt
      obtain ⟨d0,d1,d2,d3,d4,d5,d6,d7,d8,d9,d10,d11,d12⟩ := cR
      obtain ⟨f0,f1,f2,f3,f4,f5,f6,f7,f8,f9,f10,f11,f12⟩ := fR
      clear b1 b2 b3 b4 b5 b7 hX1 hl6 htb hX4 hR4 hU4 hl5
      unfold set13 at T
      dsimp only at T
      unfold set13 at HXS
      dsimp only at HXS
      go_simp
      refine hK.out _ _ (HXS.out) (fun hHeld => ?_)
      clear hK K
      (try simp only [Act.put,List.setIfInBounds_toArray,List.set_cons_zero,List.set_cons_succ])
      refine wpAnyH_done (by kernel_rfl) ?_ _
      go_wp2_with fail
      go_meet
      exact T.out
    ·go_simp
     have hA : But g w4 (w4.alloc zSt).drew := hD.alloc _
     have hpA : Pk (w4.alloc zSt).drew g r4 := hpD.alloc _
     have hCA := hC4.but hA
     have hAa : Bs (w4.alloc zSt).drew w4.heap.size (zS 0) := Bs.new w4.drew (zS 0)
     refine hK.out _ _ ((hX4.but hA (by omega)).cell 0) (fun hHeld => ?_)
     clear hK K
     (try simp only [Act.put,List.setIfInBounds_toArray,List.set_cons_zero,List.set_cons_succ])
     refine wpAnyH_ready (rs := [5]) (by kernel_rfl) (by simp) ?_
     refine AllReadyH.cons rfl (fun K hK => ?_) AllReadyH.nil
     go_simp
     go_wp2_with (first | (go_at_call 21; refine Calls.mono (play_any 4 1 1 hpA hCA (.inl rfl) rfl) ?_; rintro e u1 ⟨o1,p1,a1,n1,c1,t1,r5,rfl,hX1,hl6,hp5,hb5,hx1⟩; unfold exV))
     have hE : But g w4 u1 := hA.trans hb5
     refine hK.out _ _ ((hX4.but hE (by omega)).cell 0) (fun hHeld => ?_)
     clear hK K
     (try simp only [Act.put,List.setIfInBounds_toArray,List.set_cons_zero,List.set_cons_succ])
     refine wpAnyH_ready (rs := [6]) (by kernel_rfl) (by simp) ?_
     refine AllReadyH.cons rfl (fun K hK => ?_) AllReadyH.nil
     go_simp
     refine hK.out _ _ ((hX4.but (hE.alloc (exO o1 p1 a1 n1 c1)) (by omega)).cell 0) (fun hHeld => ?_)
     clear hK K
     (try simp only [Act.put,List.setIfInBounds_toArray,List.set_cons_zero,List.set_cons_succ])
     refine wpAnyH_take (i := 7) (v := ?tv21) rfl (by kernel_rfl) (by kernel_rfl) (by kernel_rfl) (fun _ _ _ h => h) (Or.inl ⟨by rfl,?hy21⟩) (by assumption) ?rs21
     case hy21 => (intro w9 hSw; (try dsimp only at hSw); go_simp; (try with_reducible rfl))
     (try simp only [Act.put,List.setIfInBounds_toArray,List.set_cons_zero,List.set_cons_succ])
     refine wpAnyH_ready (rs := [9]) (by kernel_rfl) (by simp) ?_
     refine AllReadyH.cons rfl (fun K hK => ?_) AllReadyH.nil
     have hq6 := hAa.but hb5 (by omega)
     have hs6 : w4.heap.size ≤ u1.heap.size := hE.size
     have hql0 := hq6.lt
     have hRl := hR4.lt
     have b1 : But g w4 (u1.alloc (exO o1 p1 a1 n1 c1)) := hE.alloc _
     have b2 : Bs (u1.alloc (exO o1 p1 a1 n1 c1)) w4.heap.size (zS 0) := hq6.later (bal (Below.refl _ u1) (exO o1 p1 a1 n1 c1))
     have b3 : RowIs eExpr (fun b => z < b ∧ b ≠ w4.heap.size ∧ b ≠ g) (u1.alloc (exO o1 p1 a1 n1 c1)) (.slice (some ⟨u1.heap.size,0,none⟩) 1 1) [t1] := row_onE (by refine ⟨?_,?_,?_⟩ <;> omega) (hx1.mono fun b hb hl => by have h9 := hb; simp at h9; refine ⟨?_,?_,?_⟩ <;> omega)
     have b7 : Pk (u1.alloc (exO o1 p1 a1 n1 c1)) g r5 := hp5.alloc _
     have b4 : Cols3 (u1.alloc (exO o1 p1 a1 n1 c1)) g w4.heap.size (colsOf tb) i1 j1 i2 j2 := (hC4.three (by omega)).but b1
     have b5 : w.heap.size ≤ w4.heap.size := by rw [← HX.out]; omega
     have b6 : w4.heap.size ≠ z ∧ w4.heap.size ≠ x ∧ w4.heap.size ≠ g ∧ g < w4.heap.size := by refine ⟨?_,?_,?_,?_⟩ <;> omega
     clear e0 e1 e2 g0 g1 g2 hs3 hgx hk3 hCD hpD hD hC4 hT4 hrow4 hp4 hY4 HX hxl hp5 hx1 hb5 hE hAa hA hpA hCA hq6
     generalize (u1.alloc (exO o1 p1 a1 n1 c1)) = W7 at *
     generalize u1.heap.size = rb at *
     generalize w4.heap.size = q at *
     have T : Hid (UpR g r w z x tb (tbO tb.1 a n c a' n' c') i1 j1 i2 j2 (fun c k => c = ⟨#[110]⟩ ∧ k = 1) (.pointer (some ⟨q,0,none⟩)) (set13 W7 q (sUp tb.1 ⟨#[110]⟩ rb))) := hid (UpR.box (hU4.trans b1) b2 b3 ⟨rfl,rfl⟩ hX1 b6.1 b6.2.1 b6.2.2.1 b6.2.2.2 b5 (hX4.but b1 (by omega)) (hR4.but b1 (by omega)) b4 b7 (hl5.on hl6.1))
     have HXS : Hid ((set13 W7 q (sUp tb.1 ⟨#[110]⟩ rb)).cell? ⟨x,0,none⟩ = some (.string tb.1)) := hid (((hX4.but b1 (by omega)).keep (set13_heap W7 q (sUp tb.1 ⟨#[110]⟩ rb) (by omega))).cell 0)
     have cR := b2.cells
     have fR := b2.free
     have hql := b2.lt
     obtain ⟨d0,d1,d2,d3,d4,d5,d6,d7,d8,d9,d10,d11,d12⟩ := cR
     obtain ⟨f0,f1,f2,f3,f4,f5,f6,f7,f8,f9,f10,f11,f12⟩ := fR
     clear b1 b2 b3 b4 b5 b7 hX1 hl6 htb hX4 hR4 hU4 hl5
     unfold set13 at T
     dsimp only at T
     unfold set13 at HXS
     dsimp only at HXS
     go_simp
     refine hK.out _ _ (HXS.out) (fun hHeld => ?_)
     clear hK K
     (try simp only [Act.put,List.setIfInBounds_toArray,List.set_cons_zero,List.set_cons_succ])
     refine wpAnyH_done (by kernel_rfl) ?_ _
     go_wp2_with fail
     go_meet
     exact T.out
   case rest =>
    obtain ⟨q,r5,s,t,c9,k9,rfl,hS,hnk,hP,q1,q2,q3,q4,hX5,hR5,hC5,hp5,hl6⟩ := hcut
    obtain ⟨rfl,rfl⟩ := hnk
    clear hX4 hR4 hY4 hT4 hrow4 hC4 hp4 hU4 e0 e1 e2 hD hpD hCD hs3 hgx hxl
    have hxl := hX5.lt
    have e0 : wc.cell? ⟨x,0,none⟩ = some (.string tb.1) := hX5.cell 0
    go_upto_region 16 with fail
    go_cut [70] (fun v w' => ∃ ub : Bool,v = .bool ub ∧ (ub = true → tb = tabT) ∧ ∃ r',Sk g z q w w' ⟨7,tb.1,⟨#[110]⟩,[],[],[t],[],⟨#[]⟩,[],[],[],false⟩ s ∧ Bs w' z (zS 0) ∧ Cols3 w' g q (colsOf tb) i1 j1 i2 j2 ∧ Pk w' g r' ∧ Less r r')
    case first =>
     rcases htb with rfl | rfl
     ·have HN : Hid _ := hid (num_any hp5 3 (by decide) (by decide))
      have e0' : wc.cell? ⟨x,0,none⟩ = some (.string ⟨#[116]⟩) := e0
      clear e0
      go_wp2_with fail
      refine Calls.mono HN.out ?_
      rintro e u1 ⟨k1,r6,rfl,hk1,hl7,hp6,hb6⟩
      go_wp2_with fail
      go_meet
      exact ⟨_,rfl,fun _ => by first | rfl | trivial,r6,hS.next hb6 (by omega),hR5.but hb6 (by omega),hC5.but hb6,hp6,hl6.on hl7.1⟩
     ·have e0' : wc.cell? ⟨x,0,none⟩ = some (.string ⟨#[117]⟩) := e0
      clear e0
      go_wp2_with fail
      go_meet
      exact ⟨false,rfl,fun h => by simp at h,r5,hS,hR5,hC5,hp5,hl6⟩
    case rest =>
     obtain ⟨ub,rfl,hub,r6,hS6,hR6,hC6,hp6,hl7⟩ := hcut
     clear hS hR5 hC5 hp5 hl6 hX5 e0 hxl
     go_upto_if 70 with fail
     go_cut [] (fun w' => ∃ r' c9 k9 t9 s9,Sk g z q w w' ⟨7,tb.1,c9,[],[],[t9],[],⟨#[]⟩,[],[],[],false⟩ s9 ∧ ((c9 = ⟨#[110]⟩ ∧ k9 = 1) ∨ (c9 = ⟨#[118]⟩ ∧ tb = tabT ∧ k9 = 2)) ∧ Pl (colsOf tb) 4 k9 t9 ∧ Bs w' z (zS 0) ∧ Cols3 w' g q (colsOf tb) i1 j1 i2 j2 ∧ Pk w' g r' ∧ Less r r')
     case first =>
      cases ub with
      | false =>
       go_wp2_with fail
       go_meet
       exact ⟨r6,_,1,t,s,hS6,.inl ⟨rfl,rfl⟩,hP,hR6,hC6,hp6,hl7⟩
      | true =>
       have htt : Hid (tb = tabT) := hid (hub rfl)
       have HE : Hid _ := hid (play_any 4 2 1 hp6 hC6.cols (.inr (.inl rfl)) rfl)
       clear hub htb
       go_wp2_with fail
       refine Calls.mono HE.out ?_
       rintro e u1 ⟨o1,p1,a1,n1,c1,t1,r7,rfl,hX1,hl8,hp7,hb7,hx1⟩
       have hzl6 := hR6.lt
       have hql6 := hS6.box.lt
       have hs7 := hb7.size
       have hS7 := hS6.next hb7 q3
       have hb8 := bal (Below.refl _ u1) (exO o1 p1 a1 n1 c1)
       have hS8 := hS7.next (But.of hb8) q3
       have hgl6 := hp6.lt
       have hgq : g < q := by have := HX.out; omega
       have b3 : RowIs eExpr (fun b => z < b ∧ b ≠ q ∧ b ≠ g) (u1.alloc (exO o1 p1 a1 n1 c1)) (.slice (some ⟨u1.heap.size,0,none⟩) 1 1) [t1] := row_onE (by refine ⟨?_,?_,?_⟩ <;> omega) (hx1.mono fun b hb hl => by have h9 : wc.heap.size ≤ b := hb; refine ⟨?_,?_,?_⟩ <;> omega)
       have hS9 := hS8.nm q4 ⟨#[118]⟩
       have hSa := hS9.va q4 (v := (some ⟨u1.heap.size,0,none⟩,1,1)) (b3.keep (by decide) fun b hb _ => Below.heap_setCell _ _ _ _ hb.2.1)
       have hBb : But g wc (u1.alloc (exO o1 p1 a1 n1 c1)) := hb7.trans (But.of hb8)
       have hRb := ((hR6.but hBb (by omega)).other (Ne.symm q1) 2 (.string ⟨#[118]⟩)).other (Ne.symm q1) 5 (.slice (some ⟨u1.heap.size,0,none⟩) 1 1)
       have hCb := ((hC6.but hBb).set 2 (.string ⟨#[118]⟩)).set 5 (.slice (some ⟨u1.heap.size,0,none⟩) 1 1)
       have hpb := ((hp7.later hb8).other (b := q) hgq 2 (.string ⟨#[118]⟩)).other (b := q) hgq 5 (.slice (some ⟨u1.heap.size,0,none⟩) 1 1)
       have cq := hS7.box.cells
       have fq := hS7.box.free
       have hql := hS7.box.lt
       obtain ⟨d0,d1,d2,d3,d4,d5,d6,d7,d8,d9,d10,d11,d12⟩ := cq
       obtain ⟨f0,f1,f2,f3,f4,f5,f6,f7,f8,f9,f10,f11,f12⟩ := fq
       have T : Hid _ := hid (And.intro hSa (And.intro hRb (And.intro hCb hpb)))
       clear hSa hRb hCb hpb hS9 hS8 hS7 hS6 hR6 hC6 hp6 hp7 hb7 hb8 hBb b3 hx1 HE
       unfold exV
       go_wp2_with fail
       go_meet
       have T9 := T.out
       rw [World.setCell_alloc_past _ _ _ _ hql,World.setCell_alloc_past _ _ _ _ (by rw [size_set]; exact hql)] at T9
       exact ⟨r7,⟨#[118]⟩,2,t1,_,T9.1,.inr ⟨rfl,htt.out,rfl⟩,hX1,T9.2.1,T9.2.2.1,T9.2.2.2,hl7.on hl8.1⟩
     case rest =>
      obtain ⟨r7,c9,k9,t9,s9,hS7,hnm9,hP9,hR7,hC7,hp7,hl8⟩ := hcut
      clear hS6 hR6 hC6 hp6 hl7
      have HW : Hid _ := hid (playWhere_any hp7 hC7.cols)
      have hgq : g < q := by have := HX.out; omega
      have hzl7 := hR7.lt
      clear hub
      go_wp2_with fail
      refine Calls.mono HW.out ?_
      rintro e u1 ⟨wa,wn,wcp,wl,r8,rfl,hwl,hwr,hl9,hp8,hb8⟩
      have hS8 := hS7.next hb8 q3
      have hSw := hS8.wh q4 (v := (wa,wn,wcp)) (hwr.mono (by decide) fun b hb hl => by have h9 : wc.heap.size ≤ b := hb; have := hS7.box.lt; have := hp7.lt; refine ⟨?_,?_,?_⟩ <;> omega)
      have hRw := (hR7.but hb8 (by omega)).other (Ne.symm q1) 9 (.slice wa wn wcp)
      have hpw := hp8.other (b := q) hgq 9 (.slice wa wn wcp)
      have hql := hS8.box.lt
      have cq := hS8.box.cells
      have fq := hS8.box.free
      have cw := hSw.box.cells
      have cR := hRw.cells
      have fR := hRw.free
      have hzlw := hRw.lt
      have hgz : g < w.heap.size := by rw [← HX.out]; omega
      have hok : DataOK ⟨7,tb.1,c9,[],[],[t9],[],⟨#[]⟩,[],wl,[],false⟩ := ⟨tb,htb,.inr (.inl ⟨c9,t9,wl,by
       rcases hnm9 with ⟨rfl,rfl⟩ | ⟨rfl,ht,rfl⟩
       ·exact .inl ⟨rfl,hP9⟩
       ·exact .inr ⟨rfl,ht,hP9⟩,hwl,rfl⟩)⟩
      have T : Hid (TeSt g r w DataOK (.returned (stV { s9 with wh := (wa,wn,wcp) })) (set13 (u1.setCell ⟨q,9,none⟩ (.slice wa wn wcp)) z { s9 with wh := (wa,wn,wcp) })) := hid (TeSt.fin3 hSw hok (hl8.on hl9.1) hpw hgz (by rw [← HX.out]; exact Nat.le_refl _))
      have cq9 := cq.2.2.2.2.2.2.2.2.2.1
      have fq9 := fq.2.2.2.2.2.2.2.2.2.1
      clear HW hS7 hS8 hSw hR7 hRw hC7 hp7 hp8 hpw hb8 hwr hwl hnm9 hP9 htb hok cq fq hk3 g0 g1 g2
      go_upto_region 19 with fail
      generalize u1.setCell ⟨q,9,none⟩ (.slice wa wn wcp) = U at *
      obtain ⟨sk,stb,snm,sco,sta,sva,sit,sjn,son,swh,sod,sds,sinn⟩ := s9
      simp only at T cw
      obtain ⟨k0,k1,k2,k3,k4,k5,k6,k7,k8,k9',k10,k11,k12⟩ := cw
      obtain ⟨d0,d1,d2,d3,d4,d5,d6,d7,d8,d9,d10,d11,d12⟩ := cR
      obtain ⟨f0,f1,f2,f3,f4,f5,f6,f7,f8,f9,f10,f11,f12⟩ := fR
      unfold stV set13 at T
      go_wp2
      refine bodyPost_ret (v := stV ⟨sk,stb,snm,sco,sta,sva,sit,sjn,son,(wa,wn,wcp),sod,sds,sinn⟩) (by simp [results,Tryz.results43,go_sem,stV,d0,d1,d2,d3,d4,d5,d6,d7,d8,d9,d10,d11,d12]) rfl ?_
      exact T.out
  have g3 : ((k : Int) == 3) = false := by simp; omega
  by_cases h4 : k = 4
  ·subst h4
   have hD : But g w4 w4.drew := But.of (Below.refl _ w4).drew
   have hpD := hp4.later (Below.refl _ w4).drew
   have hCD := hC4.but hD
   go_upto_region 21 with fail
   refine wp_region_held_drew (S := (fun w' => w'.cell? ⟨x,0,none⟩ = some (.string tb.1))) (by kernel_rfl) (hX4.cell 0) (fun hHeld => ?_)
   refine wpAnyH_take (i := 0) (v := ?tv8) rfl (by kernel_rfl) (by kernel_rfl) (by kernel_rfl) (fun _ _ _ h => h) (Or.inl ⟨by rfl,?hy8⟩) (by assumption) ?rs8
   case hy8 => (intro w9 hSw; (try dsimp only at hSw); go_simp; (try with_reducible rfl))
   (try simp only [Act.put,List.setIfInBounds_toArray,List.set_cons_zero,List.set_cons_succ])
   refine wpAnyH_take (i := 1) (v := ?tv9) rfl (by kernel_rfl) (by kernel_rfl) (by kernel_rfl) (fun _ _ _ h => h) (Or.inl ⟨by rfl,?hy9⟩) (by assumption) ?rs9
   case hy9 => (intro w9 hSw; (try dsimp only at hSw); go_simp; (try with_reducible rfl))
   (try simp only [Act.put,List.setIfInBounds_toArray,List.set_cons_zero,List.set_cons_succ])
   refine wpAnyH_take (i := 2) (v := ?tv10) rfl (by kernel_rfl) (by kernel_rfl) (by kernel_rfl) (fun _ _ _ h => h) (Or.inl ⟨by rfl,?hy10⟩) (by assumption) ?rs10
   case hy10 => (intro w9 hSw; (try dsimp only at hSw); go_simp; (try with_reducible rfl))
   (try simp only [Act.put,List.setIfInBounds_toArray,List.set_cons_zero,List.set_cons_succ])
   refine wpAnyH_take (i := 3) (v := ?tv11) rfl (by kernel_rfl) (by kernel_rfl) (by kernel_rfl) (fun _ _ _ h => h) (Or.inl ⟨by rfl,?hy11⟩) (by assumption) ?rs11
   case hy11 => (intro w9 hSw; (try dsimp only at hSw); go_simp; (try with_reducible rfl))
   (try simp only [Act.put,List.setIfInBounds_toArray,List.set_cons_zero,List.set_cons_succ])
   refine wpAnyH_take (i := 4) (v := ?tv12) rfl (by kernel_rfl) (by kernel_rfl) (by kernel_rfl) (fun _ _ _ h => h) (Or.inl ⟨by rfl,?hy12⟩) (by assumption) ?rs12
   case hy12 => (intro w9 hSw; (try dsimp only at hSw); go_simp; (try with_reducible rfl))
   (try simp only [Act.put,List.setIfInBounds_toArray,List.set_cons_zero,List.set_cons_succ])
   refine wpAnyH_ready (rs := [5]) (by kernel_rfl) (by simp) ?_
   refine AllReadyH.cons rfl (fun K hK => ?_) AllReadyH.nil
   go_simp
   go_wp2_with (first | (go_at_call 76; refine Calls.mono (playWhere_any hpD hCD) ?_; rintro e u1 ⟨wa,wn,wcp,wl,r5,rfl,hwl,hwr,hl6,hp5,hb5⟩))
   have hE : But g w4 u1 := hD.trans hb5
   refine hK.out _ _ ((hX4.but hE (by omega)).cell 0) (fun hHeld => ?_)
   clear hK K
   (try simp only [Act.put,List.setIfInBounds_toArray,List.set_cons_zero,List.set_cons_succ])
   refine wpAnyH_take (i := 6) (v := ?tv13) rfl (by kernel_rfl) (by kernel_rfl) (by kernel_rfl) (fun _ _ _ h => h) (Or.inl ⟨by rfl,?hy13⟩) (by assumption) ?rs13
   case hy13 => (intro w9 hSw; (try dsimp only at hSw); go_simp; (try with_reducible rfl))
   (try simp only [Act.put,List.setIfInBounds_toArray,List.set_cons_zero,List.set_cons_succ])
   refine wpAnyH_ready (rs := [7]) (by kernel_rfl) (by simp) ?_
   refine AllReadyH.cons rfl (fun K hK => ?_) AllReadyH.nil
   have hR5 := hR4.but hE (by omega)
   have cR := hR5.cells
   have fR := hR5.free
   have hzl5 := hR5.lt
   have hE5 := hE.size
   obtain ⟨d0,d1,d2,d3,d4,d5,d6,d7,d8,d9,d10,d11,d12⟩ := cR
   obtain ⟨f0,f1,f2,f3,f4,f5,f6,f7,f8,f9,f10,f11,f12⟩ := fR
   have T : Hid (TeSt g r w DataOK (.returned (stV (⟨8,tb.1,⟨#[]⟩,(none,0,0),(none,0,0),(none,0,0),(none,0,0),⟨#[]⟩,(none,0,0),(wa,wn,wcp),(none,0,0),false,(none,0,0)⟩ : Sv))) (set13 u1 z (⟨8,tb.1,⟨#[]⟩,(none,0,0),(none,0,0),(none,0,0),(none,0,0),⟨#[]⟩,(none,0,0),(wa,wn,wcp),(none,0,0),false,(none,0,0)⟩ : Sv))) := hid (TeSt.fin2 (B := w4.heap.size) (m := ⟨8,tb.1,⟨#[]⟩,[],[],[],[],⟨#[]⟩,[],wl,[],false⟩) (hU4.trans hE) { IsS.zero _ _ 8 with tb := rfl,wh := hwr.mono (by decide) fun b hb _ => by (try simp at hb); omega } rfl ⟨tb,htb,.inr (.inr (.inl ⟨wl,hwl,rfl⟩))⟩ (hl5.on hl6.1) hp5 (by rw [← HX.out]; omega) (by rw [← HX.out]; exact Nat.le_refl _) (by omega))
   have HXS : Hid (Blk u1 x (tbO tb.1 a n c a' n' c')) := hid (hX4.but hE (by omega))
   clear e0 e1 e2 g0 g1 g2 g3 hs3 hgx hR5 hp5 hb5 hwr hCD hpD hD hC4 hT4 hrow4 hp4 htb hk3 h3 hwl hl6 hxl hxl4 hX4 hY4 hR4
   unfold set13 at T
   unfold stV at T
   dsimp only at T
   go_simp
   refine hK.out _ _ ((HXS.out.keep (set13_heap u1 z (⟨8,tb.1,⟨#[]⟩,(none,0,0),(none,0,0),(none,0,0),(none,0,0),⟨#[]⟩,(none,0,0),(wa,wn,wcp),(none,0,0),false,(none,0,0)⟩ : Sv) (by omega))).cell 0) (fun hHeld => ?_)
   clear hK K
   (try simp only [Act.put,List.setIfInBounds_toArray,List.set_cons_zero,List.set_cons_succ])
   refine wpAnyH_done (by kernel_rfl) ?_ _
   go_wp2
   refine bodyPost_ret (v := stV (⟨8,tb.1,⟨#[]⟩,(none,0,0),(none,0,0),(none,0,0),(none,0,0),⟨#[]⟩,(none,0,0),(wa,wn,wcp),(none,0,0),false,(none,0,0)⟩ : Sv)) (by simp [results,Tryz.results43,go_sem,stV,d0,d1,d2,d3,d4,d5,d6,d7,d8,d9,d10,d11,d12]) rfl ?_
   exact T.out
  have g4 : ((k : Int) == 4) = false := by simp; omega
  have HS : Hid _ := hid (playSel_any (va := none) (vn := 0) (vc := 0) (a' := a') (n' := n') (c' := c') hp4 (hT4.mono (by decide) fun b hb _ => hb.1) htb (hrow4.mono (by decide) fun b hb _ => hb.1))
  have y0 : w4.cell? ⟨y,0,none⟩ = some (.slice (some ⟨bt,0,none⟩) 2 2) := hY4.cell 0
  have y1 : w4.cell? ⟨y,1,none⟩ = some (.slice none 0 0) := hY4.cell 1
  go_wp2_with fail
  refine Calls.mono HS.out ?_
  rintro e w5 ⟨s,m,r5,rfl,hm,hl6,hp5,hb5,hI,hinn⟩
  have hR5 := hR4.but hb5 (by omega)
  have cR := hR5.cells
  have fR := hR5.free
  have hzl5 := hR5.lt
  have T : Hid (TeSt g r w DataOK (.returned (stV s)) (set13 w5 z s)) := hid (TeSt.fin2 (hU4.trans hb5) hI hinn ⟨tb,htb,.inr (.inr (.inr hm))⟩ (hl5.on hl6.1) hp5 (by rw [← HX.out]; omega) (by rw [← HX.out]; exact Nat.le_refl _) (by omega))
  obtain ⟨d0,d1,d2,d3,d4,d5,d6,d7,d8,d9,d10,d11,d12⟩ := cR
  obtain ⟨f0,f1,f2,f3,f4,f5,f6,f7,f8,f9,f10,f11,f12⟩ := fR
  clear HS hI hp5 hb5 hR4 hR5 hT4 hrow4 hC4 hX4 hY4 hU4 hp4
  unfold stV set13 at T
  clear htb e0 e1 e2 y0 y1 g0 g1 g2 g3 g4 h3 h4 hk3 hs3 hgx hxl hxl4 hm hl6 hinn
  unfold stV
  go_wp2
  refine bodyPost_ret (v := stV s) (by simp [results,Tryz.results43,go_sem,stV,d0,d1,d2,d3,d4,d5,d6,d7,d8,d9,d10,d11,d12]) rfl ?_
  exact T.out

end Go.Proofs.YtljmlacnfnmjbaaGreat
