import Derived.Test.YtljmlacnfnmjbaaGreatTmak
import Derived.Test.YtljmlacnfnmjbaaGreatTmac
namespace Go.Proofs.YtljmlacnfnmjbaaGreat
open Go.RowKit
set_option linter.unusedVariables false
set_option linter.unusedSimpArgs false

set_option maxRecDepth 100000 in
set_option maxHeartbeats 20000000 in
theorem playStmt_0 {g r : Nat} {w : World} (h : Pk w g r) (hk : nxP (w.alloc zSt) g 14 = 0) : Calls Tryz.prog 19 #[.pointer (some ⟨g,0,none⟩)] w (TeSf g r w StOK) := by
 have hgl := h.lt
 have hR0 : Bs (w.alloc zSt) w.heap.size (zS 0) := Bs.new w (zS 0)
 have hU0 : But g w (w.alloc zSt) := (But.refl g w).alloc _
 have hp0 := h.alloc zSt
 have HN : Hid _ := hid (num_exact hp0 14 (by decide) (by decide))
 clear h
 go_enter Tryz.func19,Tryz.ntmps19
 go_wp2_with fail
 refine Calls.mono HN.out ?_
 rintro e w2 ⟨r2,rfl,hk14,hl,hp2,hb2⟩
 generalize nxP (w.alloc zSt) g 14 = k at *
 have hU2 := hU0.trans hb2
 have hR2 := hR0.but hb2 (by omega)
 have hl2 := hl.1
 have HX : Hid (w.heap.size = w.heap.size) := hid rfl
 clear HN hU0 hR0 hp0 hb2 hl
 generalize hzz : w.heap.size = z at hR2 hgl HX ⊢
 replace HX : Hid (z = w.heap.size) := hid hzz.symm
 clear hzz
 have hzl2 := hR2.lt
 subst hk
 have hgl2 := hp2.lt
 have HN : Hid _ := hid (num_any (hp2.alloc (.cells #[.string ⟨#[116]⟩,.string ⟨#[117]⟩,.string ⟨#[119]⟩,.string ⟨#[120]⟩] 9 (0,0))) 4 (by decide) (by decide))
 go_upto_region 3 with fail
 go_cut [3] (fun v3 w' => ∃ q nm r',v3 = .pointer (some ⟨q,0,none⟩) ∧ nm ∈ [⟨#[116]⟩,⟨#[117]⟩,⟨#[119]⟩,⟨#[120]⟩] ∧ z < q ∧ w.heap.size ≤ q ∧ TabI g r z q w w' nm [] (none,0,0) r')
 case first =>
  go_wp2_with fail
  refine Calls.mono HN.out ?_
  rintro e u ⟨ka,r3,rfl,hka,hl3,hp3,hb3⟩
  have hE : But g w2 u := ((But.refl g w2).alloc (.cells #[.string ⟨#[116]⟩,.string ⟨#[117]⟩,.string ⟨#[119]⟩,.string ⟨#[120]⟩] 9 (0,0))).trans hb3
  have hS : Txt u w2.heap.size [⟨#[116]⟩,⟨#[117]⟩,⟨#[119]⟩,⟨#[120]⟩] := (Txt.new4 w2 ⟨#[116]⟩ ⟨#[117]⟩ ⟨#[119]⟩ ⟨#[120]⟩).but hb3 (by omega)
  have hsE := hE.size
  have hlt := hS.lt
  have c9 := hS.cell ka (by simp; omega)
  have hnm : txN [⟨#[116]⟩,⟨#[117]⟩,⟨#[119]⟩,⟨#[120]⟩] ka ∈ [⟨#[116]⟩,⟨#[117]⟩,⟨#[119]⟩,⟨#[120]⟩] := txN_mem (by simp; omega)
  generalize txN [⟨#[116]⟩,⟨#[117]⟩,⟨#[119]⟩,⟨#[120]⟩] ka = nm0 at *
  have ika : (0 : Int) ≤ (ka : Int) := by omega
  have jka : (ka : Int) < 4 := by omega
  have hr3 : r3 ≤ r := by have := hl3.1; omega
  have T : Hid (TabI g r z u.heap.size w (u.alloc (.cells #[.int .i64 1,.string ⟨#[]⟩,.string nm0,.slice none 0 0,.slice none 0 0,.slice none 0 0,.slice none 0 0,.string ⟨#[]⟩,.slice none 0 0,.slice none 0 0,.slice none 0 0,.bool false,.slice none 0 0] 43)) nm0 [] (none,0,0) r3) := hid ⟨fun c hc => absurd hc (by simp),OwnR.nil _ _ _ _,Bs.new u (sTab nm0 (none,0,0)),hr3,hp3.alloc _,(hU2.trans hE).alloc _,(hR2.but hE (by omega)).later (bal (Below.refl _ u) (.cells #[.int .i64 1,.string ⟨#[]⟩,.string nm0,.slice none 0 0,.slice none 0 0,.slice none 0 0,.slice none 0 0,.string ⟨#[]⟩,.slice none 0 0,.slice none 0 0,.slice none 0 0,.bool false,.slice none 0 0] 43))⟩
  clear HN hE hS hp3 hb3 hp2 hU2 hR2
  go_wp2_with fail
  go_meet
  exact ⟨_,nm0,r3,rfl,hnm,by omega,by rw [← HX.out]; omega,T.out⟩
 case rest =>
 obtain ⟨q,nm0,r3,rfl,hnm,hzq,hwq,hI0⟩ := hcut
 clear HN hp2 hU2 hR2
 have HN : Hid _ := hid (num_any hI0.pk 4 (by decide) (by decide))
 go_wp2_with fail
 refine Calls.mono HN.out ?_
 rintro e u ⟨i0,r4,rfl,hi0,hl4,hp4,hb4⟩
 have hI1 : TabI g r z q w u nm0 [] (none,0,0) r4 := ⟨hI0.ok,hI0.own.but hb4 (by omega),hI0.box.but hb4 (by omega),Nat.le_trans hl4.1 hI0.less,hp4,hI0.but.trans hb4,hI0.res.but hb4 (by omega)⟩
 clear HN hI0 hp4 hb4 hl4
 go_wp2
 go_loopw [4] (fun v4 wr => ∃ (j : Nat) (cs : List Co) (v : Sl) (r5 : Nat),v4 = .int .i64 ((j : Int) - 1) ∧ j + cs.length = i0 + 1 ∧ TabI g r z q w wr nm0 cs v r5) (fun v4 _ => (intOf v4 + 1).toNat)
 case atStart => exact ⟨i0 + 1,[],(none,0,0),r4,by go_num,by simp,hI1⟩
 case round =>
  clear hI1
  obtain ⟨j,cs,v,r5,rfl,hj,hI⟩ := hrel
  have hql := hI.box.lt
  have hzl := hI.res.lt
  have hgw := hI.pk.lt
  by_cases h0 : j = 0
  ·subst h0
   have g0 : decide ((0 : Int) ≤ ((0 : Nat) : Int) - 1) = false := by decide
   have hne : cs ≠ [] := by rintro rfl; simp at hj
   have T : Hid _ := hid (hI.fin hnm hne (by omega) hgl HX.out hzq)
   have cq := hI.box.cells
   have cR := hI.res.cells
   have fR := hI.res.free
   have k0 := cq.1
   have k1 := cq.2.1
   have k2 := cq.2.2.1
   have k3 := cq.2.2.2.1
   have k4 := cq.2.2.2.2.1
   have k5 := cq.2.2.2.2.2.1
   have k6 := cq.2.2.2.2.2.2.1
   have k7 := cq.2.2.2.2.2.2.2.1
   have k8 := cq.2.2.2.2.2.2.2.2.1
   have k9 := cq.2.2.2.2.2.2.2.2.2.1
   have k10 := cq.2.2.2.2.2.2.2.2.2.2.1
   have k11 := cq.2.2.2.2.2.2.2.2.2.2.2.1
   have k12 := cq.2.2.2.2.2.2.2.2.2.2.2.2
   have d0 := cR.1
   have d1 := cR.2.1
   have d2 := cR.2.2.1
   have d3 := cR.2.2.2.1
   have d4 := cR.2.2.2.2.1
   have d5 := cR.2.2.2.2.2.1
   have d6 := cR.2.2.2.2.2.2.1
   have d7 := cR.2.2.2.2.2.2.2.1
   have d8 := cR.2.2.2.2.2.2.2.2.1
   have d9 := cR.2.2.2.2.2.2.2.2.2.1
   have d10 := cR.2.2.2.2.2.2.2.2.2.2.1
   have d11 := cR.2.2.2.2.2.2.2.2.2.2.2.1
   have d12 := cR.2.2.2.2.2.2.2.2.2.2.2.2
   have f0 := fR.1
   have f1 := fR.2.1
   have f2 := fR.2.2.1
   have f3 := fR.2.2.2.1
   have f4 := fR.2.2.2.2.1
   have f5 := fR.2.2.2.2.2.1
   have f6 := fR.2.2.2.2.2.2.1
   have f7 := fR.2.2.2.2.2.2.2.1
   have f8 := fR.2.2.2.2.2.2.2.2.1
   have f9 := fR.2.2.2.2.2.2.2.2.2.1
   have f10 := fR.2.2.2.2.2.2.2.2.2.2.1
   have f11 := fR.2.2.2.2.2.2.2.2.2.2.2.1
   have f12 := fR.2.2.2.2.2.2.2.2.2.2.2.2
   clear cq cR fR
   clear hI hnm hne
   unfold stV set13 at T
   dsimp only at T
   go_wp2
   refine bodyPost_ret (v := stV (sTab nm0 v)) (by simp [results,Tryz.results19,go_sem,stV,d0,d1,d2,d3,d4,d5,d6,d7,d8,d9,d10,d11,d12]) rfl ?_
   exact T.out
  ·obtain ⟨i,rfl⟩ : ∃ i,j = i + 1 := ⟨j - 1,by omega⟩
   have e1 : ((i + 1 : Nat) : Int) - 1 = (i : Int) := by omega
   rw [e1]
   have gi : decide ((0 : Int) ≤ (i : Int)) = true := by simp
   have hi3 : i ≤ 3 := by omega
   have hw1 : IntKind.i64.wrap (3 - (i : Int)) = 3 - (i : Int) := by rw [IntKind.wrap_i64]; omega
   have hD : But g wr wr.drew := But.of (Below.refl _ wr).drew
   have hpD := hI.pk.later (Below.refl _ wr).drew
   have HI : Hid _ := hid hI
   have hblk := hI.own.blk
   clear hI e1
   go_upto_region 7 with fail
   go_cut [5] (fun v5 w' => ColI g r5 wr v5 w')
   case first =>
    clear HI hblk hnm
    refine wp_region_held_drew (S := (fun _ => True)) (by kernel_rfl) (trivial) (fun hHeld => ?_)
    refine tkH 1 ?tv78 rfl (by kernel_rfl) (by kernel_rfl) (by kernel_rfl) (fun _ _ _ h => h) (by rfl) ?hy78 hHeld ?rs78
    case hy78 => (intro w9 _; go_simp; (try with_reducible rfl))
    (try simp only [Act.put,s1,s2,s3])
    refine tkH 2 ?tv79 rfl (by kernel_rfl) (by kernel_rfl) (by kernel_rfl) (fun _ _ _ h => h) (by rfl) ?hy79 hHeld ?rs79
    case hy79 => (intro w9 _; go_simp; (try with_reducible rfl))
    (try simp only [Act.put,s1,s2,s3])
    refine tkH 3 ?tv80 rfl (by kernel_rfl) (by kernel_rfl) (by kernel_rfl) (fun _ _ _ h => h) (by rfl) ?hy80 hHeld ?rs80
    case hy80 => (intro w9 _; go_simp; (try with_reducible rfl))
    (try simp only [Act.put,s1,s2,s3])
    refine tkH 5 ?tv81 rfl (by kernel_rfl) (by kernel_rfl) (by kernel_rfl) (fun _ _ _ h => h) (by rfl) ?hy81 hHeld ?rs81
    case hy81 => (intro w9 _; go_simp; (try with_reducible rfl))
    (try simp only [Act.put,s1,s2,s3])
    refine tkH 12 ?tv82 rfl (by kernel_rfl) (by kernel_rfl) (by kernel_rfl) (fun _ _ _ h => h) (by rfl) ?hy82 hHeld ?rs82
    case hy82 => (intro w9 _; go_simp; (try with_reducible rfl))
    (try simp only [Act.put,s1,s2,s3])
    refine wpAnyH_ready (rs := [0,4,16]) (by kernel_rfl) (by simp) ?_
    refine AllReadyH.cons rfl (fun K hK => ?_) (AllReadyH.cons rfl (fun K hK => ?_) (AllReadyH.cons rfl (fun K hK => ?_) AllReadyH.nil))
    ·go_simp
     have hEq43 : But g wr (wr.alloc oK4).drew := hD.alloc _
     have hpq43 : Pk (wr.alloc oK4).drew g r5 := hpD.alloc _
     have hSq43 : Txt (wr.alloc oK4).drew wr.heap.size lK4 := Txt.new4 wr.drew ⟨#[107]⟩ ⟨#[118]⟩ ⟨#[110]⟩ ⟨#[114]⟩
     have hszq43 : wr.heap.size ≤ wr.heap.size := by have := hD.size; (try simp at this); omega
     clear hpD hD 
     generalize hgb : wr.heap.size = bS at hSq43 hszq43 ⊢
     have hzhS : z < bS := by omega
     clear hgb
     generalize (wr.alloc oK4).drew = uq43 at *
     refine hK.out _ _ (trivial) (fun hHeld => ?_)
     clear hK K
     (try simp only [Act.put,s1,s2,s3])
     have hHeld9 : (fun w' => Txt w' bS lK4) uq43 := hSq43
     clear hHeld
     refine wpAnyH_str (S' := (fun w' => Txt w' bS lK4)) (fun w h => trivial) _ _ _ _ ?_
     have hHeld := hHeld9
     clear hHeld9
     refine wpAnyH_ready (rs := [4,16]) (by kernel_rfl) (by simp) ?_
     refine AllReadyH.cons rfl (fun K hK => ?_) (AllReadyH.cons rfl (fun K hK => ?_) AllReadyH.nil)
     ·go_simp
      go_wp2_with (first | (go_at_call 39; refine Calls.mono (num_any hpq43 2 (by decide) (by decide)) ?_; rintro e uq44 ⟨ka,rq44,rfl,hka,hlq44,hpq44,hbq44⟩))
      have hEq44 := hEq43.trans hbq44
      have hrq44 := hlq44.1
      have hSq44 := hSq43.but hbq44 (by omega)
      clear hpq43 hEq43 hbq44 hlq44 hSq43
      have ika : (0 : Int) ≤ (ka : Int) := by omega
      have jka : (ka : Int) < 2 := by omega
      refine hK.out _ _ (hSq44) (fun hHeld => ?_)
      clear hK K
      (try simp only [Act.put,s1,s2,s3])
      refine wpAnyH_ready (rs := [6,16]) (by kernel_rfl) (by simp) ?_
      refine AllReadyH.cons rfl (fun K hK => ?_) (AllReadyH.cons rfl (fun K hK => ?_) AllReadyH.nil)
      ·go_simp
       go_wp2_with (first | (go_at_call 39; refine Calls.mono (num_any hpq44 3 (by decide) (by decide)) ?_; rintro e uq45 ⟨kb,rq45,rfl,hkb,hlq45,hpq45,hbq45⟩))
       have hEq45 := hEq44.trans hbq45
       have hrq45 := hlq45.1
       have hSq45 := hSq44.but hbq45 (by omega)
       clear hpq44 hEq44 hbq45 hlq45 hSq44
       have ikb : (0 : Int) ≤ (kb : Int) := by omega
       have jkb : (kb : Int) < 3 := by omega
       obtain ⟨ab,jx,hab,hw2,hw3,hjx,htj,ijx,jjx⟩ := idx7 hi3 hka hkb
       refine hK.out _ _ (hSq45) (fun hHeld => ?_)
       clear hK K
       (try simp only [Act.put,s1,s2,s3])
       refine tkH 7 ?tv83 rfl (by kernel_rfl) (by kernel_rfl) (by kernel_rfl) (fun _ _ _ h => h) (by rfl) ?hy83 hHeld ?rs83
       case hy83 => (intro w9 _; go_simp; (try with_reducible rfl))
       (try simp only [Act.put,s1,s2,s3])
       refine tkH 8 ?tv84 rfl (by kernel_rfl) (by kernel_rfl) (by kernel_rfl) (fun _ _ _ h => h) (by rfl) ?hy84 hHeld ?rs84
       case hy84 => (intro w9 _; go_simp; (try with_reducible rfl))
       (try simp only [Act.put,s1,s2,s3])
       refine tkH 9 ?tv85 rfl (by kernel_rfl) (by kernel_rfl) (by kernel_rfl) (fun _ _ _ h => h) (by rfl) ?hy85 hHeld ?rs85
       case hy85 => (intro w9 _; go_simp; (try with_reducible rfl))
       (try simp only [Act.put,s1,s2,s3])
       refine tkH 10 ?tv86 rfl (by kernel_rfl) (by kernel_rfl) (by kernel_rfl) (fun _ _ _ h => h) (by rfl) ?hy86 hHeld ?rs86
       case hy86 => (intro w9 _; go_simp; (try with_reducible rfl))
       (try simp only [Act.put,s1,s2,s3])
       refine tkH 11 ?tv87 rfl (by kernel_rfl) (by kernel_rfl) (by kernel_rfl) (fun _ _ _ h => h) (by rfl) ?hy87 hHeld ?rs87
       case hy87 => (intro w9 hSw; (try dsimp only at hSw); have bl9 := (hSw).lt; have c9 := (hSw).cell jx (by show jx < 4; omega); go_simp; (try with_reducible rfl))
       (try simp only [Act.put,s1,s2,s3])
       refine wpAnyH_ready (rs := [13,16]) (by kernel_rfl) (by simp) ?_
       refine AllReadyH.cons rfl (fun K hK => ?_) (AllReadyH.cons rfl (fun K hK => ?_) AllReadyH.nil)
       ·go_simp
        go_wp2_with (first | (go_at_call 39; refine Calls.mono (num_any hpq45 2 (by decide) (by decide)) ?_; rintro e uq46 ⟨kc,rq46,rfl,hkc,hlq46,hpq46,hbq46⟩))
        have hEq46 := hEq45.trans hbq46
        have hrq46 := hlq46.1
        have hSq46 := hSq45.but hbq46 (by omega)
        clear hpq45 hEq45 hbq46 hlq46 hSq45
        have ikc : (0 : Int) ≤ (kc : Int) := by omega
        have jkc : (kc : Int) < 2 := by omega
        have hw4 : IntKind.i64.wrap (1 + (kc : Int)) = 1 + (kc : Int) := by rw [IntKind.wrap_i64]; omega
        refine hK.out _ _ (hSq46) (fun hHeld => ?_)
        clear hK K
        (try simp only [Act.put,s1,s2,s3])
        refine tkH 14 ?tv88 rfl (by kernel_rfl) (by kernel_rfl) (by kernel_rfl) (fun _ _ _ h => h) (by rfl) ?hy88 hHeld ?rs88
        case hy88 => (intro w9 _; go_simp; (try with_reducible rfl))
        (try simp only [Act.put,s1,s2,s3])
        refine tkH 15 ?tv89 rfl (by kernel_rfl) (by kernel_rfl) (by kernel_rfl) (fun _ _ _ h => h) (by rfl) ?hy89 hHeld ?rs89
        case hy89 => (intro w9 _; go_simp; (try with_reducible rfl))
        (try simp only [Act.put,s1,s2,s3])
        refine wpAnyH_ready (rs := [16]) (by kernel_rfl) (by simp) ?_
        refine AllReadyH.cons rfl (fun K hK => ?_) AllReadyH.nil
        go_simp
        have hEq47 : But g wr (uq46.alloc oZC) := hEq46.alloc _
        have hpq47 : Pk (uq46.alloc oZC) g rq46 := hpq46.alloc _
        have hCq47 : Blk (uq46.alloc oZC) uq46.heap.size oZC := Blk.new uq46 oZC
        have hSq47 := hSq46.later (bal (Below.refl _ uq46) oZC)
        have lthSq47 : bS < uq46.heap.size := hSq46.lt
        have hszq47 : wr.heap.size ≤ uq46.heap.size := by have := hEq46.size; (try simp at this); omega
        have hSt47 : Txt (uq46.alloc oZC) bS lK4 := hSq47
        clear hpq46 hEq46 hSq46 hSq47
        generalize hgb : uq46.heap.size = bC at hCq47 hszq47 ⊢
        have hzhC : z < bC := by omega
        have hwhC : wr.heap.size ≤ bC := by omega
        have nehSq47 : bS ≠ bC := by omega
        clear hgb
        generalize (uq46.alloc oZC) = uq47 at *
        refine hK.out _ _ (hSt47) (fun hHeld => ?_)
        clear hK K
        (try simp only [Act.put,s1,s2,s3])
        refine wpAnyH_ready (rs := [17]) (by kernel_rfl) (by simp) ?_
        refine AllReadyH.cons rfl (fun K hK => ?_) AllReadyH.nil
        have hcn : (txN lK4 jx) ∈ lK4 := txN_mem (by show jx < 4; omega)
        generalize txN lK4 jx = cn at *
        have bl9 := hCq47.lt
        have f0 := hCq47.free 0
        have f1 := hCq47.free 1
        have f2 := hCq47.free 2
        have c0 := hCq47.cell 0
        have c1 := hCq47.cell 1
        have c2 := hCq47.cell 2
        simp at c0 c1 c2
        have hr9 : rq46 ≤ r5 := by omega
        have T : Hid _ := hid (ColI.of hCq47 hcn hkc hwhC hEq47 hpq47 (by omega) hr9)
        have HXS : Hid _ := hid (hSt47.st3 (q := bC) (by omega) cn (1 + (kc : Int)))
        clear hcn hCq47 hSt47 hEq47 hpq47
        go_simp
        refine hK.out _ _ (HXS.out) (fun hHeld => ?_)
        clear hK K
        (try simp only [Act.put,s1,s2,s3])
        refine wpAnyH_done (by kernel_rfl) ?_ _
        go_wp2_with fail
        go_meet
        exact T.out
       go_simp
       have hEq48 : But g wr (uq45.alloc oZC) := hEq45.alloc _
       have hpq48 : Pk (uq45.alloc oZC) g rq45 := hpq45.alloc _
       have hCq48 : Blk (uq45.alloc oZC) uq45.heap.size oZC := Blk.new uq45 oZC
       have hSq48 := hSq45.later (bal (Below.refl _ uq45) oZC)
       have lthSq48 : bS < uq45.heap.size := hSq45.lt
       have hszq48 : wr.heap.size ≤ uq45.heap.size := by have := hEq45.size; (try simp at this); omega
       have hSt48 : Txt (uq45.alloc oZC) bS lK4 := hSq48
       clear hpq45 hEq45 hSq45 hSq48
       generalize hgb : uq45.heap.size = bC at hCq48 hszq48 ⊢
       have hzhC : z < bC := by omega
       have hwhC : wr.heap.size ≤ bC := by omega
       have nehSq48 : bS ≠ bC := by omega
       clear hgb
       generalize (uq45.alloc oZC) = uq48 at *
       refine hK.out _ _ (hSt48) (fun hHeld => ?_)
       clear hK K
       (try simp only [Act.put,s1,s2,s3])
       refine wpAnyH_ready (rs := [13]) (by kernel_rfl) (by simp) ?_
       refine AllReadyH.cons rfl (fun K hK => ?_) AllReadyH.nil
       go_simp
       go_wp2_with (first | (go_at_call 39; refine Calls.mono (num_any hpq48 2 (by decide) (by decide)) ?_; rintro e uq49 ⟨kc,rq49,rfl,hkc,hlq49,hpq49,hbq49⟩))
       have hEq49 := hEq48.trans hbq49
       have hrq49 := hlq49.1
       have hSq49 := hSt48.but hbq49 (by omega)
       have hCq49 := hCq48.but hbq49 (by omega)
       clear hpq48 hEq48 hbq49 hlq49 hSt48 hCq48
       have ikc : (0 : Int) ≤ (kc : Int) := by omega
       have jkc : (kc : Int) < 2 := by omega
       have hw4 : IntKind.i64.wrap (1 + (kc : Int)) = 1 + (kc : Int) := by rw [IntKind.wrap_i64]; omega
       refine hK.out _ _ (hSq49) (fun hHeld => ?_)
       clear hK K
       (try simp only [Act.put,s1,s2,s3])
       refine tkH 14 ?tv90 rfl (by kernel_rfl) (by kernel_rfl) (by kernel_rfl) (fun _ _ _ h => h) (by rfl) ?hy90 hHeld ?rs90
       case hy90 => (intro w9 _; go_simp; (try with_reducible rfl))
       (try simp only [Act.put,s1,s2,s3])
       refine tkH 15 ?tv91 rfl (by kernel_rfl) (by kernel_rfl) (by kernel_rfl) (fun _ _ _ h => h) (by rfl) ?hy91 hHeld ?rs91
       case hy91 => (intro w9 _; go_simp; (try with_reducible rfl))
       (try simp only [Act.put,s1,s2,s3])
       refine wpAnyH_ready (rs := [17]) (by kernel_rfl) (by simp) ?_
       refine AllReadyH.cons rfl (fun K hK => ?_) AllReadyH.nil
       have hcn : (txN lK4 jx) ∈ lK4 := txN_mem (by show jx < 4; omega)
       generalize txN lK4 jx = cn at *
       have bl9 := hCq49.lt
       have f0 := hCq49.free 0
       have f1 := hCq49.free 1
       have f2 := hCq49.free 2
       have c0 := hCq49.cell 0
       have c1 := hCq49.cell 1
       have c2 := hCq49.cell 2
       simp at c0 c1 c2
       have hr9 : rq49 ≤ r5 := by omega
       have T : Hid _ := hid (ColI.of hCq49 hcn hkc hwhC hEq49 hpq49 (by omega) hr9)
       have HXS : Hid _ := hid (hSq49.st3 (q := bC) (by omega) cn (1 + (kc : Int)))
       clear hcn hCq49 hSq49 hEq49 hpq49
       go_simp
       refine hK.out _ _ (HXS.out) (fun hHeld => ?_)
       clear hK K
       (try simp only [Act.put,s1,s2,s3])
       refine wpAnyH_done (by kernel_rfl) ?_ _
       go_wp2_with fail
       go_meet
       exact T.out
      go_simp
      have hEq50 : But g wr (uq44.alloc oZC) := hEq44.alloc _
      have hpq50 : Pk (uq44.alloc oZC) g rq44 := hpq44.alloc _
      have hCq50 : Blk (uq44.alloc oZC) uq44.heap.size oZC := Blk.new uq44 oZC
      have hSq50 := hSq44.later (bal (Below.refl _ uq44) oZC)
      have lthSq50 : bS < uq44.heap.size := hSq44.lt
      have hszq50 : wr.heap.size ≤ uq44.heap.size := by have := hEq44.size; (try simp at this); omega
      have hSt50 : Txt (uq44.alloc oZC) bS lK4 := hSq50
      clear hpq44 hEq44 hSq44 hSq50
      generalize hgb : uq44.heap.size = bC at hCq50 hszq50 ⊢
      have hzhC : z < bC := by omega
      have hwhC : wr.heap.size ≤ bC := by omega
      have nehSq50 : bS ≠ bC := by omega
      clear hgb
      generalize (uq44.alloc oZC) = uq50 at *
      refine hK.out _ _ (hSt50) (fun hHeld => ?_)
      clear hK K
      (try simp only [Act.put,s1,s2,s3])
      refine wpAnyH_ready (rs := [6]) (by kernel_rfl) (by simp) ?_
      refine AllReadyH.cons rfl (fun K hK => ?_) AllReadyH.nil
      go_simp
      go_wp2_with (first | (go_at_call 39; refine Calls.mono (num_any hpq50 3 (by decide) (by decide)) ?_; rintro e uq51 ⟨kb,rq51,rfl,hkb,hlq51,hpq51,hbq51⟩))
      have hEq51 := hEq50.trans hbq51
      have hrq51 := hlq51.1
      have hSq51 := hSt50.but hbq51 (by omega)
      have hCq51 := hCq50.but hbq51 (by omega)
      clear hpq50 hEq50 hbq51 hlq51 hSt50 hCq50
      have ikb : (0 : Int) ≤ (kb : Int) := by omega
      have jkb : (kb : Int) < 3 := by omega
      obtain ⟨ab,jx,hab,hw2,hw3,hjx,htj,ijx,jjx⟩ := idx7 hi3 hka hkb
      refine hK.out _ _ (hSq51) (fun hHeld => ?_)
      clear hK K
      (try simp only [Act.put,s1,s2,s3])
      refine tkH 7 ?tv92 rfl (by kernel_rfl) (by kernel_rfl) (by kernel_rfl) (fun _ _ _ h => h) (by rfl) ?hy92 hHeld ?rs92
      case hy92 => (intro w9 _; go_simp; (try with_reducible rfl))
      (try simp only [Act.put,s1,s2,s3])
      refine tkH 8 ?tv93 rfl (by kernel_rfl) (by kernel_rfl) (by kernel_rfl) (fun _ _ _ h => h) (by rfl) ?hy93 hHeld ?rs93
      case hy93 => (intro w9 _; go_simp; (try with_reducible rfl))
      (try simp only [Act.put,s1,s2,s3])
      refine tkH 9 ?tv94 rfl (by kernel_rfl) (by kernel_rfl) (by kernel_rfl) (fun _ _ _ h => h) (by rfl) ?hy94 hHeld ?rs94
      case hy94 => (intro w9 _; go_simp; (try with_reducible rfl))
      (try simp only [Act.put,s1,s2,s3])
      refine tkH 10 ?tv95 rfl (by kernel_rfl) (by kernel_rfl) (by kernel_rfl) (fun _ _ _ h => h) (by rfl) ?hy95 hHeld ?rs95
      case hy95 => (intro w9 _; go_simp; (try with_reducible rfl))
      (try simp only [Act.put,s1,s2,s3])
      refine tkH 11 ?tv96 rfl (by kernel_rfl) (by kernel_rfl) (by kernel_rfl) (fun _ _ _ h => h) (by rfl) ?hy96 hHeld ?rs96
      case hy96 => (intro w9 hSw; (try dsimp only at hSw); have bl9 := (hSw).lt; have c9 := (hSw).cell jx (by show jx < 4; omega); go_simp; (try with_reducible rfl))
      (try simp only [Act.put,s1,s2,s3])
      refine wpAnyH_ready (rs := [13]) (by kernel_rfl) (by simp) ?_
      refine AllReadyH.cons rfl (fun K hK => ?_) AllReadyH.nil
      go_simp
      go_wp2_with (first | (go_at_call 39; refine Calls.mono (num_any hpq51 2 (by decide) (by decide)) ?_; rintro e uq52 ⟨kc,rq52,rfl,hkc,hlq52,hpq52,hbq52⟩))
      have hEq52 := hEq51.trans hbq52
      have hrq52 := hlq52.1
      have hSq52 := hSq51.but hbq52 (by omega)
      have hCq52 := hCq51.but hbq52 (by omega)
      clear hpq51 hEq51 hbq52 hlq52 hSq51 hCq51
      have ikc : (0 : Int) ≤ (kc : Int) := by omega
      have jkc : (kc : Int) < 2 := by omega
      have hw4 : IntKind.i64.wrap (1 + (kc : Int)) = 1 + (kc : Int) := by rw [IntKind.wrap_i64]; omega
      refine hK.out _ _ (hSq52) (fun hHeld => ?_)
      clear hK K
      (try simp only [Act.put,s1,s2,s3])
      refine tkH 14 ?tv97 rfl (by kernel_rfl) (by kernel_rfl) (by kernel_rfl) (fun _ _ _ h => h) (by rfl) ?hy97 hHeld ?rs97
      case hy97 => (intro w9 _; go_simp; (try with_reducible rfl))
      (try simp only [Act.put,s1,s2,s3])
      refine tkH 15 ?tv98 rfl (by kernel_rfl) (by kernel_rfl) (by kernel_rfl) (fun _ _ _ h => h) (by rfl) ?hy98 hHeld ?rs98
      case hy98 => (intro w9 _; go_simp; (try with_reducible rfl))
      (try simp only [Act.put,s1,s2,s3])
      refine wpAnyH_ready (rs := [17]) (by kernel_rfl) (by simp) ?_
      refine AllReadyH.cons rfl (fun K hK => ?_) AllReadyH.nil
      have hcn : (txN lK4 jx) ∈ lK4 := txN_mem (by show jx < 4; omega)
      generalize txN lK4 jx = cn at *
      have bl9 := hCq52.lt
      have f0 := hCq52.free 0
      have f1 := hCq52.free 1
      have f2 := hCq52.free 2
      have c0 := hCq52.cell 0
      have c1 := hCq52.cell 1
      have c2 := hCq52.cell 2
      simp at c0 c1 c2
      have hr9 : rq52 ≤ r5 := by omega
      have T : Hid _ := hid (ColI.of hCq52 hcn hkc hwhC hEq52 hpq52 (by omega) hr9)
      have HXS : Hid _ := hid (hSq52.st3 (q := bC) (by omega) cn (1 + (kc : Int)))
      clear hcn hCq52 hSq52 hEq52 hpq52
      go_simp
      refine hK.out _ _ (HXS.out) (fun hHeld => ?_)
      clear hK K
      (try simp only [Act.put,s1,s2,s3])
      refine wpAnyH_done (by kernel_rfl) ?_ _
      go_wp2_with fail
      go_meet
      exact T.out
     go_simp
     have hEq53 : But g wr (uq43.alloc oZC) := hEq43.alloc _
     have hpq53 : Pk (uq43.alloc oZC) g r5 := hpq43.alloc _
     have hCq53 : Blk (uq43.alloc oZC) uq43.heap.size oZC := Blk.new uq43 oZC
     have hSq53 := hSq43.later (bal (Below.refl _ uq43) oZC)
     have lthSq53 : bS < uq43.heap.size := hSq43.lt
     have hszq53 : wr.heap.size ≤ uq43.heap.size := by have := hEq43.size; (try simp at this); omega
     have hSt53 : Txt (uq43.alloc oZC) bS lK4 := hSq53
     clear hpq43 hEq43 hSq43 hSq53
     generalize hgb : uq43.heap.size = bC at hCq53 hszq53 ⊢
     have hzhC : z < bC := by omega
     have hwhC : wr.heap.size ≤ bC := by omega
     have nehSq53 : bS ≠ bC := by omega
     clear hgb
     generalize (uq43.alloc oZC) = uq53 at *
     refine hK.out _ _ (hSt53) (fun hHeld => ?_)
     clear hK K
     (try simp only [Act.put,s1,s2,s3])
     refine wpAnyH_ready (rs := [4]) (by kernel_rfl) (by simp) ?_
     refine AllReadyH.cons rfl (fun K hK => ?_) AllReadyH.nil
     go_simp
     go_wp2_with (first | (go_at_call 39; refine Calls.mono (num_any hpq53 2 (by decide) (by decide)) ?_; rintro e uq54 ⟨ka,rq54,rfl,hka,hlq54,hpq54,hbq54⟩))
     have hEq54 := hEq53.trans hbq54
     have hrq54 := hlq54.1
     have hSq54 := hSt53.but hbq54 (by omega)
     have hCq54 := hCq53.but hbq54 (by omega)
     clear hpq53 hEq53 hbq54 hlq54 hSt53 hCq53
     have ika : (0 : Int) ≤ (ka : Int) := by omega
     have jka : (ka : Int) < 2 := by omega
     refine hK.out _ _ (hSq54) (fun hHeld => ?_)
     clear hK K
     (try simp only [Act.put,s1,s2,s3])
     refine wpAnyH_ready (rs := [6]) (by kernel_rfl) (by simp) ?_
     refine AllReadyH.cons rfl (fun K hK => ?_) AllReadyH.nil
     go_simp
     go_wp2_with (first | (go_at_call 39; refine Calls.mono (num_any hpq54 3 (by decide) (by decide)) ?_; rintro e uq55 ⟨kb,rq55,rfl,hkb,hlq55,hpq55,hbq55⟩))
     have hEq55 := hEq54.trans hbq55
     have hrq55 := hlq55.1
     have hSq55 := hSq54.but hbq55 (by omega)
     have hCq55 := hCq54.but hbq55 (by omega)
     clear hpq54 hEq54 hbq55 hlq55 hSq54 hCq54
     have ikb : (0 : Int) ≤ (kb : Int) := by omega
     have jkb : (kb : Int) < 3 := by omega
     obtain ⟨ab,jx,hab,hw2,hw3,hjx,htj,ijx,jjx⟩ := idx7 hi3 hka hkb
     refine hK.out _ _ (hSq55) (fun hHeld => ?_)
     clear hK K
     (try simp only [Act.put,s1,s2,s3])
     refine tkH 7 ?tv99 rfl (by kernel_rfl) (by kernel_rfl) (by kernel_rfl) (fun _ _ _ h => h) (by rfl) ?hy99 hHeld ?rs99
     case hy99 => (intro w9 _; go_simp; (try with_reducible rfl))
     (try simp only [Act.put,s1,s2,s3])
     refine tkH 8 ?tv100 rfl (by kernel_rfl) (by kernel_rfl) (by kernel_rfl) (fun _ _ _ h => h) (by rfl) ?hy100 hHeld ?rs100
     case hy100 => (intro w9 _; go_simp; (try with_reducible rfl))
     (try simp only [Act.put,s1,s2,s3])
     refine tkH 9 ?tv101 rfl (by kernel_rfl) (by kernel_rfl) (by kernel_rfl) (fun _ _ _ h => h) (by rfl) ?hy101 hHeld ?rs101
     case hy101 => (intro w9 _; go_simp; (try with_reducible rfl))
     (try simp only [Act.put,s1,s2,s3])
     refine tkH 10 ?tv102 rfl (by kernel_rfl) (by kernel_rfl) (by kernel_rfl) (fun _ _ _ h => h) (by rfl) ?hy102 hHeld ?rs102
     case hy102 => (intro w9 _; go_simp; (try with_reducible rfl))
     (try simp only [Act.put,s1,s2,s3])
     refine tkH 11 ?tv103 rfl (by kernel_rfl) (by kernel_rfl) (by kernel_rfl) (fun _ _ _ h => h) (by rfl) ?hy103 hHeld ?rs103
     case hy103 => (intro w9 hSw; (try dsimp only at hSw); have bl9 := (hSw).lt; have c9 := (hSw).cell jx (by show jx < 4; omega); go_simp; (try with_reducible rfl))
     (try simp only [Act.put,s1,s2,s3])
     refine wpAnyH_ready (rs := [13]) (by kernel_rfl) (by simp) ?_
     refine AllReadyH.cons rfl (fun K hK => ?_) AllReadyH.nil
     go_simp
     go_wp2_with (first | (go_at_call 39; refine Calls.mono (num_any hpq55 2 (by decide) (by decide)) ?_; rintro e uq56 ⟨kc,rq56,rfl,hkc,hlq56,hpq56,hbq56⟩))
     have hEq56 := hEq55.trans hbq56
     have hrq56 := hlq56.1
     have hSq56 := hSq55.but hbq56 (by omega)
     have hCq56 := hCq55.but hbq56 (by omega)
     clear hpq55 hEq55 hbq56 hlq56 hSq55 hCq55
     have ikc : (0 : Int) ≤ (kc : Int) := by omega
     have jkc : (kc : Int) < 2 := by omega
     have hw4 : IntKind.i64.wrap (1 + (kc : Int)) = 1 + (kc : Int) := by rw [IntKind.wrap_i64]; omega
     refine hK.out _ _ (hSq56) (fun hHeld => ?_)
     clear hK K
     (try simp only [Act.put,s1,s2,s3])
     refine tkH 14 ?tv104 rfl (by kernel_rfl) (by kernel_rfl) (by kernel_rfl) (fun _ _ _ h => h) (by rfl) ?hy104 hHeld ?rs104
     case hy104 => (intro w9 _; go_simp; (try with_reducible rfl))
     (try simp only [Act.put,s1,s2,s3])
     refine tkH 15 ?tv105 rfl (by kernel_rfl) (by kernel_rfl) (by kernel_rfl) (fun _ _ _ h => h) (by rfl) ?hy105 hHeld ?rs105
     case hy105 => (intro w9 _; go_simp; (try with_reducible rfl))
     (try simp only [Act.put,s1,s2,s3])
     refine wpAnyH_ready (rs := [17]) (by kernel_rfl) (by simp) ?_
     refine AllReadyH.cons rfl (fun K hK => ?_) AllReadyH.nil
     have hcn : (txN lK4 jx) ∈ lK4 := txN_mem (by show jx < 4; omega)
     generalize txN lK4 jx = cn at *
     have bl9 := hCq56.lt
     have f0 := hCq56.free 0
     have f1 := hCq56.free 1
     have f2 := hCq56.free 2
     have c0 := hCq56.cell 0
     have c1 := hCq56.cell 1
     have c2 := hCq56.cell 2
     simp at c0 c1 c2
     have hr9 : rq56 ≤ r5 := by omega
     have T : Hid _ := hid (ColI.of hCq56 hcn hkc hwhC hEq56 hpq56 (by omega) hr9)
     have HXS : Hid _ := hid (hSq56.st3 (q := bC) (by omega) cn (1 + (kc : Int)))
     clear hcn hCq56 hSq56 hEq56 hpq56
     go_simp
     refine hK.out _ _ (HXS.out) (fun hHeld => ?_)
     clear hK K
     (try simp only [Act.put,s1,s2,s3])
     refine wpAnyH_done (by kernel_rfl) ?_ _
     go_wp2_with fail
     go_meet
     exact T.out
    ·go_simp
     go_wp2_with (first | (go_at_call 39; refine Calls.mono (num_any hpD 2 (by decide) (by decide)) ?_; rintro e uq57 ⟨ka,rq57,rfl,hka,hlq57,hpq57,hbq57⟩))
     have hEq57 := hD.trans hbq57
     have hrq57 := hlq57.1
     clear hpD hD hbq57 hlq57 
     have ika : (0 : Int) ≤ (ka : Int) := by omega
     have jka : (ka : Int) < 2 := by omega
     refine hK.out _ _ (trivial) (fun hHeld => ?_)
     clear hK K
     (try simp only [Act.put,s1,s2,s3])
     refine wpAnyH_ready (rs := [0,6,16]) (by kernel_rfl) (by simp) ?_
     refine AllReadyH.cons rfl (fun K hK => ?_) (AllReadyH.cons rfl (fun K hK => ?_) (AllReadyH.cons rfl (fun K hK => ?_) AllReadyH.nil))
     ·go_simp
      have hEq58 : But g wr (uq57.alloc oK4) := hEq57.alloc _
      have hpq58 : Pk (uq57.alloc oK4) g rq57 := hpq57.alloc _
      have hSq58 : Txt (uq57.alloc oK4) uq57.heap.size lK4 := Txt.new4 uq57 ⟨#[107]⟩ ⟨#[118]⟩ ⟨#[110]⟩ ⟨#[114]⟩
      have hszq58 : wr.heap.size ≤ uq57.heap.size := by have := hEq57.size; (try simp at this); omega
      clear hpq57 hEq57 
      generalize hgb : uq57.heap.size = bS at hSq58 hszq58 ⊢
      have hzhS : z < bS := by omega
      clear hgb
      generalize (uq57.alloc oK4) = uq58 at *
      refine hK.out _ _ (trivial) (fun hHeld => ?_)
      clear hK K
      (try simp only [Act.put,s1,s2,s3])
      have hHeld9 : (fun w' => Txt w' bS lK4) uq58 := hSq58
      clear hHeld
      refine wpAnyH_str (S' := (fun w' => Txt w' bS lK4)) (fun w h => trivial) _ _ _ _ ?_
      have hHeld := hHeld9
      clear hHeld9
      refine wpAnyH_ready (rs := [6,16]) (by kernel_rfl) (by simp) ?_
      refine AllReadyH.cons rfl (fun K hK => ?_) (AllReadyH.cons rfl (fun K hK => ?_) AllReadyH.nil)
      ·go_simp
       go_wp2_with (first | (go_at_call 39; refine Calls.mono (num_any hpq58 3 (by decide) (by decide)) ?_; rintro e uq59 ⟨kb,rq59,rfl,hkb,hlq59,hpq59,hbq59⟩))
       have hEq59 := hEq58.trans hbq59
       have hrq59 := hlq59.1
       have hSq59 := hSq58.but hbq59 (by omega)
       clear hpq58 hEq58 hbq59 hlq59 hSq58
       have ikb : (0 : Int) ≤ (kb : Int) := by omega
       have jkb : (kb : Int) < 3 := by omega
       obtain ⟨ab,jx,hab,hw2,hw3,hjx,htj,ijx,jjx⟩ := idx7 hi3 hka hkb
       refine hK.out _ _ (hSq59) (fun hHeld => ?_)
       clear hK K
       (try simp only [Act.put,s1,s2,s3])
       refine tkH 7 ?tv106 rfl (by kernel_rfl) (by kernel_rfl) (by kernel_rfl) (fun _ _ _ h => h) (by rfl) ?hy106 hHeld ?rs106
       case hy106 => (intro w9 _; go_simp; (try with_reducible rfl))
       (try simp only [Act.put,s1,s2,s3])
       refine tkH 8 ?tv107 rfl (by kernel_rfl) (by kernel_rfl) (by kernel_rfl) (fun _ _ _ h => h) (by rfl) ?hy107 hHeld ?rs107
       case hy107 => (intro w9 _; go_simp; (try with_reducible rfl))
       (try simp only [Act.put,s1,s2,s3])
       refine tkH 9 ?tv108 rfl (by kernel_rfl) (by kernel_rfl) (by kernel_rfl) (fun _ _ _ h => h) (by rfl) ?hy108 hHeld ?rs108
       case hy108 => (intro w9 _; go_simp; (try with_reducible rfl))
       (try simp only [Act.put,s1,s2,s3])
       refine tkH 10 ?tv109 rfl (by kernel_rfl) (by kernel_rfl) (by kernel_rfl) (fun _ _ _ h => h) (by rfl) ?hy109 hHeld ?rs109
       case hy109 => (intro w9 _; go_simp; (try with_reducible rfl))
       (try simp only [Act.put,s1,s2,s3])
       refine tkH 11 ?tv110 rfl (by kernel_rfl) (by kernel_rfl) (by kernel_rfl) (fun _ _ _ h => h) (by rfl) ?hy110 hHeld ?rs110
       case hy110 => (intro w9 hSw; (try dsimp only at hSw); have bl9 := (hSw).lt; have c9 := (hSw).cell jx (by show jx < 4; omega); go_simp; (try with_reducible rfl))
       (try simp only [Act.put,s1,s2,s3])
       refine wpAnyH_ready (rs := [13,16]) (by kernel_rfl) (by simp) ?_
       refine AllReadyH.cons rfl (fun K hK => ?_) (AllReadyH.cons rfl (fun K hK => ?_) AllReadyH.nil)
       ·go_simp
        go_wp2_with (first | (go_at_call 39; refine Calls.mono (num_any hpq59 2 (by decide) (by decide)) ?_; rintro e uq60 ⟨kc,rq60,rfl,hkc,hlq60,hpq60,hbq60⟩))
        have hEq60 := hEq59.trans hbq60
        have hrq60 := hlq60.1
        have hSq60 := hSq59.but hbq60 (by omega)
        clear hpq59 hEq59 hbq60 hlq60 hSq59
        have ikc : (0 : Int) ≤ (kc : Int) := by omega
        have jkc : (kc : Int) < 2 := by omega
        have hw4 : IntKind.i64.wrap (1 + (kc : Int)) = 1 + (kc : Int) := by rw [IntKind.wrap_i64]; omega
        refine hK.out _ _ (hSq60) (fun hHeld => ?_)
        clear hK K
        (try simp only [Act.put,s1,s2,s3])
        refine tkH 14 ?tv111 rfl (by kernel_rfl) (by kernel_rfl) (by kernel_rfl) (fun _ _ _ h => h) (by rfl) ?hy111 hHeld ?rs111
        case hy111 => (intro w9 _; go_simp; (try with_reducible rfl))
        (try simp only [Act.put,s1,s2,s3])
        refine tkH 15 ?tv112 rfl (by kernel_rfl) (by kernel_rfl) (by kernel_rfl) (fun _ _ _ h => h) (by rfl) ?hy112 hHeld ?rs112
        case hy112 => (intro w9 _; go_simp; (try with_reducible rfl))
        (try simp only [Act.put,s1,s2,s3])
        refine wpAnyH_ready (rs := [16]) (by kernel_rfl) (by simp) ?_
        refine AllReadyH.cons rfl (fun K hK => ?_) AllReadyH.nil
        go_simp
        have hEq61 : But g wr (uq60.alloc oZC) := hEq60.alloc _
        have hpq61 : Pk (uq60.alloc oZC) g rq60 := hpq60.alloc _
        have hCq61 : Blk (uq60.alloc oZC) uq60.heap.size oZC := Blk.new uq60 oZC
        have hSq61 := hSq60.later (bal (Below.refl _ uq60) oZC)
        have lthSq61 : bS < uq60.heap.size := hSq60.lt
        have hszq61 : wr.heap.size ≤ uq60.heap.size := by have := hEq60.size; (try simp at this); omega
        have hSt61 : Txt (uq60.alloc oZC) bS lK4 := hSq61
        clear hpq60 hEq60 hSq60 hSq61
        generalize hgb : uq60.heap.size = bC at hCq61 hszq61 ⊢
        have hzhC : z < bC := by omega
        have hwhC : wr.heap.size ≤ bC := by omega
        have nehSq61 : bS ≠ bC := by omega
        clear hgb
        generalize (uq60.alloc oZC) = uq61 at *
        refine hK.out _ _ (hSt61) (fun hHeld => ?_)
        clear hK K
        (try simp only [Act.put,s1,s2,s3])
        refine wpAnyH_ready (rs := [17]) (by kernel_rfl) (by simp) ?_
        refine AllReadyH.cons rfl (fun K hK => ?_) AllReadyH.nil
        have hcn : (txN lK4 jx) ∈ lK4 := txN_mem (by show jx < 4; omega)
        generalize txN lK4 jx = cn at *
        have bl9 := hCq61.lt
        have f0 := hCq61.free 0
        have f1 := hCq61.free 1
        have f2 := hCq61.free 2
        have c0 := hCq61.cell 0
        have c1 := hCq61.cell 1
        have c2 := hCq61.cell 2
        simp at c0 c1 c2
        have hr9 : rq60 ≤ r5 := by omega
        have T : Hid _ := hid (ColI.of hCq61 hcn hkc hwhC hEq61 hpq61 (by omega) hr9)
        have HXS : Hid _ := hid (hSt61.st3 (q := bC) (by omega) cn (1 + (kc : Int)))
        clear hcn hCq61 hSt61 hEq61 hpq61
        go_simp
        refine hK.out _ _ (HXS.out) (fun hHeld => ?_)
        clear hK K
        (try simp only [Act.put,s1,s2,s3])
        refine wpAnyH_done (by kernel_rfl) ?_ _
        go_wp2_with fail
        go_meet
        exact T.out
       go_simp
       have hEq62 : But g wr (uq59.alloc oZC) := hEq59.alloc _
       have hpq62 : Pk (uq59.alloc oZC) g rq59 := hpq59.alloc _
       have hCq62 : Blk (uq59.alloc oZC) uq59.heap.size oZC := Blk.new uq59 oZC
       have hSq62 := hSq59.later (bal (Below.refl _ uq59) oZC)
       have lthSq62 : bS < uq59.heap.size := hSq59.lt
       have hszq62 : wr.heap.size ≤ uq59.heap.size := by have := hEq59.size; (try simp at this); omega
       have hSt62 : Txt (uq59.alloc oZC) bS lK4 := hSq62
       clear hpq59 hEq59 hSq59 hSq62
       generalize hgb : uq59.heap.size = bC at hCq62 hszq62 ⊢
       have hzhC : z < bC := by omega
       have hwhC : wr.heap.size ≤ bC := by omega
       have nehSq62 : bS ≠ bC := by omega
       clear hgb
       generalize (uq59.alloc oZC) = uq62 at *
       refine hK.out _ _ (hSt62) (fun hHeld => ?_)
       clear hK K
       (try simp only [Act.put,s1,s2,s3])
       refine wpAnyH_ready (rs := [13]) (by kernel_rfl) (by simp) ?_
       refine AllReadyH.cons rfl (fun K hK => ?_) AllReadyH.nil
       go_simp
       go_wp2_with (first | (go_at_call 39; refine Calls.mono (num_any hpq62 2 (by decide) (by decide)) ?_; rintro e uq63 ⟨kc,rq63,rfl,hkc,hlq63,hpq63,hbq63⟩))
       have hEq63 := hEq62.trans hbq63
       have hrq63 := hlq63.1
       have hSq63 := hSt62.but hbq63 (by omega)
       have hCq63 := hCq62.but hbq63 (by omega)
       clear hpq62 hEq62 hbq63 hlq63 hSt62 hCq62
       have ikc : (0 : Int) ≤ (kc : Int) := by omega
       have jkc : (kc : Int) < 2 := by omega
       have hw4 : IntKind.i64.wrap (1 + (kc : Int)) = 1 + (kc : Int) := by rw [IntKind.wrap_i64]; omega
       refine hK.out _ _ (hSq63) (fun hHeld => ?_)
       clear hK K
       (try simp only [Act.put,s1,s2,s3])
       refine tkH 14 ?tv113 rfl (by kernel_rfl) (by kernel_rfl) (by kernel_rfl) (fun _ _ _ h => h) (by rfl) ?hy113 hHeld ?rs113
       case hy113 => (intro w9 _; go_simp; (try with_reducible rfl))
       (try simp only [Act.put,s1,s2,s3])
       refine tkH 15 ?tv114 rfl (by kernel_rfl) (by kernel_rfl) (by kernel_rfl) (fun _ _ _ h => h) (by rfl) ?hy114 hHeld ?rs114
       case hy114 => (intro w9 _; go_simp; (try with_reducible rfl))
       (try simp only [Act.put,s1,s2,s3])
       refine wpAnyH_ready (rs := [17]) (by kernel_rfl) (by simp) ?_
       refine AllReadyH.cons rfl (fun K hK => ?_) AllReadyH.nil
       have hcn : (txN lK4 jx) ∈ lK4 := txN_mem (by show jx < 4; omega)
       generalize txN lK4 jx = cn at *
       have bl9 := hCq63.lt
       have f0 := hCq63.free 0
       have f1 := hCq63.free 1
       have f2 := hCq63.free 2
       have c0 := hCq63.cell 0
       have c1 := hCq63.cell 1
       have c2 := hCq63.cell 2
       simp at c0 c1 c2
       have hr9 : rq63 ≤ r5 := by omega
       have T : Hid _ := hid (ColI.of hCq63 hcn hkc hwhC hEq63 hpq63 (by omega) hr9)
       have HXS : Hid _ := hid (hSq63.st3 (q := bC) (by omega) cn (1 + (kc : Int)))
       clear hcn hCq63 hSq63 hEq63 hpq63
       go_simp
       refine hK.out _ _ (HXS.out) (fun hHeld => ?_)
       clear hK K
       (try simp only [Act.put,s1,s2,s3])
       refine wpAnyH_done (by kernel_rfl) ?_ _
       go_wp2_with fail
       go_meet
       exact T.out
      go_simp
      have hEq64 : But g wr (uq58.alloc oZC) := hEq58.alloc _
      have hpq64 : Pk (uq58.alloc oZC) g rq57 := hpq58.alloc _
      have hCq64 : Blk (uq58.alloc oZC) uq58.heap.size oZC := Blk.new uq58 oZC
      have hSq64 := hSq58.later (bal (Below.refl _ uq58) oZC)
      have lthSq64 : bS < uq58.heap.size := hSq58.lt
      have hszq64 : wr.heap.size ≤ uq58.heap.size := by have := hEq58.size; (try simp at this); omega
      have hSt64 : Txt (uq58.alloc oZC) bS lK4 := hSq64
      clear hpq58 hEq58 hSq58 hSq64
      generalize hgb : uq58.heap.size = bC at hCq64 hszq64 ⊢
      have hzhC : z < bC := by omega
      have hwhC : wr.heap.size ≤ bC := by omega
      have nehSq64 : bS ≠ bC := by omega
      clear hgb
      generalize (uq58.alloc oZC) = uq64 at *
      refine hK.out _ _ (hSt64) (fun hHeld => ?_)
      clear hK K
      (try simp only [Act.put,s1,s2,s3])
      refine wpAnyH_ready (rs := [6]) (by kernel_rfl) (by simp) ?_
      refine AllReadyH.cons rfl (fun K hK => ?_) AllReadyH.nil
      go_simp
      go_wp2_with (first | (go_at_call 39; refine Calls.mono (num_any hpq64 3 (by decide) (by decide)) ?_; rintro e uq65 ⟨kb,rq65,rfl,hkb,hlq65,hpq65,hbq65⟩))
      have hEq65 := hEq64.trans hbq65
      have hrq65 := hlq65.1
      have hSq65 := hSt64.but hbq65 (by omega)
      have hCq65 := hCq64.but hbq65 (by omega)
      clear hpq64 hEq64 hbq65 hlq65 hSt64 hCq64
      have ikb : (0 : Int) ≤ (kb : Int) := by omega
      have jkb : (kb : Int) < 3 := by omega
      obtain ⟨ab,jx,hab,hw2,hw3,hjx,htj,ijx,jjx⟩ := idx7 hi3 hka hkb
      refine hK.out _ _ (hSq65) (fun hHeld => ?_)
      clear hK K
      (try simp only [Act.put,s1,s2,s3])
      refine tkH 7 ?tv115 rfl (by kernel_rfl) (by kernel_rfl) (by kernel_rfl) (fun _ _ _ h => h) (by rfl) ?hy115 hHeld ?rs115
      case hy115 => (intro w9 _; go_simp; (try with_reducible rfl))
      (try simp only [Act.put,s1,s2,s3])
      refine tkH 8 ?tv116 rfl (by kernel_rfl) (by kernel_rfl) (by kernel_rfl) (fun _ _ _ h => h) (by rfl) ?hy116 hHeld ?rs116
      case hy116 => (intro w9 _; go_simp; (try with_reducible rfl))
      (try simp only [Act.put,s1,s2,s3])
      refine tkH 9 ?tv117 rfl (by kernel_rfl) (by kernel_rfl) (by kernel_rfl) (fun _ _ _ h => h) (by rfl) ?hy117 hHeld ?rs117
      case hy117 => (intro w9 _; go_simp; (try with_reducible rfl))
      (try simp only [Act.put,s1,s2,s3])
      refine tkH 10 ?tv118 rfl (by kernel_rfl) (by kernel_rfl) (by kernel_rfl) (fun _ _ _ h => h) (by rfl) ?hy118 hHeld ?rs118
      case hy118 => (intro w9 _; go_simp; (try with_reducible rfl))
      (try simp only [Act.put,s1,s2,s3])
      refine tkH 11 ?tv119 rfl (by kernel_rfl) (by kernel_rfl) (by kernel_rfl) (fun _ _ _ h => h) (by rfl) ?hy119 hHeld ?rs119
      case hy119 => (intro w9 hSw; (try dsimp only at hSw); have bl9 := (hSw).lt; have c9 := (hSw).cell jx (by show jx < 4; omega); go_simp; (try with_reducible rfl))
      (try simp only [Act.put,s1,s2,s3])
      refine wpAnyH_ready (rs := [13]) (by kernel_rfl) (by simp) ?_
      refine AllReadyH.cons rfl (fun K hK => ?_) AllReadyH.nil
      go_simp
      go_wp2_with (first | (go_at_call 39; refine Calls.mono (num_any hpq65 2 (by decide) (by decide)) ?_; rintro e uq66 ⟨kc,rq66,rfl,hkc,hlq66,hpq66,hbq66⟩))
      have hEq66 := hEq65.trans hbq66
      have hrq66 := hlq66.1
      have hSq66 := hSq65.but hbq66 (by omega)
      have hCq66 := hCq65.but hbq66 (by omega)
      clear hpq65 hEq65 hbq66 hlq66 hSq65 hCq65
      have ikc : (0 : Int) ≤ (kc : Int) := by omega
      have jkc : (kc : Int) < 2 := by omega
      have hw4 : IntKind.i64.wrap (1 + (kc : Int)) = 1 + (kc : Int) := by rw [IntKind.wrap_i64]; omega
      refine hK.out _ _ (hSq66) (fun hHeld => ?_)
      clear hK K
      (try simp only [Act.put,s1,s2,s3])
      refine tkH 14 ?tv120 rfl (by kernel_rfl) (by kernel_rfl) (by kernel_rfl) (fun _ _ _ h => h) (by rfl) ?hy120 hHeld ?rs120
      case hy120 => (intro w9 _; go_simp; (try with_reducible rfl))
      (try simp only [Act.put,s1,s2,s3])
      refine tkH 15 ?tv121 rfl (by kernel_rfl) (by kernel_rfl) (by kernel_rfl) (fun _ _ _ h => h) (by rfl) ?hy121 hHeld ?rs121
      case hy121 => (intro w9 _; go_simp; (try with_reducible rfl))
      (try simp only [Act.put,s1,s2,s3])
      refine wpAnyH_ready (rs := [17]) (by kernel_rfl) (by simp) ?_
      refine AllReadyH.cons rfl (fun K hK => ?_) AllReadyH.nil
      have hcn : (txN lK4 jx) ∈ lK4 := txN_mem (by show jx < 4; omega)
      generalize txN lK4 jx = cn at *
      have bl9 := hCq66.lt
      have f0 := hCq66.free 0
      have f1 := hCq66.free 1
      have f2 := hCq66.free 2
      have c0 := hCq66.cell 0
      have c1 := hCq66.cell 1
      have c2 := hCq66.cell 2
      simp at c0 c1 c2
      have hr9 : rq66 ≤ r5 := by omega
      have T : Hid _ := hid (ColI.of hCq66 hcn hkc hwhC hEq66 hpq66 (by omega) hr9)
      have HXS : Hid _ := hid (hSq66.st3 (q := bC) (by omega) cn (1 + (kc : Int)))
      clear hcn hCq66 hSq66 hEq66 hpq66
      go_simp
      refine hK.out _ _ (HXS.out) (fun hHeld => ?_)
      clear hK K
      (try simp only [Act.put,s1,s2,s3])
      refine wpAnyH_done (by kernel_rfl) ?_ _
      go_wp2_with fail
      go_meet
      exact T.out
     ·go_simp
      go_wp2_with (first | (go_at_call 39; refine Calls.mono (num_any hpq57 3 (by decide) (by decide)) ?_; rintro e uq67 ⟨kb,rq67,rfl,hkb,hlq67,hpq67,hbq67⟩))
      have hEq67 := hEq57.trans hbq67
      have hrq67 := hlq67.1
      clear hpq57 hEq57 hbq67 hlq67 
      have ikb : (0 : Int) ≤ (kb : Int) := by omega
      have jkb : (kb : Int) < 3 := by omega
      obtain ⟨ab,jx,hab,hw2,hw3,hjx,htj,ijx,jjx⟩ := idx7 hi3 hka hkb
      refine hK.out _ _ (trivial) (fun hHeld => ?_)
      clear hK K
      (try simp only [Act.put,s1,s2,s3])
      refine tkH 7 ?tv122 rfl (by kernel_rfl) (by kernel_rfl) (by kernel_rfl) (fun _ _ _ h => h) (by rfl) ?hy122 hHeld ?rs122
      case hy122 => (intro w9 _; go_simp; (try with_reducible rfl))
      (try simp only [Act.put,s1,s2,s3])
      refine tkH 8 ?tv123 rfl (by kernel_rfl) (by kernel_rfl) (by kernel_rfl) (fun _ _ _ h => h) (by rfl) ?hy123 hHeld ?rs123
      case hy123 => (intro w9 _; go_simp; (try with_reducible rfl))
      (try simp only [Act.put,s1,s2,s3])
      refine tkH 9 ?tv124 rfl (by kernel_rfl) (by kernel_rfl) (by kernel_rfl) (fun _ _ _ h => h) (by rfl) ?hy124 hHeld ?rs124
      case hy124 => (intro w9 _; go_simp; (try with_reducible rfl))
      (try simp only [Act.put,s1,s2,s3])
      refine wpAnyH_ready (rs := [0,13,16]) (by kernel_rfl) (by simp) ?_
      refine AllReadyH.cons rfl (fun K hK => ?_) (AllReadyH.cons rfl (fun K hK => ?_) (AllReadyH.cons rfl (fun K hK => ?_) AllReadyH.nil))
      ·go_simp
       have hEq68 : But g wr (uq67.alloc oK4) := hEq67.alloc _
       have hpq68 : Pk (uq67.alloc oK4) g rq67 := hpq67.alloc _
       have hSq68 : Txt (uq67.alloc oK4) uq67.heap.size lK4 := Txt.new4 uq67 ⟨#[107]⟩ ⟨#[118]⟩ ⟨#[110]⟩ ⟨#[114]⟩
       have hszq68 : wr.heap.size ≤ uq67.heap.size := by have := hEq67.size; (try simp at this); omega
       clear hpq67 hEq67 
       generalize hgb : uq67.heap.size = bS at hSq68 hszq68 ⊢
       have hzhS : z < bS := by omega
       clear hgb
       generalize (uq67.alloc oK4) = uq68 at *
       refine hK.out _ _ (trivial) (fun hHeld => ?_)
       clear hK K
       (try simp only [Act.put,s1,s2,s3])
       have hHeld9 : (fun w' => Txt w' bS lK4) uq68 := hSq68
       clear hHeld
       refine wpAnyH_str (S' := (fun w' => Txt w' bS lK4)) (fun w h => trivial) _ _ _ _ ?_
       have hHeld := hHeld9
       clear hHeld9
       refine tkH 10 ?tv125 rfl (by kernel_rfl) (by kernel_rfl) (by kernel_rfl) (fun _ _ _ h => h) (by rfl) ?hy125 hHeld ?rs125
       case hy125 => (intro w9 _; go_simp; (try with_reducible rfl))
       (try simp only [Act.put,s1,s2,s3])
       refine tkH 11 ?tv126 rfl (by kernel_rfl) (by kernel_rfl) (by kernel_rfl) (fun _ _ _ h => h) (by rfl) ?hy126 hHeld ?rs126
       case hy126 => (intro w9 hSw; (try dsimp only at hSw); have bl9 := (hSw).lt; have c9 := (hSw).cell jx (by show jx < 4; omega); go_simp; (try with_reducible rfl))
       (try simp only [Act.put,s1,s2,s3])
       refine wpAnyH_ready (rs := [13,16]) (by kernel_rfl) (by simp) ?_
       refine AllReadyH.cons rfl (fun K hK => ?_) (AllReadyH.cons rfl (fun K hK => ?_) AllReadyH.nil)
       ·go_simp
        go_wp2_with (first | (go_at_call 39; refine Calls.mono (num_any hpq68 2 (by decide) (by decide)) ?_; rintro e uq69 ⟨kc,rq69,rfl,hkc,hlq69,hpq69,hbq69⟩))
        have hEq69 := hEq68.trans hbq69
        have hrq69 := hlq69.1
        have hSq69 := hSq68.but hbq69 (by omega)
        clear hpq68 hEq68 hbq69 hlq69 hSq68
        have ikc : (0 : Int) ≤ (kc : Int) := by omega
        have jkc : (kc : Int) < 2 := by omega
        have hw4 : IntKind.i64.wrap (1 + (kc : Int)) = 1 + (kc : Int) := by rw [IntKind.wrap_i64]; omega
        refine hK.out _ _ (hSq69) (fun hHeld => ?_)
        clear hK K
        (try simp only [Act.put,s1,s2,s3])
        refine tkH 14 ?tv127 rfl (by kernel_rfl) (by kernel_rfl) (by kernel_rfl) (fun _ _ _ h => h) (by rfl) ?hy127 hHeld ?rs127
        case hy127 => (intro w9 _; go_simp; (try with_reducible rfl))
        (try simp only [Act.put,s1,s2,s3])
        refine tkH 15 ?tv128 rfl (by kernel_rfl) (by kernel_rfl) (by kernel_rfl) (fun _ _ _ h => h) (by rfl) ?hy128 hHeld ?rs128
        case hy128 => (intro w9 _; go_simp; (try with_reducible rfl))
        (try simp only [Act.put,s1,s2,s3])
        refine wpAnyH_ready (rs := [16]) (by kernel_rfl) (by simp) ?_
        refine AllReadyH.cons rfl (fun K hK => ?_) AllReadyH.nil
        go_simp
        have hEq70 : But g wr (uq69.alloc oZC) := hEq69.alloc _
        have hpq70 : Pk (uq69.alloc oZC) g rq69 := hpq69.alloc _
        have hCq70 : Blk (uq69.alloc oZC) uq69.heap.size oZC := Blk.new uq69 oZC
        have hSq70 := hSq69.later (bal (Below.refl _ uq69) oZC)
        have lthSq70 : bS < uq69.heap.size := hSq69.lt
        have hszq70 : wr.heap.size ≤ uq69.heap.size := by have := hEq69.size; (try simp at this); omega
        have hSt70 : Txt (uq69.alloc oZC) bS lK4 := hSq70
        clear hpq69 hEq69 hSq69 hSq70
        generalize hgb : uq69.heap.size = bC at hCq70 hszq70 ⊢
        have hzhC : z < bC := by omega
        have hwhC : wr.heap.size ≤ bC := by omega
        have nehSq70 : bS ≠ bC := by omega
        clear hgb
        generalize (uq69.alloc oZC) = uq70 at *
        refine hK.out _ _ (hSt70) (fun hHeld => ?_)
        clear hK K
        (try simp only [Act.put,s1,s2,s3])
        refine wpAnyH_ready (rs := [17]) (by kernel_rfl) (by simp) ?_
        refine AllReadyH.cons rfl (fun K hK => ?_) AllReadyH.nil
        have hcn : (txN lK4 jx) ∈ lK4 := txN_mem (by show jx < 4; omega)
        generalize txN lK4 jx = cn at *
        have bl9 := hCq70.lt
        have f0 := hCq70.free 0
        have f1 := hCq70.free 1
        have f2 := hCq70.free 2
        have c0 := hCq70.cell 0
        have c1 := hCq70.cell 1
        have c2 := hCq70.cell 2
        simp at c0 c1 c2
        have hr9 : rq69 ≤ r5 := by omega
        have T : Hid _ := hid (ColI.of hCq70 hcn hkc hwhC hEq70 hpq70 (by omega) hr9)
        have HXS : Hid _ := hid (hSt70.st3 (q := bC) (by omega) cn (1 + (kc : Int)))
        clear hcn hCq70 hSt70 hEq70 hpq70
        go_simp
        refine hK.out _ _ (HXS.out) (fun hHeld => ?_)
        clear hK K
        (try simp only [Act.put,s1,s2,s3])
        refine wpAnyH_done (by kernel_rfl) ?_ _
        go_wp2_with fail
        go_meet
        exact T.out
       go_simp
       have hEq71 : But g wr (uq68.alloc oZC) := hEq68.alloc _
       have hpq71 : Pk (uq68.alloc oZC) g rq67 := hpq68.alloc _
       have hCq71 : Blk (uq68.alloc oZC) uq68.heap.size oZC := Blk.new uq68 oZC
       have hSq71 := hSq68.later (bal (Below.refl _ uq68) oZC)
       have lthSq71 : bS < uq68.heap.size := hSq68.lt
       have hszq71 : wr.heap.size ≤ uq68.heap.size := by have := hEq68.size; (try simp at this); omega
       have hSt71 : Txt (uq68.alloc oZC) bS lK4 := hSq71
       clear hpq68 hEq68 hSq68 hSq71
       generalize hgb : uq68.heap.size = bC at hCq71 hszq71 ⊢
       have hzhC : z < bC := by omega
       have hwhC : wr.heap.size ≤ bC := by omega
       have nehSq71 : bS ≠ bC := by omega
       clear hgb
       generalize (uq68.alloc oZC) = uq71 at *
       refine hK.out _ _ (hSt71) (fun hHeld => ?_)
       clear hK K
       (try simp only [Act.put,s1,s2,s3])
       refine wpAnyH_ready (rs := [13]) (by kernel_rfl) (by simp) ?_
       refine AllReadyH.cons rfl (fun K hK => ?_) AllReadyH.nil
       go_simp
       go_wp2_with (first | (go_at_call 39; refine Calls.mono (num_any hpq71 2 (by decide) (by decide)) ?_; rintro e uq72 ⟨kc,rq72,rfl,hkc,hlq72,hpq72,hbq72⟩))
       have hEq72 := hEq71.trans hbq72
       have hrq72 := hlq72.1
       have hSq72 := hSt71.but hbq72 (by omega)
       have hCq72 := hCq71.but hbq72 (by omega)
       clear hpq71 hEq71 hbq72 hlq72 hSt71 hCq71
       have ikc : (0 : Int) ≤ (kc : Int) := by omega
       have jkc : (kc : Int) < 2 := by omega
       have hw4 : IntKind.i64.wrap (1 + (kc : Int)) = 1 + (kc : Int) := by rw [IntKind.wrap_i64]; omega
       refine hK.out _ _ (hSq72) (fun hHeld => ?_)
       clear hK K
       (try simp only [Act.put,s1,s2,s3])
       refine tkH 14 ?tv129 rfl (by kernel_rfl) (by kernel_rfl) (by kernel_rfl) (fun _ _ _ h => h) (by rfl) ?hy129 hHeld ?rs129
       case hy129 => (intro w9 _; go_simp; (try with_reducible rfl))
       (try simp only [Act.put,s1,s2,s3])
       refine tkH 15 ?tv130 rfl (by kernel_rfl) (by kernel_rfl) (by kernel_rfl) (fun _ _ _ h => h) (by rfl) ?hy130 hHeld ?rs130
       case hy130 => (intro w9 _; go_simp; (try with_reducible rfl))
       (try simp only [Act.put,s1,s2,s3])
       refine wpAnyH_ready (rs := [17]) (by kernel_rfl) (by simp) ?_
       refine AllReadyH.cons rfl (fun K hK => ?_) AllReadyH.nil
       have hcn : (txN lK4 jx) ∈ lK4 := txN_mem (by show jx < 4; omega)
       generalize txN lK4 jx = cn at *
       have bl9 := hCq72.lt
       have f0 := hCq72.free 0
       have f1 := hCq72.free 1
       have f2 := hCq72.free 2
       have c0 := hCq72.cell 0
       have c1 := hCq72.cell 1
       have c2 := hCq72.cell 2
       simp at c0 c1 c2
       have hr9 : rq72 ≤ r5 := by omega
       have T : Hid _ := hid (ColI.of hCq72 hcn hkc hwhC hEq72 hpq72 (by omega) hr9)
       have HXS : Hid _ := hid (hSq72.st3 (q := bC) (by omega) cn (1 + (kc : Int)))
       clear hcn hCq72 hSq72 hEq72 hpq72
       go_simp
       refine hK.out _ _ (HXS.out) (fun hHeld => ?_)
       clear hK K
       (try simp only [Act.put,s1,s2,s3])
       refine wpAnyH_done (by kernel_rfl) ?_ _
       go_wp2_with fail
       go_meet
       exact T.out
      ·go_simp
       go_wp2_with (first | (go_at_call 39; refine Calls.mono (num_any hpq67 2 (by decide) (by decide)) ?_; rintro e uq73 ⟨kc,rq73,rfl,hkc,hlq73,hpq73,hbq73⟩))
       have hEq73 := hEq67.trans hbq73
       have hrq73 := hlq73.1
       clear hpq67 hEq67 hbq73 hlq73 
       have ikc : (0 : Int) ≤ (kc : Int) := by omega
       have jkc : (kc : Int) < 2 := by omega
       have hw4 : IntKind.i64.wrap (1 + (kc : Int)) = 1 + (kc : Int) := by rw [IntKind.wrap_i64]; omega
       refine hK.out _ _ (trivial) (fun hHeld => ?_)
       clear hK K
       (try simp only [Act.put,s1,s2,s3])
       refine tkH 14 ?tv131 rfl (by kernel_rfl) (by kernel_rfl) (by kernel_rfl) (fun _ _ _ h => h) (by rfl) ?hy131 hHeld ?rs131
       case hy131 => (intro w9 _; go_simp; (try with_reducible rfl))
       (try simp only [Act.put,s1,s2,s3])
       refine wpAnyH_ready (rs := [0,16]) (by kernel_rfl) (by simp) ?_
       refine AllReadyH.cons rfl (fun K hK => ?_) (AllReadyH.cons rfl (fun K hK => ?_) AllReadyH.nil)
       ·go_simp
        have hEq74 : But g wr (uq73.alloc oK4) := hEq73.alloc _
        have hpq74 : Pk (uq73.alloc oK4) g rq73 := hpq73.alloc _
        have hSq74 : Txt (uq73.alloc oK4) uq73.heap.size lK4 := Txt.new4 uq73 ⟨#[107]⟩ ⟨#[118]⟩ ⟨#[110]⟩ ⟨#[114]⟩
        have hszq74 : wr.heap.size ≤ uq73.heap.size := by have := hEq73.size; (try simp at this); omega
        clear hpq73 hEq73 
        generalize hgb : uq73.heap.size = bS at hSq74 hszq74 ⊢
        have hzhS : z < bS := by omega
        clear hgb
        generalize (uq73.alloc oK4) = uq74 at *
        refine hK.out _ _ (trivial) (fun hHeld => ?_)
        clear hK K
        (try simp only [Act.put,s1,s2,s3])
        have hHeld9 : (fun w' => Txt w' bS lK4) uq74 := hSq74
        clear hHeld
        refine wpAnyH_str (S' := (fun w' => Txt w' bS lK4)) (fun w h => trivial) _ _ _ _ ?_
        have hHeld := hHeld9
        clear hHeld9
        refine tkH 10 ?tv132 rfl (by kernel_rfl) (by kernel_rfl) (by kernel_rfl) (fun _ _ _ h => h) (by rfl) ?hy132 hHeld ?rs132
        case hy132 => (intro w9 _; go_simp; (try with_reducible rfl))
        (try simp only [Act.put,s1,s2,s3])
        refine tkH 11 ?tv133 rfl (by kernel_rfl) (by kernel_rfl) (by kernel_rfl) (fun _ _ _ h => h) (by rfl) ?hy133 hHeld ?rs133
        case hy133 => (intro w9 hSw; (try dsimp only at hSw); have bl9 := (hSw).lt; have c9 := (hSw).cell jx (by show jx < 4; omega); go_simp; (try with_reducible rfl))
        (try simp only [Act.put,s1,s2,s3])
        refine tkH 15 ?tv134 rfl (by kernel_rfl) (by kernel_rfl) (by kernel_rfl) (fun _ _ _ h => h) (by rfl) ?hy134 hHeld ?rs134
        case hy134 => (intro w9 _; go_simp; (try with_reducible rfl))
        (try simp only [Act.put,s1,s2,s3])
        refine wpAnyH_ready (rs := [16]) (by kernel_rfl) (by simp) ?_
        refine AllReadyH.cons rfl (fun K hK => ?_) AllReadyH.nil
        go_simp
        have hEq75 : But g wr (uq74.alloc oZC) := hEq74.alloc _
        have hpq75 : Pk (uq74.alloc oZC) g rq73 := hpq74.alloc _
        have hCq75 : Blk (uq74.alloc oZC) uq74.heap.size oZC := Blk.new uq74 oZC
        have hSq75 := hSq74.later (bal (Below.refl _ uq74) oZC)
        have lthSq75 : bS < uq74.heap.size := hSq74.lt
        have hszq75 : wr.heap.size ≤ uq74.heap.size := by have := hEq74.size; (try simp at this); omega
        have hSt75 : Txt (uq74.alloc oZC) bS lK4 := hSq75
        clear hpq74 hEq74 hSq74 hSq75
        generalize hgb : uq74.heap.size = bC at hCq75 hszq75 ⊢
        have hzhC : z < bC := by omega
        have hwhC : wr.heap.size ≤ bC := by omega
        have nehSq75 : bS ≠ bC := by omega
        clear hgb
        generalize (uq74.alloc oZC) = uq75 at *
        refine hK.out _ _ (hSt75) (fun hHeld => ?_)
        clear hK K
        (try simp only [Act.put,s1,s2,s3])
        refine wpAnyH_ready (rs := [17]) (by kernel_rfl) (by simp) ?_
        refine AllReadyH.cons rfl (fun K hK => ?_) AllReadyH.nil
        have hcn : (txN lK4 jx) ∈ lK4 := txN_mem (by show jx < 4; omega)
        generalize txN lK4 jx = cn at *
        have bl9 := hCq75.lt
        have f0 := hCq75.free 0
        have f1 := hCq75.free 1
        have f2 := hCq75.free 2
        have c0 := hCq75.cell 0
        have c1 := hCq75.cell 1
        have c2 := hCq75.cell 2
        simp at c0 c1 c2
        have hr9 : rq73 ≤ r5 := by omega
        have T : Hid _ := hid (ColI.of hCq75 hcn hkc hwhC hEq75 hpq75 (by omega) hr9)
        have HXS : Hid _ := hid (hSt75.st3 (q := bC) (by omega) cn (1 + (kc : Int)))
        clear hcn hCq75 hSt75 hEq75 hpq75
        go_simp
        refine hK.out _ _ (HXS.out) (fun hHeld => ?_)
        clear hK K
        (try simp only [Act.put,s1,s2,s3])
        refine wpAnyH_done (by kernel_rfl) ?_ _
        go_wp2_with fail
        go_meet
        exact T.out
       go_simp
       have hEq76 : But g wr (uq73.alloc oZC) := hEq73.alloc _
       have hpq76 : Pk (uq73.alloc oZC) g rq73 := hpq73.alloc _
       have hCq76 : Blk (uq73.alloc oZC) uq73.heap.size oZC := Blk.new uq73 oZC
       have hszq76 : wr.heap.size ≤ uq73.heap.size := by have := hEq73.size; (try simp at this); omega
       clear hpq73 hEq73 
       generalize hgb : uq73.heap.size = bC at hCq76 hszq76 ⊢
       have hzhC : z < bC := by omega
       have hwhC : wr.heap.size ≤ bC := by omega
       clear hgb
       generalize (uq73.alloc oZC) = uq76 at *
       refine hK.out _ _ (trivial) (fun hHeld => ?_)
       clear hK K
       (try simp only [Act.put,s1,s2,s3])
       refine wpAnyH_ready (rs := [0]) (by kernel_rfl) (by simp) ?_
       refine AllReadyH.cons rfl (fun K hK => ?_) AllReadyH.nil
       go_simp
       have hEq77 : But g wr (uq76.alloc oK4) := hEq76.alloc _
       have hpq77 : Pk (uq76.alloc oK4) g rq73 := hpq76.alloc _
       have hSq77 : Txt (uq76.alloc oK4) uq76.heap.size lK4 := Txt.new4 uq76 ⟨#[107]⟩ ⟨#[118]⟩ ⟨#[110]⟩ ⟨#[114]⟩
       have hCq77 := hCq76.later (bal (Below.refl _ uq76) oK4)
       have lthCq77 : bC < uq76.heap.size := hCq76.lt
       have hszq77 : wr.heap.size ≤ uq76.heap.size := by have := hEq76.size; (try simp at this); omega
       have hCt77 : Blk (uq76.alloc oK4) bC oZC := hCq77
       clear hpq76 hEq76 hCq76 hCq77
       generalize hgb : uq76.heap.size = bS at hSq77 hszq77 ⊢
       have hzhS : z < bS := by omega
       have nehCq77 : bC ≠ bS := by omega
       clear hgb
       generalize (uq76.alloc oK4) = uq77 at *
       refine hK.out _ _ (trivial) (fun hHeld => ?_)
       clear hK K
       (try simp only [Act.put,s1,s2,s3])
       have hHeld9 : (fun w' => Txt w' bS lK4) uq77 := hSq77
       clear hHeld
       refine wpAnyH_str (S' := (fun w' => Txt w' bS lK4)) (fun w h => trivial) _ _ _ _ ?_
       have hHeld := hHeld9
       clear hHeld9
       refine tkH 10 ?tv135 rfl (by kernel_rfl) (by kernel_rfl) (by kernel_rfl) (fun _ _ _ h => h) (by rfl) ?hy135 hHeld ?rs135
       case hy135 => (intro w9 _; go_simp; (try with_reducible rfl))
       (try simp only [Act.put,s1,s2,s3])
       refine tkH 11 ?tv136 rfl (by kernel_rfl) (by kernel_rfl) (by kernel_rfl) (fun _ _ _ h => h) (by rfl) ?hy136 hHeld ?rs136
       case hy136 => (intro w9 hSw; (try dsimp only at hSw); have bl9 := (hSw).lt; have c9 := (hSw).cell jx (by show jx < 4; omega); go_simp; (try with_reducible rfl))
       (try simp only [Act.put,s1,s2,s3])
       refine tkH 15 ?tv137 rfl (by kernel_rfl) (by kernel_rfl) (by kernel_rfl) (fun _ _ _ h => h) (by rfl) ?hy137 hHeld ?rs137
       case hy137 => (intro w9 _; go_simp; (try with_reducible rfl))
       (try simp only [Act.put,s1,s2,s3])
       refine wpAnyH_ready (rs := [17]) (by kernel_rfl) (by simp) ?_
       refine AllReadyH.cons rfl (fun K hK => ?_) AllReadyH.nil
       have hcn : (txN lK4 jx) ∈ lK4 := txN_mem (by show jx < 4; omega)
       generalize txN lK4 jx = cn at *
       have bl9 := hCt77.lt
       have f0 := hCt77.free 0
       have f1 := hCt77.free 1
       have f2 := hCt77.free 2
       have c0 := hCt77.cell 0
       have c1 := hCt77.cell 1
       have c2 := hCt77.cell 2
       simp at c0 c1 c2
       have hr9 : rq73 ≤ r5 := by omega
       have T : Hid _ := hid (ColI.of hCt77 hcn hkc hwhC hEq77 hpq77 (by omega) hr9)
       have HXS : Hid _ := hid (hSq77.st3 (q := bC) (by omega) cn (1 + (kc : Int)))
       clear hcn hCt77 hSq77 hEq77 hpq77
       go_simp
       refine hK.out _ _ (HXS.out) (fun hHeld => ?_)
       clear hK K
       (try simp only [Act.put,s1,s2,s3])
       refine wpAnyH_done (by kernel_rfl) ?_ _
       go_wp2_with fail
       go_meet
       exact T.out
      go_simp
      have hEq78 : But g wr (uq67.alloc oZC) := hEq67.alloc _
      have hpq78 : Pk (uq67.alloc oZC) g rq67 := hpq67.alloc _
      have hCq78 : Blk (uq67.alloc oZC) uq67.heap.size oZC := Blk.new uq67 oZC
      have hszq78 : wr.heap.size ≤ uq67.heap.size := by have := hEq67.size; (try simp at this); omega
      clear hpq67 hEq67 
      generalize hgb : uq67.heap.size = bC at hCq78 hszq78 ⊢
      have hzhC : z < bC := by omega
      have hwhC : wr.heap.size ≤ bC := by omega
      clear hgb
      generalize (uq67.alloc oZC) = uq78 at *
      refine hK.out _ _ (trivial) (fun hHeld => ?_)
      clear hK K
      (try simp only [Act.put,s1,s2,s3])
      refine wpAnyH_ready (rs := [0,13]) (by kernel_rfl) (by simp) ?_
      refine AllReadyH.cons rfl (fun K hK => ?_) (AllReadyH.cons rfl (fun K hK => ?_) AllReadyH.nil)
      ·go_simp
       have hEq79 : But g wr (uq78.alloc oK4) := hEq78.alloc _
       have hpq79 : Pk (uq78.alloc oK4) g rq67 := hpq78.alloc _
       have hSq79 : Txt (uq78.alloc oK4) uq78.heap.size lK4 := Txt.new4 uq78 ⟨#[107]⟩ ⟨#[118]⟩ ⟨#[110]⟩ ⟨#[114]⟩
       have hCq79 := hCq78.later (bal (Below.refl _ uq78) oK4)
       have lthCq79 : bC < uq78.heap.size := hCq78.lt
       have hszq79 : wr.heap.size ≤ uq78.heap.size := by have := hEq78.size; (try simp at this); omega
       have hCt79 : Blk (uq78.alloc oK4) bC oZC := hCq79
       clear hpq78 hEq78 hCq78 hCq79
       generalize hgb : uq78.heap.size = bS at hSq79 hszq79 ⊢
       have hzhS : z < bS := by omega
       have nehCq79 : bC ≠ bS := by omega
       clear hgb
       generalize (uq78.alloc oK4) = uq79 at *
       refine hK.out _ _ (trivial) (fun hHeld => ?_)
       clear hK K
       (try simp only [Act.put,s1,s2,s3])
       have hHeld9 : (fun w' => Txt w' bS lK4) uq79 := hSq79
       clear hHeld
       refine wpAnyH_str (S' := (fun w' => Txt w' bS lK4)) (fun w h => trivial) _ _ _ _ ?_
       have hHeld := hHeld9
       clear hHeld9
       refine tkH 10 ?tv138 rfl (by kernel_rfl) (by kernel_rfl) (by kernel_rfl) (fun _ _ _ h => h) (by rfl) ?hy138 hHeld ?rs138
       case hy138 => (intro w9 _; go_simp; (try with_reducible rfl))
       (try simp only [Act.put,s1,s2,s3])
       refine tkH 11 ?tv139 rfl (by kernel_rfl) (by kernel_rfl) (by kernel_rfl) (fun _ _ _ h => h) (by rfl) ?hy139 hHeld ?rs139
       case hy139 => (intro w9 hSw; (try dsimp only at hSw); have bl9 := (hSw).lt; have c9 := (hSw).cell jx (by show jx < 4; omega); go_simp; (try with_reducible rfl))
       (try simp only [Act.put,s1,s2,s3])
       refine wpAnyH_ready (rs := [13]) (by kernel_rfl) (by simp) ?_
       refine AllReadyH.cons rfl (fun K hK => ?_) AllReadyH.nil
       go_simp
       go_wp2_with (first | (go_at_call 39; refine Calls.mono (num_any hpq79 2 (by decide) (by decide)) ?_; rintro e uq80 ⟨kc,rq80,rfl,hkc,hlq80,hpq80,hbq80⟩))
       have hEq80 := hEq79.trans hbq80
       have hrq80 := hlq80.1
       have hSq80 := hSq79.but hbq80 (by omega)
       have hCq80 := hCt79.but hbq80 (by omega)
       clear hpq79 hEq79 hbq80 hlq80 hSq79 hCt79
       have ikc : (0 : Int) ≤ (kc : Int) := by omega
       have jkc : (kc : Int) < 2 := by omega
       have hw4 : IntKind.i64.wrap (1 + (kc : Int)) = 1 + (kc : Int) := by rw [IntKind.wrap_i64]; omega
       refine hK.out _ _ (hSq80) (fun hHeld => ?_)
       clear hK K
       (try simp only [Act.put,s1,s2,s3])
       refine tkH 14 ?tv140 rfl (by kernel_rfl) (by kernel_rfl) (by kernel_rfl) (fun _ _ _ h => h) (by rfl) ?hy140 hHeld ?rs140
       case hy140 => (intro w9 _; go_simp; (try with_reducible rfl))
       (try simp only [Act.put,s1,s2,s3])
       refine tkH 15 ?tv141 rfl (by kernel_rfl) (by kernel_rfl) (by kernel_rfl) (fun _ _ _ h => h) (by rfl) ?hy141 hHeld ?rs141
       case hy141 => (intro w9 _; go_simp; (try with_reducible rfl))
       (try simp only [Act.put,s1,s2,s3])
       refine wpAnyH_ready (rs := [17]) (by kernel_rfl) (by simp) ?_
       refine AllReadyH.cons rfl (fun K hK => ?_) AllReadyH.nil
       have hcn : (txN lK4 jx) ∈ lK4 := txN_mem (by show jx < 4; omega)
       generalize txN lK4 jx = cn at *
       have bl9 := hCq80.lt
       have f0 := hCq80.free 0
       have f1 := hCq80.free 1
       have f2 := hCq80.free 2
       have c0 := hCq80.cell 0
       have c1 := hCq80.cell 1
       have c2 := hCq80.cell 2
       simp at c0 c1 c2
       have hr9 : rq80 ≤ r5 := by omega
       have T : Hid _ := hid (ColI.of hCq80 hcn hkc hwhC hEq80 hpq80 (by omega) hr9)
       have HXS : Hid _ := hid (hSq80.st3 (q := bC) (by omega) cn (1 + (kc : Int)))
       clear hcn hCq80 hSq80 hEq80 hpq80
       go_simp
       refine hK.out _ _ (HXS.out) (fun hHeld => ?_)
       clear hK K
       (try simp only [Act.put,s1,s2,s3])
       refine wpAnyH_done (by kernel_rfl) ?_ _
       go_wp2_with fail
       go_meet
       exact T.out
      go_simp
      go_wp2_with (first | (go_at_call 39; refine Calls.mono (num_any hpq78 2 (by decide) (by decide)) ?_; rintro e uq81 ⟨kc,rq81,rfl,hkc,hlq81,hpq81,hbq81⟩))
      have hEq81 := hEq78.trans hbq81
      have hrq81 := hlq81.1
      have hCq81 := hCq78.but hbq81 (by omega)
      clear hpq78 hEq78 hbq81 hlq81 hCq78
      have ikc : (0 : Int) ≤ (kc : Int) := by omega
      have jkc : (kc : Int) < 2 := by omega
      have hw4 : IntKind.i64.wrap (1 + (kc : Int)) = 1 + (kc : Int) := by rw [IntKind.wrap_i64]; omega
      refine hK.out _ _ (trivial) (fun hHeld => ?_)
      clear hK K
      (try simp only [Act.put,s1,s2,s3])
      refine tkH 14 ?tv142 rfl (by kernel_rfl) (by kernel_rfl) (by kernel_rfl) (fun _ _ _ h => h) (by rfl) ?hy142 hHeld ?rs142
      case hy142 => (intro w9 _; go_simp; (try with_reducible rfl))
      (try simp only [Act.put,s1,s2,s3])
      refine wpAnyH_ready (rs := [0]) (by kernel_rfl) (by simp) ?_
      refine AllReadyH.cons rfl (fun K hK => ?_) AllReadyH.nil
      go_simp
      have hEq82 : But g wr (uq81.alloc oK4) := hEq81.alloc _
      have hpq82 : Pk (uq81.alloc oK4) g rq81 := hpq81.alloc _
      have hSq82 : Txt (uq81.alloc oK4) uq81.heap.size lK4 := Txt.new4 uq81 ⟨#[107]⟩ ⟨#[118]⟩ ⟨#[110]⟩ ⟨#[114]⟩
      have hCq82 := hCq81.later (bal (Below.refl _ uq81) oK4)
      have lthCq82 : bC < uq81.heap.size := hCq81.lt
      have hszq82 : wr.heap.size ≤ uq81.heap.size := by have := hEq81.size; (try simp at this); omega
      have hCt82 : Blk (uq81.alloc oK4) bC oZC := hCq82
      clear hpq81 hEq81 hCq81 hCq82
      generalize hgb : uq81.heap.size = bS at hSq82 hszq82 ⊢
      have hzhS : z < bS := by omega
      have nehCq82 : bC ≠ bS := by omega
      clear hgb
      generalize (uq81.alloc oK4) = uq82 at *
      refine hK.out _ _ (trivial) (fun hHeld => ?_)
      clear hK K
      (try simp only [Act.put,s1,s2,s3])
      have hHeld9 : (fun w' => Txt w' bS lK4) uq82 := hSq82
      clear hHeld
      refine wpAnyH_str (S' := (fun w' => Txt w' bS lK4)) (fun w h => trivial) _ _ _ _ ?_
      have hHeld := hHeld9
      clear hHeld9
      refine tkH 10 ?tv143 rfl (by kernel_rfl) (by kernel_rfl) (by kernel_rfl) (fun _ _ _ h => h) (by rfl) ?hy143 hHeld ?rs143
      case hy143 => (intro w9 _; go_simp; (try with_reducible rfl))
      (try simp only [Act.put,s1,s2,s3])
      refine tkH 11 ?tv144 rfl (by kernel_rfl) (by kernel_rfl) (by kernel_rfl) (fun _ _ _ h => h) (by rfl) ?hy144 hHeld ?rs144
      case hy144 => (intro w9 hSw; (try dsimp only at hSw); have bl9 := (hSw).lt; have c9 := (hSw).cell jx (by show jx < 4; omega); go_simp; (try with_reducible rfl))
      (try simp only [Act.put,s1,s2,s3])
      refine tkH 15 ?tv145 rfl (by kernel_rfl) (by kernel_rfl) (by kernel_rfl) (fun _ _ _ h => h) (by rfl) ?hy145 hHeld ?rs145
      case hy145 => (intro w9 _; go_simp; (try with_reducible rfl))
      (try simp only [Act.put,s1,s2,s3])
      refine wpAnyH_ready (rs := [17]) (by kernel_rfl) (by simp) ?_
      refine AllReadyH.cons rfl (fun K hK => ?_) AllReadyH.nil
      have hcn : (txN lK4 jx) ∈ lK4 := txN_mem (by show jx < 4; omega)
      generalize txN lK4 jx = cn at *
      have bl9 := hCt82.lt
      have f0 := hCt82.free 0
      have f1 := hCt82.free 1
      have f2 := hCt82.free 2
      have c0 := hCt82.cell 0
      have c1 := hCt82.cell 1
      have c2 := hCt82.cell 2
      simp at c0 c1 c2
      have hr9 : rq81 ≤ r5 := by omega
      have T : Hid _ := hid (ColI.of hCt82 hcn hkc hwhC hEq82 hpq82 (by omega) hr9)
      have HXS : Hid _ := hid (hSq82.st3 (q := bC) (by omega) cn (1 + (kc : Int)))
      clear hcn hCt82 hSq82 hEq82 hpq82
      go_simp
      refine hK.out _ _ (HXS.out) (fun hHeld => ?_)
      clear hK K
      (try simp only [Act.put,s1,s2,s3])
      refine wpAnyH_done (by kernel_rfl) ?_ _
      go_wp2_with fail
      go_meet
      exact T.out
     go_simp
     have hEq83 : But g wr (uq57.alloc oZC) := hEq57.alloc _
     have hpq83 : Pk (uq57.alloc oZC) g rq57 := hpq57.alloc _
     have hCq83 : Blk (uq57.alloc oZC) uq57.heap.size oZC := Blk.new uq57 oZC
     have hszq83 : wr.heap.size ≤ uq57.heap.size := by have := hEq57.size; (try simp at this); omega
     clear hpq57 hEq57 
     generalize hgb : uq57.heap.size = bC at hCq83 hszq83 ⊢
     have hzhC : z < bC := by omega
     have hwhC : wr.heap.size ≤ bC := by omega
     clear hgb
     generalize (uq57.alloc oZC) = uq83 at *
     refine hK.out _ _ (trivial) (fun hHeld => ?_)
     clear hK K
     (try simp only [Act.put,s1,s2,s3])
     refine wpAnyH_ready (rs := [0,6]) (by kernel_rfl) (by simp) ?_
     refine AllReadyH.cons rfl (fun K hK => ?_) (AllReadyH.cons rfl (fun K hK => ?_) AllReadyH.nil)
     ·go_simp
      have hEq84 : But g wr (uq83.alloc oK4) := hEq83.alloc _
      have hpq84 : Pk (uq83.alloc oK4) g rq57 := hpq83.alloc _
      have hSq84 : Txt (uq83.alloc oK4) uq83.heap.size lK4 := Txt.new4 uq83 ⟨#[107]⟩ ⟨#[118]⟩ ⟨#[110]⟩ ⟨#[114]⟩
      have hCq84 := hCq83.later (bal (Below.refl _ uq83) oK4)
      have lthCq84 : bC < uq83.heap.size := hCq83.lt
      have hszq84 : wr.heap.size ≤ uq83.heap.size := by have := hEq83.size; (try simp at this); omega
      have hCt84 : Blk (uq83.alloc oK4) bC oZC := hCq84
      clear hpq83 hEq83 hCq83 hCq84
      generalize hgb : uq83.heap.size = bS at hSq84 hszq84 ⊢
      have hzhS : z < bS := by omega
      have nehCq84 : bC ≠ bS := by omega
      clear hgb
      generalize (uq83.alloc oK4) = uq84 at *
      refine hK.out _ _ (trivial) (fun hHeld => ?_)
      clear hK K
      (try simp only [Act.put,s1,s2,s3])
      have hHeld9 : (fun w' => Txt w' bS lK4) uq84 := hSq84
      clear hHeld
      refine wpAnyH_str (S' := (fun w' => Txt w' bS lK4)) (fun w h => trivial) _ _ _ _ ?_
      have hHeld := hHeld9
      clear hHeld9
      refine wpAnyH_ready (rs := [6]) (by kernel_rfl) (by simp) ?_
      refine AllReadyH.cons rfl (fun K hK => ?_) AllReadyH.nil
      go_simp
      go_wp2_with (first | (go_at_call 39; refine Calls.mono (num_any hpq84 3 (by decide) (by decide)) ?_; rintro e uq85 ⟨kb,rq85,rfl,hkb,hlq85,hpq85,hbq85⟩))
      have hEq85 := hEq84.trans hbq85
      have hrq85 := hlq85.1
      have hSq85 := hSq84.but hbq85 (by omega)
      have hCq85 := hCt84.but hbq85 (by omega)
      clear hpq84 hEq84 hbq85 hlq85 hSq84 hCt84
      have ikb : (0 : Int) ≤ (kb : Int) := by omega
      have jkb : (kb : Int) < 3 := by omega
      obtain ⟨ab,jx,hab,hw2,hw3,hjx,htj,ijx,jjx⟩ := idx7 hi3 hka hkb
      refine hK.out _ _ (hSq85) (fun hHeld => ?_)
      clear hK K
      (try simp only [Act.put,s1,s2,s3])
      refine tkH 7 ?tv146 rfl (by kernel_rfl) (by kernel_rfl) (by kernel_rfl) (fun _ _ _ h => h) (by rfl) ?hy146 hHeld ?rs146
      case hy146 => (intro w9 _; go_simp; (try with_reducible rfl))
      (try simp only [Act.put,s1,s2,s3])
      refine tkH 8 ?tv147 rfl (by kernel_rfl) (by kernel_rfl) (by kernel_rfl) (fun _ _ _ h => h) (by rfl) ?hy147 hHeld ?rs147
      case hy147 => (intro w9 _; go_simp; (try with_reducible rfl))
      (try simp only [Act.put,s1,s2,s3])
      refine tkH 9 ?tv148 rfl (by kernel_rfl) (by kernel_rfl) (by kernel_rfl) (fun _ _ _ h => h) (by rfl) ?hy148 hHeld ?rs148
      case hy148 => (intro w9 _; go_simp; (try with_reducible rfl))
      (try simp only [Act.put,s1,s2,s3])
      refine tkH 10 ?tv149 rfl (by kernel_rfl) (by kernel_rfl) (by kernel_rfl) (fun _ _ _ h => h) (by rfl) ?hy149 hHeld ?rs149
      case hy149 => (intro w9 _; go_simp; (try with_reducible rfl))
      (try simp only [Act.put,s1,s2,s3])
      refine tkH 11 ?tv150 rfl (by kernel_rfl) (by kernel_rfl) (by kernel_rfl) (fun _ _ _ h => h) (by rfl) ?hy150 hHeld ?rs150
      case hy150 => (intro w9 hSw; (try dsimp only at hSw); have bl9 := (hSw).lt; have c9 := (hSw).cell jx (by show jx < 4; omega); go_simp; (try with_reducible rfl))
      (try simp only [Act.put,s1,s2,s3])
      refine wpAnyH_ready (rs := [13]) (by kernel_rfl) (by simp) ?_
      refine AllReadyH.cons rfl (fun K hK => ?_) AllReadyH.nil
      go_simp
      go_wp2_with (first | (go_at_call 39; refine Calls.mono (num_any hpq85 2 (by decide) (by decide)) ?_; rintro e uq86 ⟨kc,rq86,rfl,hkc,hlq86,hpq86,hbq86⟩))
      have hEq86 := hEq85.trans hbq86
      have hrq86 := hlq86.1
      have hSq86 := hSq85.but hbq86 (by omega)
      have hCq86 := hCq85.but hbq86 (by omega)
      clear hpq85 hEq85 hbq86 hlq86 hSq85 hCq85
      have ikc : (0 : Int) ≤ (kc : Int) := by omega
      have jkc : (kc : Int) < 2 := by omega
      have hw4 : IntKind.i64.wrap (1 + (kc : Int)) = 1 + (kc : Int) := by rw [IntKind.wrap_i64]; omega
      refine hK.out _ _ (hSq86) (fun hHeld => ?_)
      clear hK K
      (try simp only [Act.put,s1,s2,s3])
      refine tkH 14 ?tv151 rfl (by kernel_rfl) (by kernel_rfl) (by kernel_rfl) (fun _ _ _ h => h) (by rfl) ?hy151 hHeld ?rs151
      case hy151 => (intro w9 _; go_simp; (try with_reducible rfl))
      (try simp only [Act.put,s1,s2,s3])
      refine tkH 15 ?tv152 rfl (by kernel_rfl) (by kernel_rfl) (by kernel_rfl) (fun _ _ _ h => h) (by rfl) ?hy152 hHeld ?rs152
      case hy152 => (intro w9 _; go_simp; (try with_reducible rfl))
      (try simp only [Act.put,s1,s2,s3])
      refine wpAnyH_ready (rs := [17]) (by kernel_rfl) (by simp) ?_
      refine AllReadyH.cons rfl (fun K hK => ?_) AllReadyH.nil
      have hcn : (txN lK4 jx) ∈ lK4 := txN_mem (by show jx < 4; omega)
      generalize txN lK4 jx = cn at *
      have bl9 := hCq86.lt
      have f0 := hCq86.free 0
      have f1 := hCq86.free 1
      have f2 := hCq86.free 2
      have c0 := hCq86.cell 0
      have c1 := hCq86.cell 1
      have c2 := hCq86.cell 2
      simp at c0 c1 c2
      have hr9 : rq86 ≤ r5 := by omega
      have T : Hid _ := hid (ColI.of hCq86 hcn hkc hwhC hEq86 hpq86 (by omega) hr9)
      have HXS : Hid _ := hid (hSq86.st3 (q := bC) (by omega) cn (1 + (kc : Int)))
      clear hcn hCq86 hSq86 hEq86 hpq86
      go_simp
      refine hK.out _ _ (HXS.out) (fun hHeld => ?_)
      clear hK K
      (try simp only [Act.put,s1,s2,s3])
      refine wpAnyH_done (by kernel_rfl) ?_ _
      go_wp2_with fail
      go_meet
      exact T.out
     go_simp
     go_wp2_with (first | (go_at_call 39; refine Calls.mono (num_any hpq83 3 (by decide) (by decide)) ?_; rintro e uq87 ⟨kb,rq87,rfl,hkb,hlq87,hpq87,hbq87⟩))
     have hEq87 := hEq83.trans hbq87
     have hrq87 := hlq87.1
     have hCq87 := hCq83.but hbq87 (by omega)
     clear hpq83 hEq83 hbq87 hlq87 hCq83
     have ikb : (0 : Int) ≤ (kb : Int) := by omega
     have jkb : (kb : Int) < 3 := by omega
     obtain ⟨ab,jx,hab,hw2,hw3,hjx,htj,ijx,jjx⟩ := idx7 hi3 hka hkb
     refine hK.out _ _ (trivial) (fun hHeld => ?_)
     clear hK K
     (try simp only [Act.put,s1,s2,s3])
     refine tkH 7 ?tv153 rfl (by kernel_rfl) (by kernel_rfl) (by kernel_rfl) (fun _ _ _ h => h) (by rfl) ?hy153 hHeld ?rs153
     case hy153 => (intro w9 _; go_simp; (try with_reducible rfl))
     (try simp only [Act.put,s1,s2,s3])
     refine tkH 8 ?tv154 rfl (by kernel_rfl) (by kernel_rfl) (by kernel_rfl) (fun _ _ _ h => h) (by rfl) ?hy154 hHeld ?rs154
     case hy154 => (intro w9 _; go_simp; (try with_reducible rfl))
     (try simp only [Act.put,s1,s2,s3])
     refine tkH 9 ?tv155 rfl (by kernel_rfl) (by kernel_rfl) (by kernel_rfl) (fun _ _ _ h => h) (by rfl) ?hy155 hHeld ?rs155
     case hy155 => (intro w9 _; go_simp; (try with_reducible rfl))
     (try simp only [Act.put,s1,s2,s3])
     refine wpAnyH_ready (rs := [0,13]) (by kernel_rfl) (by simp) ?_
     refine AllReadyH.cons rfl (fun K hK => ?_) (AllReadyH.cons rfl (fun K hK => ?_) AllReadyH.nil)
     ·go_simp
      have hEq88 : But g wr (uq87.alloc oK4) := hEq87.alloc _
      have hpq88 : Pk (uq87.alloc oK4) g rq87 := hpq87.alloc _
      have hSq88 : Txt (uq87.alloc oK4) uq87.heap.size lK4 := Txt.new4 uq87 ⟨#[107]⟩ ⟨#[118]⟩ ⟨#[110]⟩ ⟨#[114]⟩
      have hCq88 := hCq87.later (bal (Below.refl _ uq87) oK4)
      have lthCq88 : bC < uq87.heap.size := hCq87.lt
      have hszq88 : wr.heap.size ≤ uq87.heap.size := by have := hEq87.size; (try simp at this); omega
      have hCt88 : Blk (uq87.alloc oK4) bC oZC := hCq88
      clear hpq87 hEq87 hCq87 hCq88
      generalize hgb : uq87.heap.size = bS at hSq88 hszq88 ⊢
      have hzhS : z < bS := by omega
      have nehCq88 : bC ≠ bS := by omega
      clear hgb
      generalize (uq87.alloc oK4) = uq88 at *
      refine hK.out _ _ (trivial) (fun hHeld => ?_)
      clear hK K
      (try simp only [Act.put,s1,s2,s3])
      have hHeld9 : (fun w' => Txt w' bS lK4) uq88 := hSq88
      clear hHeld
      refine wpAnyH_str (S' := (fun w' => Txt w' bS lK4)) (fun w h => trivial) _ _ _ _ ?_
      have hHeld := hHeld9
      clear hHeld9
      refine tkH 10 ?tv156 rfl (by kernel_rfl) (by kernel_rfl) (by kernel_rfl) (fun _ _ _ h => h) (by rfl) ?hy156 hHeld ?rs156
      case hy156 => (intro w9 _; go_simp; (try with_reducible rfl))
      (try simp only [Act.put,s1,s2,s3])
      refine tkH 11 ?tv157 rfl (by kernel_rfl) (by kernel_rfl) (by kernel_rfl) (fun _ _ _ h => h) (by rfl) ?hy157 hHeld ?rs157
      case hy157 => (intro w9 hSw; (try dsimp only at hSw); have bl9 := (hSw).lt; have c9 := (hSw).cell jx (by show jx < 4; omega); go_simp; (try with_reducible rfl))
      (try simp only [Act.put,s1,s2,s3])
      refine wpAnyH_ready (rs := [13]) (by kernel_rfl) (by simp) ?_
      refine AllReadyH.cons rfl (fun K hK => ?_) AllReadyH.nil
      go_simp
      go_wp2_with (first | (go_at_call 39; refine Calls.mono (num_any hpq88 2 (by decide) (by decide)) ?_; rintro e uq89 ⟨kc,rq89,rfl,hkc,hlq89,hpq89,hbq89⟩))
      have hEq89 := hEq88.trans hbq89
      have hrq89 := hlq89.1
      have hSq89 := hSq88.but hbq89 (by omega)
      have hCq89 := hCt88.but hbq89 (by omega)
      clear hpq88 hEq88 hbq89 hlq89 hSq88 hCt88
      have ikc : (0 : Int) ≤ (kc : Int) := by omega
      have jkc : (kc : Int) < 2 := by omega
      have hw4 : IntKind.i64.wrap (1 + (kc : Int)) = 1 + (kc : Int) := by rw [IntKind.wrap_i64]; omega
      refine hK.out _ _ (hSq89) (fun hHeld => ?_)
      clear hK K
      (try simp only [Act.put,s1,s2,s3])
      refine tkH 14 ?tv158 rfl (by kernel_rfl) (by kernel_rfl) (by kernel_rfl) (fun _ _ _ h => h) (by rfl) ?hy158 hHeld ?rs158
      case hy158 => (intro w9 _; go_simp; (try with_reducible rfl))
      (try simp only [Act.put,s1,s2,s3])
      refine tkH 15 ?tv159 rfl (by kernel_rfl) (by kernel_rfl) (by kernel_rfl) (fun _ _ _ h => h) (by rfl) ?hy159 hHeld ?rs159
      case hy159 => (intro w9 _; go_simp; (try with_reducible rfl))
      (try simp only [Act.put,s1,s2,s3])
      refine wpAnyH_ready (rs := [17]) (by kernel_rfl) (by simp) ?_
      refine AllReadyH.cons rfl (fun K hK => ?_) AllReadyH.nil
      have hcn : (txN lK4 jx) ∈ lK4 := txN_mem (by show jx < 4; omega)
      generalize txN lK4 jx = cn at *
      have bl9 := hCq89.lt
      have f0 := hCq89.free 0
      have f1 := hCq89.free 1
      have f2 := hCq89.free 2
      have c0 := hCq89.cell 0
      have c1 := hCq89.cell 1
      have c2 := hCq89.cell 2
      simp at c0 c1 c2
      have hr9 : rq89 ≤ r5 := by omega
      have T : Hid _ := hid (ColI.of hCq89 hcn hkc hwhC hEq89 hpq89 (by omega) hr9)
      have HXS : Hid _ := hid (hSq89.st3 (q := bC) (by omega) cn (1 + (kc : Int)))
      clear hcn hCq89 hSq89 hEq89 hpq89
      go_simp
      refine hK.out _ _ (HXS.out) (fun hHeld => ?_)
      clear hK K
      (try simp only [Act.put,s1,s2,s3])
      refine wpAnyH_done (by kernel_rfl) ?_ _
      go_wp2_with fail
      go_meet
      exact T.out
     go_simp
     go_wp2_with (first | (go_at_call 39; refine Calls.mono (num_any hpq87 2 (by decide) (by decide)) ?_; rintro e uq90 ⟨kc,rq90,rfl,hkc,hlq90,hpq90,hbq90⟩))
     have hEq90 := hEq87.trans hbq90
     have hrq90 := hlq90.1
     have hCq90 := hCq87.but hbq90 (by omega)
     clear hpq87 hEq87 hbq90 hlq90 hCq87
     have ikc : (0 : Int) ≤ (kc : Int) := by omega
     have jkc : (kc : Int) < 2 := by omega
     have hw4 : IntKind.i64.wrap (1 + (kc : Int)) = 1 + (kc : Int) := by rw [IntKind.wrap_i64]; omega
     refine hK.out _ _ (trivial) (fun hHeld => ?_)
     clear hK K
     (try simp only [Act.put,s1,s2,s3])
     refine tkH 14 ?tv160 rfl (by kernel_rfl) (by kernel_rfl) (by kernel_rfl) (fun _ _ _ h => h) (by rfl) ?hy160 hHeld ?rs160
     case hy160 => (intro w9 _; go_simp; (try with_reducible rfl))
     (try simp only [Act.put,s1,s2,s3])
     refine wpAnyH_ready (rs := [0]) (by kernel_rfl) (by simp) ?_
     refine AllReadyH.cons rfl (fun K hK => ?_) AllReadyH.nil
     go_simp
     have hEq91 : But g wr (uq90.alloc oK4) := hEq90.alloc _
     have hpq91 : Pk (uq90.alloc oK4) g rq90 := hpq90.alloc _
     have hSq91 : Txt (uq90.alloc oK4) uq90.heap.size lK4 := Txt.new4 uq90 ⟨#[107]⟩ ⟨#[118]⟩ ⟨#[110]⟩ ⟨#[114]⟩
     have hCq91 := hCq90.later (bal (Below.refl _ uq90) oK4)
     have lthCq91 : bC < uq90.heap.size := hCq90.lt
     have hszq91 : wr.heap.size ≤ uq90.heap.size := by have := hEq90.size; (try simp at this); omega
     have hCt91 : Blk (uq90.alloc oK4) bC oZC := hCq91
     clear hpq90 hEq90 hCq90 hCq91
     generalize hgb : uq90.heap.size = bS at hSq91 hszq91 ⊢
     have hzhS : z < bS := by omega
     have nehCq91 : bC ≠ bS := by omega
     clear hgb
     generalize (uq90.alloc oK4) = uq91 at *
     refine hK.out _ _ (trivial) (fun hHeld => ?_)
     clear hK K
     (try simp only [Act.put,s1,s2,s3])
     have hHeld9 : (fun w' => Txt w' bS lK4) uq91 := hSq91
     clear hHeld
     refine wpAnyH_str (S' := (fun w' => Txt w' bS lK4)) (fun w h => trivial) _ _ _ _ ?_
     have hHeld := hHeld9
     clear hHeld9
     refine tkH 10 ?tv161 rfl (by kernel_rfl) (by kernel_rfl) (by kernel_rfl) (fun _ _ _ h => h) (by rfl) ?hy161 hHeld ?rs161
     case hy161 => (intro w9 _; go_simp; (try with_reducible rfl))
     (try simp only [Act.put,s1,s2,s3])
     refine tkH 11 ?tv162 rfl (by kernel_rfl) (by kernel_rfl) (by kernel_rfl) (fun _ _ _ h => h) (by rfl) ?hy162 hHeld ?rs162
     case hy162 => (intro w9 hSw; (try dsimp only at hSw); have bl9 := (hSw).lt; have c9 := (hSw).cell jx (by show jx < 4; omega); go_simp; (try with_reducible rfl))
     (try simp only [Act.put,s1,s2,s3])
     refine tkH 15 ?tv163 rfl (by kernel_rfl) (by kernel_rfl) (by kernel_rfl) (fun _ _ _ h => h) (by rfl) ?hy163 hHeld ?rs163
     case hy163 => (intro w9 _; go_simp; (try with_reducible rfl))
     (try simp only [Act.put,s1,s2,s3])
     refine wpAnyH_ready (rs := [17]) (by kernel_rfl) (by simp) ?_
     refine AllReadyH.cons rfl (fun K hK => ?_) AllReadyH.nil
     have hcn : (txN lK4 jx) ∈ lK4 := txN_mem (by show jx < 4; omega)
     generalize txN lK4 jx = cn at *
     have bl9 := hCt91.lt
     have f0 := hCt91.free 0
     have f1 := hCt91.free 1
     have f2 := hCt91.free 2
     have c0 := hCt91.cell 0
     have c1 := hCt91.cell 1
     have c2 := hCt91.cell 2
     simp at c0 c1 c2
     have hr9 : rq90 ≤ r5 := by omega
     have T : Hid _ := hid (ColI.of hCt91 hcn hkc hwhC hEq91 hpq91 (by omega) hr9)
     have HXS : Hid _ := hid (hSq91.st3 (q := bC) (by omega) cn (1 + (kc : Int)))
     clear hcn hCt91 hSq91 hEq91 hpq91
     go_simp
     refine hK.out _ _ (HXS.out) (fun hHeld => ?_)
     clear hK K
     (try simp only [Act.put,s1,s2,s3])
     refine wpAnyH_done (by kernel_rfl) ?_ _
     go_wp2_with fail
     go_meet
     exact T.out
    go_simp
    have hEq92 : But g wr (wr.alloc oZC).drew := hD.alloc _
    have hpq92 : Pk (wr.alloc oZC).drew g r5 := hpD.alloc _
    have hCq92 : Blk (wr.alloc oZC).drew wr.heap.size oZC := Blk.new wr.drew oZC
    have hszq92 : wr.heap.size ≤ wr.heap.size := by have := hD.size; (try simp at this); omega
    clear hpD hD 
    generalize hgb : wr.heap.size = bC at hCq92 hszq92 ⊢
    have hzhC : z < bC := by omega
    have hwhC : wr.heap.size ≤ bC := by omega
    clear hgb
    generalize (wr.alloc oZC).drew = uq92 at *
    refine hK.out _ _ (trivial) (fun hHeld => ?_)
    clear hK K
    (try simp only [Act.put,s1,s2,s3])
    refine wpAnyH_ready (rs := [0,4]) (by kernel_rfl) (by simp) ?_
    refine AllReadyH.cons rfl (fun K hK => ?_) (AllReadyH.cons rfl (fun K hK => ?_) AllReadyH.nil)
    ·go_simp
     have hEq93 : But g wr (uq92.alloc oK4) := hEq92.alloc _
     have hpq93 : Pk (uq92.alloc oK4) g r5 := hpq92.alloc _
     have hSq93 : Txt (uq92.alloc oK4) uq92.heap.size lK4 := Txt.new4 uq92 ⟨#[107]⟩ ⟨#[118]⟩ ⟨#[110]⟩ ⟨#[114]⟩
     have hCq93 := hCq92.later (bal (Below.refl _ uq92) oK4)
     have lthCq93 : bC < uq92.heap.size := hCq92.lt
     have hszq93 : wr.heap.size ≤ uq92.heap.size := by have := hEq92.size; (try simp at this); omega
     have hCt93 : Blk (uq92.alloc oK4) bC oZC := hCq93
     clear hpq92 hEq92 hCq92 hCq93
     generalize hgb : uq92.heap.size = bS at hSq93 hszq93 ⊢
     have hzhS : z < bS := by omega
     have nehCq93 : bC ≠ bS := by omega
     clear hgb
     generalize (uq92.alloc oK4) = uq93 at *
     refine hK.out _ _ (trivial) (fun hHeld => ?_)
     clear hK K
     (try simp only [Act.put,s1,s2,s3])
     have hHeld9 : (fun w' => Txt w' bS lK4) uq93 := hSq93
     clear hHeld
     refine wpAnyH_str (S' := (fun w' => Txt w' bS lK4)) (fun w h => trivial) _ _ _ _ ?_
     have hHeld := hHeld9
     clear hHeld9
     refine wpAnyH_ready (rs := [4]) (by kernel_rfl) (by simp) ?_
     refine AllReadyH.cons rfl (fun K hK => ?_) AllReadyH.nil
     go_simp
     go_wp2_with (first | (go_at_call 39; refine Calls.mono (num_any hpq93 2 (by decide) (by decide)) ?_; rintro e uq94 ⟨ka,rq94,rfl,hka,hlq94,hpq94,hbq94⟩))
     have hEq94 := hEq93.trans hbq94
     have hrq94 := hlq94.1
     have hSq94 := hSq93.but hbq94 (by omega)
     have hCq94 := hCt93.but hbq94 (by omega)
     clear hpq93 hEq93 hbq94 hlq94 hSq93 hCt93
     have ika : (0 : Int) ≤ (ka : Int) := by omega
     have jka : (ka : Int) < 2 := by omega
     refine hK.out _ _ (hSq94) (fun hHeld => ?_)
     clear hK K
     (try simp only [Act.put,s1,s2,s3])
     refine wpAnyH_ready (rs := [6]) (by kernel_rfl) (by simp) ?_
     refine AllReadyH.cons rfl (fun K hK => ?_) AllReadyH.nil
     go_simp
     go_wp2_with (first | (go_at_call 39; refine Calls.mono (num_any hpq94 3 (by decide) (by decide)) ?_; rintro e uq95 ⟨kb,rq95,rfl,hkb,hlq95,hpq95,hbq95⟩))
     have hEq95 := hEq94.trans hbq95
     have hrq95 := hlq95.1
     have hSq95 := hSq94.but hbq95 (by omega)
     have hCq95 := hCq94.but hbq95 (by omega)
     clear hpq94 hEq94 hbq95 hlq95 hSq94 hCq94
     have ikb : (0 : Int) ≤ (kb : Int) := by omega
     have jkb : (kb : Int) < 3 := by omega
     obtain ⟨ab,jx,hab,hw2,hw3,hjx,htj,ijx,jjx⟩ := idx7 hi3 hka hkb
     refine hK.out _ _ (hSq95) (fun hHeld => ?_)
     clear hK K
     (try simp only [Act.put,s1,s2,s3])
     refine tkH 7 ?tv164 rfl (by kernel_rfl) (by kernel_rfl) (by kernel_rfl) (fun _ _ _ h => h) (by rfl) ?hy164 hHeld ?rs164
     case hy164 => (intro w9 _; go_simp; (try with_reducible rfl))
     (try simp only [Act.put,s1,s2,s3])
     refine tkH 8 ?tv165 rfl (by kernel_rfl) (by kernel_rfl) (by kernel_rfl) (fun _ _ _ h => h) (by rfl) ?hy165 hHeld ?rs165
     case hy165 => (intro w9 _; go_simp; (try with_reducible rfl))
     (try simp only [Act.put,s1,s2,s3])
     refine tkH 9 ?tv166 rfl (by kernel_rfl) (by kernel_rfl) (by kernel_rfl) (fun _ _ _ h => h) (by rfl) ?hy166 hHeld ?rs166
     case hy166 => (intro w9 _; go_simp; (try with_reducible rfl))
     (try simp only [Act.put,s1,s2,s3])
     refine tkH 10 ?tv167 rfl (by kernel_rfl) (by kernel_rfl) (by kernel_rfl) (fun _ _ _ h => h) (by rfl) ?hy167 hHeld ?rs167
     case hy167 => (intro w9 _; go_simp; (try with_reducible rfl))
     (try simp only [Act.put,s1,s2,s3])
     refine tkH 11 ?tv168 rfl (by kernel_rfl) (by kernel_rfl) (by kernel_rfl) (fun _ _ _ h => h) (by rfl) ?hy168 hHeld ?rs168
     case hy168 => (intro w9 hSw; (try dsimp only at hSw); have bl9 := (hSw).lt; have c9 := (hSw).cell jx (by show jx < 4; omega); go_simp; (try with_reducible rfl))
     (try simp only [Act.put,s1,s2,s3])
     refine wpAnyH_ready (rs := [13]) (by kernel_rfl) (by simp) ?_
     refine AllReadyH.cons rfl (fun K hK => ?_) AllReadyH.nil
     go_simp
     go_wp2_with (first | (go_at_call 39; refine Calls.mono (num_any hpq95 2 (by decide) (by decide)) ?_; rintro e uq96 ⟨kc,rq96,rfl,hkc,hlq96,hpq96,hbq96⟩))
     have hEq96 := hEq95.trans hbq96
     have hrq96 := hlq96.1
     have hSq96 := hSq95.but hbq96 (by omega)
     have hCq96 := hCq95.but hbq96 (by omega)
     clear hpq95 hEq95 hbq96 hlq96 hSq95 hCq95
     have ikc : (0 : Int) ≤ (kc : Int) := by omega
     have jkc : (kc : Int) < 2 := by omega
     have hw4 : IntKind.i64.wrap (1 + (kc : Int)) = 1 + (kc : Int) := by rw [IntKind.wrap_i64]; omega
     refine hK.out _ _ (hSq96) (fun hHeld => ?_)
     clear hK K
     (try simp only [Act.put,s1,s2,s3])
     refine tkH 14 ?tv169 rfl (by kernel_rfl) (by kernel_rfl) (by kernel_rfl) (fun _ _ _ h => h) (by rfl) ?hy169 hHeld ?rs169
     case hy169 => (intro w9 _; go_simp; (try with_reducible rfl))
     (try simp only [Act.put,s1,s2,s3])
     refine tkH 15 ?tv170 rfl (by kernel_rfl) (by kernel_rfl) (by kernel_rfl) (fun _ _ _ h => h) (by rfl) ?hy170 hHeld ?rs170
     case hy170 => (intro w9 _; go_simp; (try with_reducible rfl))
     (try simp only [Act.put,s1,s2,s3])
     refine wpAnyH_ready (rs := [17]) (by kernel_rfl) (by simp) ?_
     refine AllReadyH.cons rfl (fun K hK => ?_) AllReadyH.nil
     have hcn : (txN lK4 jx) ∈ lK4 := txN_mem (by show jx < 4; omega)
     generalize txN lK4 jx = cn at *
     have bl9 := hCq96.lt
     have f0 := hCq96.free 0
     have f1 := hCq96.free 1
     have f2 := hCq96.free 2
     have c0 := hCq96.cell 0
     have c1 := hCq96.cell 1
     have c2 := hCq96.cell 2
     simp at c0 c1 c2
     have hr9 : rq96 ≤ r5 := by omega
     have T : Hid _ := hid (ColI.of hCq96 hcn hkc hwhC hEq96 hpq96 (by omega) hr9)
     have HXS : Hid _ := hid (hSq96.st3 (q := bC) (by omega) cn (1 + (kc : Int)))
     clear hcn hCq96 hSq96 hEq96 hpq96
     go_simp
     refine hK.out _ _ (HXS.out) (fun hHeld => ?_)
     clear hK K
     (try simp only [Act.put,s1,s2,s3])
     refine wpAnyH_done (by kernel_rfl) ?_ _
     go_wp2_with fail
     go_meet
     exact T.out
    go_simp
    go_wp2_with (first | (go_at_call 39; refine Calls.mono (num_any hpq92 2 (by decide) (by decide)) ?_; rintro e uq97 ⟨ka,rq97,rfl,hka,hlq97,hpq97,hbq97⟩))
    have hEq97 := hEq92.trans hbq97
    have hrq97 := hlq97.1
    have hCq97 := hCq92.but hbq97 (by omega)
    clear hpq92 hEq92 hbq97 hlq97 hCq92
    have ika : (0 : Int) ≤ (ka : Int) := by omega
    have jka : (ka : Int) < 2 := by omega
    refine hK.out _ _ (trivial) (fun hHeld => ?_)
    clear hK K
    (try simp only [Act.put,s1,s2,s3])
    refine wpAnyH_ready (rs := [0,6]) (by kernel_rfl) (by simp) ?_
    refine AllReadyH.cons rfl (fun K hK => ?_) (AllReadyH.cons rfl (fun K hK => ?_) AllReadyH.nil)
    ·go_simp
     have hEq98 : But g wr (uq97.alloc oK4) := hEq97.alloc _
     have hpq98 : Pk (uq97.alloc oK4) g rq97 := hpq97.alloc _
     have hSq98 : Txt (uq97.alloc oK4) uq97.heap.size lK4 := Txt.new4 uq97 ⟨#[107]⟩ ⟨#[118]⟩ ⟨#[110]⟩ ⟨#[114]⟩
     have hCq98 := hCq97.later (bal (Below.refl _ uq97) oK4)
     have lthCq98 : bC < uq97.heap.size := hCq97.lt
     have hszq98 : wr.heap.size ≤ uq97.heap.size := by have := hEq97.size; (try simp at this); omega
     have hCt98 : Blk (uq97.alloc oK4) bC oZC := hCq98
     clear hpq97 hEq97 hCq97 hCq98
     generalize hgb : uq97.heap.size = bS at hSq98 hszq98 ⊢
     have hzhS : z < bS := by omega
     have nehCq98 : bC ≠ bS := by omega
     clear hgb
     generalize (uq97.alloc oK4) = uq98 at *
     refine hK.out _ _ (trivial) (fun hHeld => ?_)
     clear hK K
     (try simp only [Act.put,s1,s2,s3])
     have hHeld9 : (fun w' => Txt w' bS lK4) uq98 := hSq98
     clear hHeld
     refine wpAnyH_str (S' := (fun w' => Txt w' bS lK4)) (fun w h => trivial) _ _ _ _ ?_
     have hHeld := hHeld9
     clear hHeld9
     refine wpAnyH_ready (rs := [6]) (by kernel_rfl) (by simp) ?_
     refine AllReadyH.cons rfl (fun K hK => ?_) AllReadyH.nil
     go_simp
     go_wp2_with (first | (go_at_call 39; refine Calls.mono (num_any hpq98 3 (by decide) (by decide)) ?_; rintro e uq99 ⟨kb,rq99,rfl,hkb,hlq99,hpq99,hbq99⟩))
     have hEq99 := hEq98.trans hbq99
     have hrq99 := hlq99.1
     have hSq99 := hSq98.but hbq99 (by omega)
     have hCq99 := hCt98.but hbq99 (by omega)
     clear hpq98 hEq98 hbq99 hlq99 hSq98 hCt98
     have ikb : (0 : Int) ≤ (kb : Int) := by omega
     have jkb : (kb : Int) < 3 := by omega
     obtain ⟨ab,jx,hab,hw2,hw3,hjx,htj,ijx,jjx⟩ := idx7 hi3 hka hkb
     refine hK.out _ _ (hSq99) (fun hHeld => ?_)
     clear hK K
     (try simp only [Act.put,s1,s2,s3])
     refine tkH 7 ?tv171 rfl (by kernel_rfl) (by kernel_rfl) (by kernel_rfl) (fun _ _ _ h => h) (by rfl) ?hy171 hHeld ?rs171
     case hy171 => (intro w9 _; go_simp; (try with_reducible rfl))
     (try simp only [Act.put,s1,s2,s3])
     refine tkH 8 ?tv172 rfl (by kernel_rfl) (by kernel_rfl) (by kernel_rfl) (fun _ _ _ h => h) (by rfl) ?hy172 hHeld ?rs172
     case hy172 => (intro w9 _; go_simp; (try with_reducible rfl))
     (try simp only [Act.put,s1,s2,s3])
     refine tkH 9 ?tv173 rfl (by kernel_rfl) (by kernel_rfl) (by kernel_rfl) (fun _ _ _ h => h) (by rfl) ?hy173 hHeld ?rs173
     case hy173 => (intro w9 _; go_simp; (try with_reducible rfl))
     (try simp only [Act.put,s1,s2,s3])
     refine tkH 10 ?tv174 rfl (by kernel_rfl) (by kernel_rfl) (by kernel_rfl) (fun _ _ _ h => h) (by rfl) ?hy174 hHeld ?rs174
     case hy174 => (intro w9 _; go_simp; (try with_reducible rfl))
     (try simp only [Act.put,s1,s2,s3])
     refine tkH 11 ?tv175 rfl (by kernel_rfl) (by kernel_rfl) (by kernel_rfl) (fun _ _ _ h => h) (by rfl) ?hy175 hHeld ?rs175
     case hy175 => (intro w9 hSw; (try dsimp only at hSw); have bl9 := (hSw).lt; have c9 := (hSw).cell jx (by show jx < 4; omega); go_simp; (try with_reducible rfl))
     (try simp only [Act.put,s1,s2,s3])
     refine wpAnyH_ready (rs := [13]) (by kernel_rfl) (by simp) ?_
     refine AllReadyH.cons rfl (fun K hK => ?_) AllReadyH.nil
     go_simp
     go_wp2_with (first | (go_at_call 39; refine Calls.mono (num_any hpq99 2 (by decide) (by decide)) ?_; rintro e uq100 ⟨kc,rq100,rfl,hkc,hlq100,hpq100,hbq100⟩))
     have hEq100 := hEq99.trans hbq100
     have hrq100 := hlq100.1
     have hSq100 := hSq99.but hbq100 (by omega)
     have hCq100 := hCq99.but hbq100 (by omega)
     clear hpq99 hEq99 hbq100 hlq100 hSq99 hCq99
     have ikc : (0 : Int) ≤ (kc : Int) := by omega
     have jkc : (kc : Int) < 2 := by omega
     have hw4 : IntKind.i64.wrap (1 + (kc : Int)) = 1 + (kc : Int) := by rw [IntKind.wrap_i64]; omega
     refine hK.out _ _ (hSq100) (fun hHeld => ?_)
     clear hK K
     (try simp only [Act.put,s1,s2,s3])
     refine tkH 14 ?tv176 rfl (by kernel_rfl) (by kernel_rfl) (by kernel_rfl) (fun _ _ _ h => h) (by rfl) ?hy176 hHeld ?rs176
     case hy176 => (intro w9 _; go_simp; (try with_reducible rfl))
     (try simp only [Act.put,s1,s2,s3])
     refine tkH 15 ?tv177 rfl (by kernel_rfl) (by kernel_rfl) (by kernel_rfl) (fun _ _ _ h => h) (by rfl) ?hy177 hHeld ?rs177
     case hy177 => (intro w9 _; go_simp; (try with_reducible rfl))
     (try simp only [Act.put,s1,s2,s3])
     refine wpAnyH_ready (rs := [17]) (by kernel_rfl) (by simp) ?_
     refine AllReadyH.cons rfl (fun K hK => ?_) AllReadyH.nil
     have hcn : (txN lK4 jx) ∈ lK4 := txN_mem (by show jx < 4; omega)
     generalize txN lK4 jx = cn at *
     have bl9 := hCq100.lt
     have f0 := hCq100.free 0
     have f1 := hCq100.free 1
     have f2 := hCq100.free 2
     have c0 := hCq100.cell 0
     have c1 := hCq100.cell 1
     have c2 := hCq100.cell 2
     simp at c0 c1 c2
     have hr9 : rq100 ≤ r5 := by omega
     have T : Hid _ := hid (ColI.of hCq100 hcn hkc hwhC hEq100 hpq100 (by omega) hr9)
     have HXS : Hid _ := hid (hSq100.st3 (q := bC) (by omega) cn (1 + (kc : Int)))
     clear hcn hCq100 hSq100 hEq100 hpq100
     go_simp
     refine hK.out _ _ (HXS.out) (fun hHeld => ?_)
     clear hK K
     (try simp only [Act.put,s1,s2,s3])
     refine wpAnyH_done (by kernel_rfl) ?_ _
     go_wp2_with fail
     go_meet
     exact T.out
    go_simp
    go_wp2_with (first | (go_at_call 39; refine Calls.mono (num_any hpq97 3 (by decide) (by decide)) ?_; rintro e uq101 ⟨kb,rq101,rfl,hkb,hlq101,hpq101,hbq101⟩))
    have hEq101 := hEq97.trans hbq101
    have hrq101 := hlq101.1
    have hCq101 := hCq97.but hbq101 (by omega)
    clear hpq97 hEq97 hbq101 hlq101 hCq97
    have ikb : (0 : Int) ≤ (kb : Int) := by omega
    have jkb : (kb : Int) < 3 := by omega
    obtain ⟨ab,jx,hab,hw2,hw3,hjx,htj,ijx,jjx⟩ := idx7 hi3 hka hkb
    refine hK.out _ _ (trivial) (fun hHeld => ?_)
    clear hK K
    (try simp only [Act.put,s1,s2,s3])
    refine tkH 7 ?tv178 rfl (by kernel_rfl) (by kernel_rfl) (by kernel_rfl) (fun _ _ _ h => h) (by rfl) ?hy178 hHeld ?rs178
    case hy178 => (intro w9 _; go_simp; (try with_reducible rfl))
    (try simp only [Act.put,s1,s2,s3])
    refine tkH 8 ?tv179 rfl (by kernel_rfl) (by kernel_rfl) (by kernel_rfl) (fun _ _ _ h => h) (by rfl) ?hy179 hHeld ?rs179
    case hy179 => (intro w9 _; go_simp; (try with_reducible rfl))
    (try simp only [Act.put,s1,s2,s3])
    refine tkH 9 ?tv180 rfl (by kernel_rfl) (by kernel_rfl) (by kernel_rfl) (fun _ _ _ h => h) (by rfl) ?hy180 hHeld ?rs180
    case hy180 => (intro w9 _; go_simp; (try with_reducible rfl))
    (try simp only [Act.put,s1,s2,s3])
    refine wpAnyH_ready (rs := [0,13]) (by kernel_rfl) (by simp) ?_
    refine AllReadyH.cons rfl (fun K hK => ?_) (AllReadyH.cons rfl (fun K hK => ?_) AllReadyH.nil)
    ·go_simp
     have hEq102 : But g wr (uq101.alloc oK4) := hEq101.alloc _
     have hpq102 : Pk (uq101.alloc oK4) g rq101 := hpq101.alloc _
     have hSq102 : Txt (uq101.alloc oK4) uq101.heap.size lK4 := Txt.new4 uq101 ⟨#[107]⟩ ⟨#[118]⟩ ⟨#[110]⟩ ⟨#[114]⟩
     have hCq102 := hCq101.later (bal (Below.refl _ uq101) oK4)
     have lthCq102 : bC < uq101.heap.size := hCq101.lt
     have hszq102 : wr.heap.size ≤ uq101.heap.size := by have := hEq101.size; (try simp at this); omega
     have hCt102 : Blk (uq101.alloc oK4) bC oZC := hCq102
     clear hpq101 hEq101 hCq101 hCq102
     generalize hgb : uq101.heap.size = bS at hSq102 hszq102 ⊢
     have hzhS : z < bS := by omega
     have nehCq102 : bC ≠ bS := by omega
     clear hgb
     generalize (uq101.alloc oK4) = uq102 at *
     refine hK.out _ _ (trivial) (fun hHeld => ?_)
     clear hK K
     (try simp only [Act.put,s1,s2,s3])
     have hHeld9 : (fun w' => Txt w' bS lK4) uq102 := hSq102
     clear hHeld
     refine wpAnyH_str (S' := (fun w' => Txt w' bS lK4)) (fun w h => trivial) _ _ _ _ ?_
     have hHeld := hHeld9
     clear hHeld9
     refine tkH 10 ?tv181 rfl (by kernel_rfl) (by kernel_rfl) (by kernel_rfl) (fun _ _ _ h => h) (by rfl) ?hy181 hHeld ?rs181
     case hy181 => (intro w9 _; go_simp; (try with_reducible rfl))
     (try simp only [Act.put,s1,s2,s3])
     refine tkH 11 ?tv182 rfl (by kernel_rfl) (by kernel_rfl) (by kernel_rfl) (fun _ _ _ h => h) (by rfl) ?hy182 hHeld ?rs182
     case hy182 => (intro w9 hSw; (try dsimp only at hSw); have bl9 := (hSw).lt; have c9 := (hSw).cell jx (by show jx < 4; omega); go_simp; (try with_reducible rfl))
     (try simp only [Act.put,s1,s2,s3])
     refine wpAnyH_ready (rs := [13]) (by kernel_rfl) (by simp) ?_
     refine AllReadyH.cons rfl (fun K hK => ?_) AllReadyH.nil
     go_simp
     go_wp2_with (first | (go_at_call 39; refine Calls.mono (num_any hpq102 2 (by decide) (by decide)) ?_; rintro e uq103 ⟨kc,rq103,rfl,hkc,hlq103,hpq103,hbq103⟩))
     have hEq103 := hEq102.trans hbq103
     have hrq103 := hlq103.1
     have hSq103 := hSq102.but hbq103 (by omega)
     have hCq103 := hCt102.but hbq103 (by omega)
     clear hpq102 hEq102 hbq103 hlq103 hSq102 hCt102
     have ikc : (0 : Int) ≤ (kc : Int) := by omega
     have jkc : (kc : Int) < 2 := by omega
     have hw4 : IntKind.i64.wrap (1 + (kc : Int)) = 1 + (kc : Int) := by rw [IntKind.wrap_i64]; omega
     refine hK.out _ _ (hSq103) (fun hHeld => ?_)
     clear hK K
     (try simp only [Act.put,s1,s2,s3])
     refine tkH 14 ?tv183 rfl (by kernel_rfl) (by kernel_rfl) (by kernel_rfl) (fun _ _ _ h => h) (by rfl) ?hy183 hHeld ?rs183
     case hy183 => (intro w9 _; go_simp; (try with_reducible rfl))
     (try simp only [Act.put,s1,s2,s3])
     refine tkH 15 ?tv184 rfl (by kernel_rfl) (by kernel_rfl) (by kernel_rfl) (fun _ _ _ h => h) (by rfl) ?hy184 hHeld ?rs184
     case hy184 => (intro w9 _; go_simp; (try with_reducible rfl))
     (try simp only [Act.put,s1,s2,s3])
     refine wpAnyH_ready (rs := [17]) (by kernel_rfl) (by simp) ?_
     refine AllReadyH.cons rfl (fun K hK => ?_) AllReadyH.nil
     have hcn : (txN lK4 jx) ∈ lK4 := txN_mem (by show jx < 4; omega)
     generalize txN lK4 jx = cn at *
     have bl9 := hCq103.lt
     have f0 := hCq103.free 0
     have f1 := hCq103.free 1
     have f2 := hCq103.free 2
     have c0 := hCq103.cell 0
     have c1 := hCq103.cell 1
     have c2 := hCq103.cell 2
     simp at c0 c1 c2
     have hr9 : rq103 ≤ r5 := by omega
     have T : Hid _ := hid (ColI.of hCq103 hcn hkc hwhC hEq103 hpq103 (by omega) hr9)
     have HXS : Hid _ := hid (hSq103.st3 (q := bC) (by omega) cn (1 + (kc : Int)))
     clear hcn hCq103 hSq103 hEq103 hpq103
     go_simp
     refine hK.out _ _ (HXS.out) (fun hHeld => ?_)
     clear hK K
     (try simp only [Act.put,s1,s2,s3])
     refine wpAnyH_done (by kernel_rfl) ?_ _
     go_wp2_with fail
     go_meet
     exact T.out
    go_simp
    go_wp2_with (first | (go_at_call 39; refine Calls.mono (num_any hpq101 2 (by decide) (by decide)) ?_; rintro e uq104 ⟨kc,rq104,rfl,hkc,hlq104,hpq104,hbq104⟩))
    have hEq104 := hEq101.trans hbq104
    have hrq104 := hlq104.1
    have hCq104 := hCq101.but hbq104 (by omega)
    clear hpq101 hEq101 hbq104 hlq104 hCq101
    have ikc : (0 : Int) ≤ (kc : Int) := by omega
    have jkc : (kc : Int) < 2 := by omega
    have hw4 : IntKind.i64.wrap (1 + (kc : Int)) = 1 + (kc : Int) := by rw [IntKind.wrap_i64]; omega
    refine hK.out _ _ (trivial) (fun hHeld => ?_)
    clear hK K
    (try simp only [Act.put,s1,s2,s3])
    refine tkH 14 ?tv185 rfl (by kernel_rfl) (by kernel_rfl) (by kernel_rfl) (fun _ _ _ h => h) (by rfl) ?hy185 hHeld ?rs185
    case hy185 => (intro w9 _; go_simp; (try with_reducible rfl))
    (try simp only [Act.put,s1,s2,s3])
    refine wpAnyH_ready (rs := [0]) (by kernel_rfl) (by simp) ?_
    refine AllReadyH.cons rfl (fun K hK => ?_) AllReadyH.nil
    go_simp
    have hEq105 : But g wr (uq104.alloc oK4) := hEq104.alloc _
    have hpq105 : Pk (uq104.alloc oK4) g rq104 := hpq104.alloc _
    have hSq105 : Txt (uq104.alloc oK4) uq104.heap.size lK4 := Txt.new4 uq104 ⟨#[107]⟩ ⟨#[118]⟩ ⟨#[110]⟩ ⟨#[114]⟩
    have hCq105 := hCq104.later (bal (Below.refl _ uq104) oK4)
    have lthCq105 : bC < uq104.heap.size := hCq104.lt
    have hszq105 : wr.heap.size ≤ uq104.heap.size := by have := hEq104.size; (try simp at this); omega
    have hCt105 : Blk (uq104.alloc oK4) bC oZC := hCq105
    clear hpq104 hEq104 hCq104 hCq105
    generalize hgb : uq104.heap.size = bS at hSq105 hszq105 ⊢
    have hzhS : z < bS := by omega
    have nehCq105 : bC ≠ bS := by omega
    clear hgb
    generalize (uq104.alloc oK4) = uq105 at *
    refine hK.out _ _ (trivial) (fun hHeld => ?_)
    clear hK K
    (try simp only [Act.put,s1,s2,s3])
    have hHeld9 : (fun w' => Txt w' bS lK4) uq105 := hSq105
    clear hHeld
    refine wpAnyH_str (S' := (fun w' => Txt w' bS lK4)) (fun w h => trivial) _ _ _ _ ?_
    have hHeld := hHeld9
    clear hHeld9
    refine tkH 10 ?tv186 rfl (by kernel_rfl) (by kernel_rfl) (by kernel_rfl) (fun _ _ _ h => h) (by rfl) ?hy186 hHeld ?rs186
    case hy186 => (intro w9 _; go_simp; (try with_reducible rfl))
    (try simp only [Act.put,s1,s2,s3])
    refine tkH 11 ?tv187 rfl (by kernel_rfl) (by kernel_rfl) (by kernel_rfl) (fun _ _ _ h => h) (by rfl) ?hy187 hHeld ?rs187
    case hy187 => (intro w9 hSw; (try dsimp only at hSw); have bl9 := (hSw).lt; have c9 := (hSw).cell jx (by show jx < 4; omega); go_simp; (try with_reducible rfl))
    (try simp only [Act.put,s1,s2,s3])
    refine tkH 15 ?tv188 rfl (by kernel_rfl) (by kernel_rfl) (by kernel_rfl) (fun _ _ _ h => h) (by rfl) ?hy188 hHeld ?rs188
    case hy188 => (intro w9 _; go_simp; (try with_reducible rfl))
    (try simp only [Act.put,s1,s2,s3])
    refine wpAnyH_ready (rs := [17]) (by kernel_rfl) (by simp) ?_
    refine AllReadyH.cons rfl (fun K hK => ?_) AllReadyH.nil
    have hcn : (txN lK4 jx) ∈ lK4 := txN_mem (by show jx < 4; omega)
    generalize txN lK4 jx = cn at *
    have bl9 := hCt105.lt
    have f0 := hCt105.free 0
    have f1 := hCt105.free 1
    have f2 := hCt105.free 2
    have c0 := hCt105.cell 0
    have c1 := hCt105.cell 1
    have c2 := hCt105.cell 2
    simp at c0 c1 c2
    have hr9 : rq104 ≤ r5 := by omega
    have T : Hid _ := hid (ColI.of hCt105 hcn hkc hwhC hEq105 hpq105 (by omega) hr9)
    have HXS : Hid _ := hid (hSq105.st3 (q := bC) (by omega) cn (1 + (kc : Int)))
    clear hcn hCt105 hSq105 hEq105 hpq105
    go_simp
    refine hK.out _ _ (HXS.out) (fun hHeld => ?_)
    clear hK K
    (try simp only [Act.put,s1,s2,s3])
    refine wpAnyH_done (by kernel_rfl) ?_ _
    go_wp2_with fail
    go_meet
    exact T.out
   case rest =>
   obtain ⟨bc,cn,kd,r6,rfl,hBc,hcn,hkd,hbc,hE,hp6,hr6⟩ := hcut
   clear hD hpD hw1
   have HN5 : Hid _ := hid (num_any hp6 5 (by decide) (by decide))
   go_upto_region 8 with fail
   go_wp2_with fail
   refine Calls.mono HN5.out ?_
   rintro e u ⟨k5,r7,rfl,hk5,hl7,hp7,hb7⟩
   have hBc7 := hBc.but hb7 (by omega)
   have hE7 := hE.trans hb7
   have hr7 : r7 ≤ r5 := by have := hl7.1; omega
   clear HN5 hBc hE hp6 hb7 hl7
   go_upto_if 42 with fail
   go_cut [] (fun w' => ∃ rf r8,Blk w' bc (coO cn kd rf) ∧ rf ∈ [⟨#[]⟩,⟨#[116]⟩,⟨#[117]⟩,⟨#[113]⟩] ∧ But g wr w' ∧ Pk w' g r8 ∧ r8 ≤ r5)
   case first =>
    by_cases hz5 : k5 = 0
    ·subst hz5
     have HN3 : Hid _ := hid (num_any (hp7.alloc (.cells #[.string ⟨#[116]⟩,.string ⟨#[117]⟩,.string ⟨#[113]⟩] 9 (0,0))) 3 (by decide) (by decide))
     go_wp2_with fail
     refine Calls.mono HN3.out ?_
     rintro e u2 ⟨kf,r8,rfl,hkf,hl8,hp8,hb8⟩
     have hE8 : But g u u2 := ((But.refl g u).alloc (.cells #[.string ⟨#[116]⟩,.string ⟨#[117]⟩,.string ⟨#[113]⟩] 9 (0,0))).trans hb8
     have hS : Txt u2 u.heap.size [⟨#[116]⟩,⟨#[117]⟩,⟨#[113]⟩] := (Txt.new3 u ⟨#[116]⟩ ⟨#[117]⟩ ⟨#[113]⟩).but hb8 (by have := hp7.lt; omega)
     have hlt := hS.lt
     have c9 := hS.cell kf (by simp; omega)
     have hrf : txN [⟨#[116]⟩,⟨#[117]⟩,⟨#[113]⟩] kf ∈ [⟨#[116]⟩,⟨#[117]⟩,⟨#[113]⟩] := txN_mem (by simp; omega)
     generalize txN [⟨#[116]⟩,⟨#[117]⟩,⟨#[113]⟩] kf = rf at *
     have ikf : (0 : Int) ≤ (kf : Int) := by omega
     have jkf : (kf : Int) < 3 := by omega
     have hB8 := hBc7.but hE8 (by omega)
     have b0 := hB8.cell 0
     have b1 := hB8.cell 1
     have b2 := hB8.cell 2
     have fb2 := hB8.free 2
     have hbl := hB8.lt
     simp at b0 b1 b2
     have hr8 : r8 ≤ r5 := by have := hl8.1; omega
     have T : Hid _ := hid (⟨rf,r8,hB8.set2c rf,List.mem_cons_of_mem _ hrf,(hE7.trans hE8).new hbc 2 (.string rf),hp8.other (by omega) 2 (.string rf),hr8⟩ : ∃ rf9 r9,Blk (u2.setCell ⟨bc,2,none⟩ (.string rf)) bc (coO cn kd rf9) ∧ rf9 ∈ [⟨#[]⟩,⟨#[116]⟩,⟨#[117]⟩,⟨#[113]⟩] ∧ But g wr (u2.setCell ⟨bc,2,none⟩ (.string rf)) ∧ Pk (u2.setCell ⟨bc,2,none⟩ (.string rf)) g r9 ∧ r9 ≤ r5)
     clear HN3 hE8 hS hp8 hb8 hB8 hBc7 hE7 hp7 HI hrf hl8
     go_wp2_with fail
     go_meet
     exact T.out
    ·have gz : ((k5 : Int) == 0) = false := by simp; omega
     go_wp2_with fail
     go_meet
     exact ⟨⟨#[]⟩,r7,hBc7,by simp,hE7,hp7,hr7⟩
   case rest =>
   obtain ⟨rf,r8,hB,hrf,hE8,hp8,hr8⟩ := hcut
   clear hBc7 hE7 hp7
   have hbox := HI.out.box.but hE8 (by omega)
   have y3 : wc.cell? ⟨q,3,none⟩ = some (.slice v.1 v.2.1 v.2.2) := hbox.cells.2.2.2.1
   have hqlc := hbox.lt
   have b0 := hB.cell 0
   have b1 := hB.cell 1
   have b2 := hB.cell 2
   have hbl := hB.lt
   simp at b0 b1 b2
   have ho5 := (HI.out.own.but hE8 (by omega)).alloc (coO cn kd rf)
   have hE9 : But g wr (wc.alloc (coO cn kd rf)) := hE8.alloc _
   have hp9 : Pk (wc.alloc (coO cn kd rf)) g r8 := hp8.alloc _
   have hlc : cs.length ≤ 100 := by omega
   have hs8 := hE8.size
   go_wp2_with (first | (at_builtin; refine wpList_appR Tryz.underlying39 Tryz.infoTCol rfl (by decide) (by decide) rfl (.tmp 50) (.tmp 52) rfl _ (cs.map fun c => [.string c.1,.int .i64 c.2.1,.string c.2.2]) wc.heap.size [.string cn,.int .i64 kd,.string rf] rfl rfl ho5 rfl (one_col _ _ _) (new3 wc _ _ _ _) (by simp; omega) (by rw [World.size_alloc]; omega) ?_) | fail)
   intro v' w6 hO6 hg6 hown
   obtain ⟨ao',m',c'',rfl⟩ := hO6.sl
   have hR : TabI g r z q w (w6.setCell ⟨q,3,none⟩ (.slice ao' m' c'')) nm0 (cs ++ [(cn,kd,rf)]) (ao',m',c'') r8 := HI.out.next (v' := (ao',m',c'')) (c := (cn,kd,rf)) ⟨hcn,hkd,hrf⟩ hr8 hp9 hE9 hgl hzq hwq hg6 hO6
   have hq6 : w6.heap[q]? = (wc.alloc (coO cn kd rf)).heap[q]? := hg6.block q (by rw [World.size_alloc]; omega) fun e => by have := (hblk q e.symm).1; omega
   have box6 : Bs w6 q (sTab nm0 v) := (HI.out.box.but hE9 (by omega)).keep hq6
   have cz := box6.cells.2.2.2.1
   have fz := box6.free.2.2.2.1
   have hzl6 := box6.lt
   clear hO6 hg6 hown hq6 box6 ho5 hE9 hp9 hB hE8 hp8 hbox HI hblk hnm hcn hkd hrf
   go_wp2
   go_roundw
   case rel => exact ⟨i,cs ++ [(cn,kd,rf)],(ao',m',c''),r8,by go_num,by simp; omega,hR⟩
   case measure => simp only [intOf]; omega

end Go.Proofs.YtljmlacnfnmjbaaGreat
