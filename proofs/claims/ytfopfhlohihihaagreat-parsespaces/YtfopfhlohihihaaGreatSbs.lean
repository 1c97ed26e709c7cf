import Derived.Test.YtfopfhlohihihaaGreatSbo
import Derived.Test.YtfopfhlohihihaaGreatSbj
import Derived.Test.YtfopfhlohihihaaGreatSbp
import Derived.Test.YtfopfhlohihihaaGreatSbq
import Derived.Test.YtfopfhlohihihaaGreatSbr
namespace Go.Proofs.YtfopfhlohihihaaGreat
open Go.RowKit
set_option linter.unusedVariables false
set_option linter.unusedSimpArgs false
set_option maxRecDepth 100000 in
set_option maxHeartbeats 20000000 in
theorem playStmt_4 {g r : Nat} {w : World} (h : Pk w g r) (hk : nxP (w.alloc zSt) g 14 = 4) : Calls Tryz.prog 9 #[.pointer (some ⟨g,0,none⟩)] w (TeSf g r w StOK) := by
 have hgl := h.lt
 have hR0 : Bs (w.alloc zSt) w.heap.size (zS 0) := Bs.new w (zS 0)
 have hU0 : But g w (w.alloc zSt) := (But.refl g w).alloc _
 have hp0 := h.alloc zSt
 have HN : Hid _ := hid (num_exact hp0 14 (by decide) (by decide))
 clear h
 go_enter Tryz.func9,Tryz.ntmps9
 go_wp2_with fail
 refine Calls.mono HN.out ?_
 rintro e w2 ⟨r2,rfl,hk14,hl,hp2,hb2⟩
 generalize nxP (w.alloc zSt) g 14 = k at *
 have hU2 := hU0.trans hb2
 have hR2 := hR0.but hb2 (by omega)
 have hl2 := hl.1
 have HX : Hid (w.heap.size = w.heap.size) := hid rfl
 clear HN hU0 hR0 hp0 hb2 hl
 generalize hzz : w.heap.size = z at hR2 hgl HX ⊢
 replace HX : Hid (z = w.heap.size) := hid hzz.symm
 clear hzz
 have hzl2 := hR2.lt
 subst hk
 have g0 : (((4 : Nat) : Int) == 0) = false := by decide
 have g1 : (((4 : Nat) : Int) == 1) = false := by decide
 have g2 : (((4 : Nat) : Int) == 2) = false := by decide
 have g3 : (((4 : Nat) : Int) == 3) = false := by decide
 have HN : Hid _ := hid (num_any hp2 3 (by decide) (by decide))
 go_wp2_with fail
 refine Calls.mono HN.out ?_
 rintro e u ⟨k2,r3,rfl,hk2,hl3,hp3,hE⟩
 have hw9 : IntKind.i64.wrap (9 + (k2 : Int)) = 9 + (k2 : Int) := by rw [IntKind.wrap_i64]; omega
 have hRf : Bs u z (zS 0) := hR2.but hE (by omega)
 have cR := hRf.cells
 have fR := hRf.free
 have hzlf := hRf.lt
 have d0 := cR.1
 have d1 := cR.2.1
 have d2 := cR.2.2.1
 have d3 := cR.2.2.2.1
 have d4 := cR.2.2.2.2.1
 have d5 := cR.2.2.2.2.2.1
 have d6 := cR.2.2.2.2.2.2.1
 have d7 := cR.2.2.2.2.2.2.2.1
 have d8 := cR.2.2.2.2.2.2.2.2.1
 have d9 := cR.2.2.2.2.2.2.2.2.2.1
 have d10 := cR.2.2.2.2.2.2.2.2.2.2.1
 have d11 := cR.2.2.2.2.2.2.2.2.2.2.2.1
 have d12 := cR.2.2.2.2.2.2.2.2.2.2.2.2
 have f0 := fR.1
 have f1 := fR.2.1
 have f2 := fR.2.2.1
 have f3 := fR.2.2.2.1
 have f4 := fR.2.2.2.2.1
 have f5 := fR.2.2.2.2.2.1
 have f6 := fR.2.2.2.2.2.2.1
 have f7 := fR.2.2.2.2.2.2.2.1
 have f8 := fR.2.2.2.2.2.2.2.2.1
 have f9 := fR.2.2.2.2.2.2.2.2.2.1
 have f10 := fR.2.2.2.2.2.2.2.2.2.2.1
 have f11 := fR.2.2.2.2.2.2.2.2.2.2.2.1
 have f12 := fR.2.2.2.2.2.2.2.2.2.2.2.2
 clear cR fR
 have T : Hid (TeSf g r w StOK (.returned (stV (⟨9 + (k2 : Int),⟨#[]⟩,⟨#[]⟩,(none,0,0),(none,0,0),(none,0,0),(none,0,0),⟨#[]⟩,(none,0,0),(none,0,0),(none,0,0),false,(none,0,0)⟩ : Sv))) (set13 u z (⟨9 + (k2 : Int),⟨#[]⟩,⟨#[]⟩,(none,0,0),(none,0,0),(none,0,0),(none,0,0),⟨#[]⟩,(none,0,0),(none,0,0),(none,0,0),false,(none,0,0)⟩ : Sv))) := hid (TeSf.fin (m := (sm (9 + (k2 : Int)),[])) (hU2.trans hE) (IsS.zero _ _ (9 + (k2 : Int))) (RowIs.nil _ _ _) (.inr (.inr (.inr (.inr (.inl ⟨9 + (k2 : Int),by omega,rfl⟩))))) (Nat.le_trans hl3.1 hl2) hp3 hgl HX.out)
 clear hRf HN hE hp3 hp2 hU2 hR2 g0 g1 g2 g3
 unfold set13 at T
 unfold stV at T
 dsimp only at T
 go_wp2
 refine bodyPost_ret (v := stV (⟨9 + (k2 : Int),⟨#[]⟩,⟨#[]⟩,(none,0,0),(none,0,0),(none,0,0),(none,0,0),⟨#[]⟩,(none,0,0),(none,0,0),(none,0,0),false,(none,0,0)⟩ : Sv)) (by simp [results,Tryz.results9,go_sem,stV,d0,d1,d2,d3,d4,d5,d6,d7,d8,d9,d10,d11,d12]) rfl ?_
 exact T.out
set_option maxRecDepth 100000 in
set_option maxHeartbeats 20000000 in
theorem playStmt_5 {g r : Nat} {w : World} (h : Pk w g r) (hk : nxP (w.alloc zSt) g 14 = 5) : Calls Tryz.prog 9 #[.pointer (some ⟨g,0,none⟩)] w (TeSf g r w StOK) := by
 have hgl := h.lt
 have hR0 : Bs (w.alloc zSt) w.heap.size (zS 0) := Bs.new w (zS 0)
 have hU0 : But g w (w.alloc zSt) := (But.refl g w).alloc _
 have hp0 := h.alloc zSt
 have HN : Hid _ := hid (num_exact hp0 14 (by decide) (by decide))
 clear h
 go_enter Tryz.func9,Tryz.ntmps9
 go_wp2_with fail
 refine Calls.mono HN.out ?_
 rintro e w2 ⟨r2,rfl,hk14,hl,hp2,hb2⟩
 generalize nxP (w.alloc zSt) g 14 = k at *
 have hU2 := hU0.trans hb2
 have hR2 := hR0.but hb2 (by omega)
 have hl2 := hl.1
 have HX : Hid (w.heap.size = w.heap.size) := hid rfl
 clear HN hU0 hR0 hp0 hb2 hl
 generalize hzz : w.heap.size = z at hR2 hgl HX ⊢
 replace HX : Hid (z = w.heap.size) := hid hzz.symm
 clear hzz
 have hzl2 := hR2.lt
 subst hk
 have g0 : (((5 : Nat) : Int) == 0) = false := by decide
 have g1 : (((5 : Nat) : Int) == 1) = false := by decide
 have g2 : (((5 : Nat) : Int) == 2) = false := by decide
 have g3 : (((5 : Nat) : Int) == 3) = false := by decide
 have g4 : (((5 : Nat) : Int) == 4) = false := by decide
 have HN : Hid _ := hid (num_any hp2 3 (by decide) (by decide))
 go_wp2_with fail
 refine Calls.mono HN.out ?_
 rintro e u ⟨k2,r3,rfl,hk2,hl3,hp3,hE⟩
 have hw9 : IntKind.i64.wrap (1 + (k2 : Int)) = 1 + (k2 : Int) := by rw [IntKind.wrap_i64]; omega
 have hw : IntKind.u16.wrap (1 + (k2 : Int)) = 1 + (k2 : Int) := by
  show (if (false && decide ((1 + (k2 : Int)) % (2 ^ 16 : Int) ≥ (2 ^ (16 - 1) : Int))) = true then (1 + (k2 : Int)) % (2 ^ 16 : Int) - (2 ^ 16 : Int) else (1 + (k2 : Int)) % (2 ^ 16 : Int)) = _
  rw [if_neg (by simp)]
  omega
 have ho0 : OwnR 74 1 (z + 1) (u.alloc (.cells #[.int .u16 (1 + (k2 : Int))] 74)) (.slice (some ⟨u.heap.size,0,none⟩) 1 1) [[.int .u16 (1 + (k2 : Int))]] := OwnR.lit 74 1 (z + 1) u [.int .u16 (1 + (k2 : Int))] rfl (by have := hE.size; omega)
 have hE2 : But g w2 (u.alloc (.cells #[.int .u16 (1 + (k2 : Int))] 74)) := hE.alloc _
 have HT : Hid _ := hid (tags_any (hp3.alloc (.cells #[.int .u16 (1 + (k2 : Int))] 74)))
 have hsE := hE.size
 clear HN hp3 hE hp2
 go_wp2_with fail
 refine Calls.mono HT.out ?_
 rintro e u2 ⟨ta,tn,tc,tl,r4,rfl,htg,ho1,hl4,hp4,hE4⟩
 have ho2 := ho0.but hE4 (by omega)
 have ho3 := ho1.base (B' := z + 1) (by rw [World.size_alloc]; omega)
 have hE5 := hE2.trans hE4
 have hs5 := hE5.size
 have hlen : u.heap.size + 1 ≤ u2.heap.size := by have := hE4.size; rw [World.size_alloc] at this; exact this
 clear HT ho0 ho1 hE2 hE4
 generalize u.heap.size = rb at *
 go_wp2_with (first | (at_builtin; refine wpList_appM Tryz.underlying25 Tryz.infoTTag rfl (by decide) (by decide) rfl (.tmp 118) (.tmp 120) rfl rb 1 1 _ [[.int .u16 (1 + (k2 : Int))]] (tl.map fun z => [.int .u16 z]) rfl rfl ho2 ho3 (by intro v hv; rw [List.mem_flatten] at hv; obtain ⟨c,hc,hv⟩ := hv; rw [List.mem_map] at hc; obtain ⟨z9,_,rfl⟩ := hc; rw [List.mem_singleton] at hv; subst hv; rfl) (by have := htg.1; simp; omega) (by omega) ?_) | fail)
 intro v' w6 hO6 hg6
 have hE6 : But g w2 w6 := ⟨hg6.os.trans hE5.os,hg6.tape.trans hE5.tape,hg6.output.trans hE5.output,Nat.le_trans hs5 hg6.size,fun j hj hne => (hg6.block j (by omega) (by omega)).trans (hE5.block j hj hne)⟩
 have hp6 : Pk w6 g r4 := hp4.keep hg6.size fun j hj => hg6.block j (by have := hp4.lt; omega) (by omega)
 have ho7 : OwnR 74 1 (z + 1) w6 v' ((((1 + (k2 : Int)) :: tl)).map fun z => [.int .u16 z]) := hO6
 have hrt := tags_row ho7 (Nat.lt_succ_self z)
 obtain ⟨va,vn,vc,rfl⟩ := ho7.sl
 have hzz : ∀ y ∈ (1 + (k2 : Int)) :: tl,1 ≤ y ∧ y ≤ 3 := fun y hy => by
  rcases List.mem_cons.1 hy with rfl | hy
  ·omega
  ·exact htg.2 y hy
 have hln : ((1 + (k2 : Int)) :: tl).length ≤ 3 := by have := htg.1; simp; omega
 have hRf : Bs w6 z (zS 0) := hR2.but hE6 (by omega)
 have cR := hRf.cells
 have fR := hRf.free
 have hzlf := hRf.lt
 have d0 := cR.1
 have d1 := cR.2.1
 have d2 := cR.2.2.1
 have d3 := cR.2.2.2.1
 have d4 := cR.2.2.2.2.1
 have d5 := cR.2.2.2.2.2.1
 have d6 := cR.2.2.2.2.2.2.1
 have d7 := cR.2.2.2.2.2.2.2.1
 have d8 := cR.2.2.2.2.2.2.2.2.1
 have d9 := cR.2.2.2.2.2.2.2.2.2.1
 have d10 := cR.2.2.2.2.2.2.2.2.2.2.1
 have d11 := cR.2.2.2.2.2.2.2.2.2.2.2.1
 have d12 := cR.2.2.2.2.2.2.2.2.2.2.2.2
 have f0 := fR.1
 have f1 := fR.2.1
 have f2 := fR.2.2.1
 have f3 := fR.2.2.2.1
 have f4 := fR.2.2.2.2.1
 have f5 := fR.2.2.2.2.2.1
 have f6 := fR.2.2.2.2.2.2.1
 have f7 := fR.2.2.2.2.2.2.2.1
 have f8 := fR.2.2.2.2.2.2.2.2.1
 have f9 := fR.2.2.2.2.2.2.2.2.2.1
 have f10 := fR.2.2.2.2.2.2.2.2.2.2.1
 have f11 := fR.2.2.2.2.2.2.2.2.2.2.2.1
 have f12 := fR.2.2.2.2.2.2.2.2.2.2.2.2
 clear cR fR
 have T : Hid (TeSf g r w StOK (.returned (stV (⟨12,⟨#[]⟩,⟨#[]⟩,(none,0,0),(va,vn,vc),(none,0,0),(none,0,0),⟨#[]⟩,(none,0,0),(none,0,0),(none,0,0),false,(none,0,0)⟩ : Sv))) (set13 w6 z (⟨12,⟨#[]⟩,⟨#[]⟩,(none,0,0),(va,vn,vc),(none,0,0),(none,0,0),⟨#[]⟩,(none,0,0),(none,0,0),(none,0,0),false,(none,0,0)⟩ : Sv))) := hid (TeSf.fin (m := (⟨12,⟨#[]⟩,⟨#[]⟩,[],(1 + (k2 : Int)) :: tl,[],[],⟨#[]⟩,[],[],[],false⟩,[])) (hU2.trans hE6) { IsS.zero _ _ 12 with ta := hrt } (RowIs.nil _ _ _) (.inr (.inr (.inr (.inr (.inr (.inl ⟨_,by simp,hln,hzz,rfl⟩)))))) (by have := hl3.1; omega) hp6 hgl HX.out)
 clear hRf hE6 hE5 hp6 hp4 hU2 hR2 hrt ho7 hO6 hg6 ho2 ho3 htg hzz hln g0 g1 g2 g3 g4
 unfold set13 at T
 unfold stV at T
 dsimp only at T
 go_wp2
 refine bodyPost_ret (v := stV (⟨12,⟨#[]⟩,⟨#[]⟩,(none,0,0),(va,vn,vc),(none,0,0),(none,0,0),⟨#[]⟩,(none,0,0),(none,0,0),(none,0,0),false,(none,0,0)⟩ : Sv)) (by simp [results,Tryz.results9,go_sem,stV,d0,d1,d2,d3,d4,d5,d6,d7,d8,d9,d10,d11,d12]) rfl ?_
 exact T.out
set_option maxRecDepth 100000 in
set_option maxHeartbeats 20000000 in
theorem playStmt_6 {g r : Nat} {w : World} (h : Pk w g r) (hk : nxP (w.alloc zSt) g 14 = 6) : Calls Tryz.prog 9 #[.pointer (some ⟨g,0,none⟩)] w (TeSf g r w StOK) := by
 have hgl := h.lt
 have hR0 : Bs (w.alloc zSt) w.heap.size (zS 0) := Bs.new w (zS 0)
 have hU0 : But g w (w.alloc zSt) := (But.refl g w).alloc _
 have hp0 := h.alloc zSt
 have HN : Hid _ := hid (num_exact hp0 14 (by decide) (by decide))
 clear h
 go_enter Tryz.func9,Tryz.ntmps9
 go_wp2_with fail
 refine Calls.mono HN.out ?_
 rintro e w2 ⟨r2,rfl,hk14,hl,hp2,hb2⟩
 generalize nxP (w.alloc zSt) g 14 = k at *
 have hU2 := hU0.trans hb2
 have hR2 := hR0.but hb2 (by omega)
 have hl2 := hl.1
 have HX : Hid (w.heap.size = w.heap.size) := hid rfl
 clear HN hU0 hR0 hp0 hb2 hl
 generalize hzz : w.heap.size = z at hR2 hgl HX ⊢
 replace HX : Hid (z = w.heap.size) := hid hzz.symm
 clear hzz
 have hzl2 := hR2.lt
 subst hk
 have g0 : (((6 : Nat) : Int) == 0) = false := by decide
 have g1 : (((6 : Nat) : Int) == 1) = false := by decide
 have g2 : (((6 : Nat) : Int) == 2) = false := by decide
 have g3 : (((6 : Nat) : Int) == 3) = false := by decide
 have g4 : (((6 : Nat) : Int) == 4) = false := by decide
 have g5 : (((6 : Nat) : Int) == 5) = false := by decide
 have HV : Hid _ := hid (view_any hp2)
 go_wp2_with fail
 refine Calls.mono HV.out ?_
 rintro e u ⟨nm1,r3,rfl,hnm,hl3,hp3,hE⟩
 have hRf : Bs u z (zS 0) := hR2.but hE (by omega)
 have cR := hRf.cells
 have fR := hRf.free
 have hzlf := hRf.lt
 have d0 := cR.1
 have d1 := cR.2.1
 have d2 := cR.2.2.1
 have d3 := cR.2.2.2.1
 have d4 := cR.2.2.2.2.1
 have d5 := cR.2.2.2.2.2.1
 have d6 := cR.2.2.2.2.2.2.1
 have d7 := cR.2.2.2.2.2.2.2.1
 have d8 := cR.2.2.2.2.2.2.2.2.1
 have d9 := cR.2.2.2.2.2.2.2.2.2.1
 have d10 := cR.2.2.2.2.2.2.2.2.2.2.1
 have d11 := cR.2.2.2.2.2.2.2.2.2.2.2.1
 have d12 := cR.2.2.2.2.2.2.2.2.2.2.2.2
 have f0 := fR.1
 have f1 := fR.2.1
 have f2 := fR.2.2.1
 have f3 := fR.2.2.2.1
 have f4 := fR.2.2.2.2.1
 have f5 := fR.2.2.2.2.2.1
 have f6 := fR.2.2.2.2.2.2.1
 have f7 := fR.2.2.2.2.2.2.2.1
 have f8 := fR.2.2.2.2.2.2.2.2.1
 have f9 := fR.2.2.2.2.2.2.2.2.2.1
 have f10 := fR.2.2.2.2.2.2.2.2.2.2.1
 have f11 := fR.2.2.2.2.2.2.2.2.2.2.2.1
 have f12 := fR.2.2.2.2.2.2.2.2.2.2.2.2
 clear cR fR
 have T : Hid (TeSf g r w StOK (.returned (stV (⟨13,⟨#[]⟩,nm1,(none,0,0),(none,0,0),(none,0,0),(none,0,0),⟨#[]⟩,(none,0,0),(none,0,0),(none,0,0),false,(none,0,0)⟩ : Sv))) (set13 u z (⟨13,⟨#[]⟩,nm1,(none,0,0),(none,0,0),(none,0,0),(none,0,0),⟨#[]⟩,(none,0,0),(none,0,0),(none,0,0),false,(none,0,0)⟩ : Sv))) := hid (TeSf.fin (m := (⟨13,⟨#[]⟩,nm1,[],[],[],[],⟨#[]⟩,[],[],[],false⟩,[])) (hU2.trans hE) { IsS.zero _ _ 13 with nm := rfl } (RowIs.nil _ _ _) (.inr (.inr (.inr (.inr (.inr (.inr (.inl ⟨nm1,hnm,rfl⟩))))))) (Nat.le_trans hl3 hl2) hp3 hgl HX.out)
 clear hRf HV hE hp3 hp2 hU2 hR2 hnm g0 g1 g2 g3 g4 g5
 unfold set13 at T
 unfold stV at T
 dsimp only at T
 go_wp2
 refine bodyPost_ret (v := stV (⟨13,⟨#[]⟩,nm1,(none,0,0),(none,0,0),(none,0,0),(none,0,0),⟨#[]⟩,(none,0,0),(none,0,0),(none,0,0),false,(none,0,0)⟩ : Sv)) (by simp [results,Tryz.results9,go_sem,stV,d0,d1,d2,d3,d4,d5,d6,d7,d8,d9,d10,d11,d12]) rfl ?_
 exact T.out
set_option maxRecDepth 100000 in
set_option maxHeartbeats 20000000 in
theorem playStmt_7 {g r : Nat} {w : World} (h : Pk w g r) (hk : 7 ≤ nxP (w.alloc zSt) g 14) : Calls Tryz.prog 9 #[.pointer (some ⟨g,0,none⟩)] w (TeSf g r w StOK) := by
 have hgl := h.lt
 have hR0 : Bs (w.alloc zSt) w.heap.size (zS 0) := Bs.new w (zS 0)
 have hU0 : But g w (w.alloc zSt) := (But.refl g w).alloc _
 have hp0 := h.alloc zSt
 have HN : Hid _ := hid (num_exact hp0 14 (by decide) (by decide))
 clear h
 go_enter Tryz.func9,Tryz.ntmps9
 go_wp2_with fail
 refine Calls.mono HN.out ?_
 rintro e w2 ⟨r2,rfl,hk14,hl,hp2,hb2⟩
 generalize nxP (w.alloc zSt) g 14 = k at *
 have hU2 := hU0.trans hb2
 have hR2 := hR0.but hb2 (by omega)
 have hl2 := hl.1
 have HX : Hid (w.heap.size = w.heap.size) := hid rfl
 clear HN hU0 hR0 hp0 hb2 hl
 generalize hzz : w.heap.size = z at hR2 hgl HX ⊢
 replace HX : Hid (z = w.heap.size) := hid hzz.symm
 clear hzz
 have hzl2 := hR2.lt
 have g0 : ((k : Int) == 0) = false := by simp; omega
 have g1 : ((k : Int) == 1) = false := by simp; omega
 have g2 : ((k : Int) == 2) = false := by simp; omega
 have g3 : ((k : Int) == 3) = false := by simp; omega
 have g4 : ((k : Int) == 4) = false := by simp; omega
 have g5 : ((k : Int) == 5) = false := by simp; omega
 have g6 : ((k : Int) == 6) = false := by simp; omega
 have HD : Hid _ := hid (playData_any hp2)
 go_wp2_with fail
 refine Calls.mono HD.out ?_
 rintro e u ⟨s,m,r3,rfl,hm,hl3,hp3,hE,hI,hinn⟩
 obtain ⟨sk,stb,snm,sco,sta,sva,sit,sjn,son,swh,sod,sds,sinn⟩ := s
 replace hinn : sinn = (none,0,0) := hinn
 subst hinn
 have hRf : Bs u z (zS 0) := hR2.but hE (by omega)
 have cR := hRf.cells
 have fR := hRf.free
 have hzlf := hRf.lt
 have d0 := cR.1
 have d1 := cR.2.1
 have d2 := cR.2.2.1
 have d3 := cR.2.2.2.1
 have d4 := cR.2.2.2.2.1
 have d5 := cR.2.2.2.2.2.1
 have d6 := cR.2.2.2.2.2.2.1
 have d7 := cR.2.2.2.2.2.2.2.1
 have d8 := cR.2.2.2.2.2.2.2.2.1
 have d9 := cR.2.2.2.2.2.2.2.2.2.1
 have d10 := cR.2.2.2.2.2.2.2.2.2.2.1
 have d11 := cR.2.2.2.2.2.2.2.2.2.2.2.1
 have d12 := cR.2.2.2.2.2.2.2.2.2.2.2.2
 have f0 := fR.1
 have f1 := fR.2.1
 have f2 := fR.2.2.1
 have f3 := fR.2.2.2.1
 have f4 := fR.2.2.2.2.1
 have f5 := fR.2.2.2.2.2.1
 have f6 := fR.2.2.2.2.2.2.1
 have f7 := fR.2.2.2.2.2.2.2.1
 have f8 := fR.2.2.2.2.2.2.2.2.1
 have f9 := fR.2.2.2.2.2.2.2.2.2.1
 have f10 := fR.2.2.2.2.2.2.2.2.2.2.1
 have f11 := fR.2.2.2.2.2.2.2.2.2.2.2.1
 have f12 := fR.2.2.2.2.2.2.2.2.2.2.2.2
 clear cR fR
 have T : Hid (TeSf g r w StOK (.returned (stV (⟨sk,stb,snm,sco,sta,sva,sit,sjn,son,swh,sod,sds,(none,0,0)⟩ : Sv))) (set13 u z (⟨sk,stb,snm,sco,sta,sva,sit,sjn,son,swh,sod,sds,(none,0,0)⟩ : Sv))) := hid (TeSf.fin (m := (m,[])) (hU2.trans hE) (hI.mono fun b hb _ => by omega) (RowIs.nil _ _ _) (.inr (.inr (.inr (.inr (.inr (.inr (.inr ⟨m,hm,rfl⟩))))))) (Nat.le_trans hl3.1 hl2) hp3 hgl HX.out)
 clear hRf HD hE hp3 hp2 hU2 hR2 hm hI g0 g1 g2 g3 g4 g5 g6
 unfold set13 at T
 unfold stV at T
 dsimp only at T
 unfold stV
 dsimp only
 go_wp2
 refine bodyPost_ret (v := stV (⟨sk,stb,snm,sco,sta,sva,sit,sjn,son,swh,sod,sds,(none,0,0)⟩ : Sv)) (by simp [results,Tryz.results9,go_sem,stV,d0,d1,d2,d3,d4,d5,d6,d7,d8,d9,d10,d11,d12]) rfl ?_
 exact T.out
theorem playStmt_any {g r : Nat} {w : World} (h : Pk w g r) : Calls Tryz.prog 9 #[.pointer (some ⟨g,0,none⟩)] w (TeSf g r w StOK) := by
 by_cases h0 : nxP (w.alloc zSt) g 14 = 0
 ·exact playStmt_0 h h0
 by_cases h1 : nxP (w.alloc zSt) g 14 = 1
 ·exact playStmt_1 h h1
 by_cases h2 : nxP (w.alloc zSt) g 14 = 2
 ·exact playStmt_2 h h2
 by_cases h3 : nxP (w.alloc zSt) g 14 = 3
 ·exact playStmt_3 h h3
 by_cases h4 : nxP (w.alloc zSt) g 14 = 4
 ·exact playStmt_4 h h4
 by_cases h5 : nxP (w.alloc zSt) g 14 = 5
 ·exact playStmt_5 h h5
 by_cases h6 : nxP (w.alloc zSt) g 14 = 6
 ·exact playStmt_6 h h6
 exact playStmt_7 h (by omega)
end Go.Proofs.YtfopfhlohihihaaGreat
