import Derived.Test.YtljmlacnfnmjbaaGreatTmag
namespace Go.Proofs.YtljmlacnfnmjbaaGreat
open Go.RowKit
set_option linter.unusedVariables false
set_option linter.unusedSimpArgs false

/-- The boxes of selected: schema,table,result. -/
structure Fb (w1 : World) (x y z bt ct : Nat) (va : Option Addr) (vn vc : Nat) (nm : ByteArray) (a : Option Addr) (n c : Nat) (a' : Option Addr) (n' c' : Nat) : Prop where
 sch : w1.heap[x]? = some (.cells #[.slice (some ⟨bt,0,none⟩) 2 ct,.slice va vn vc] 38 (0,0))
 tab : w1.heap[y]? = some (.cells #[.string nm,.slice a n c,.slice a' n' c'] 58 (0,0))
 res : Bs w1 z (zS 0)
theorem Fb.but {w1 w2 : World} {x y z bt ct : Nat} {va : Option Addr} {vn vc : Nat} {nm : ByteArray} {a : Option Addr} {n c : Nat} {a' : Option Addr} {n' c' g : Nat} (h : Fb w1 x y z bt ct va vn vc nm a n c a' n' c') (hb : But g w1 w2) (hx : x ≠ g) (hy : y ≠ g) (hz : z ≠ g) : Fb w2 x y z bt ct va vn vc nm a n c a' n' c' :=
 ⟨(hb.block x (Array.getElem?_eq_some_iff.1 h.sch).1 hx).trans h.sch,(hb.block y (Array.getElem?_eq_some_iff.1 h.tab).1 hy).trans h.tab,h.res.but hb hz⟩
theorem Fb.other {w1 : World} {x y z bt ct : Nat} {va : Option Addr} {vn vc : Nat} {nm : ByteArray} {a : Option Addr} {n c : Nat} {a' : Option Addr} {n' c' : Nat} (h : Fb w1 x y z bt ct va vn vc nm a n c a' n' c') {b : Nat} (hx : x ≠ b) (hy : y ≠ b) (hz : z ≠ b) (o : Nat) (v : Value) : Fb (w1.setCell ⟨b,o,none⟩ v) x y z bt ct va vn vc nm a n c a' n' c' :=
 ⟨(Below.heap_setCell _ _ _ _ hx).trans h.sch,(Below.heap_setCell _ _ _ _ hy).trans h.tab,h.res.other hz _ _⟩
theorem Fb.cells {w1 : World} {x y z bt ct : Nat} {va : Option Addr} {vn vc : Nat} {nm : ByteArray} {a : Option Addr} {n c : Nat} {a' : Option Addr} {n' c' : Nat} (h : Fb w1 x y z bt ct va vn vc nm a n c a' n' c') : w1.cell? ⟨x,0,none⟩ = some (.slice (some ⟨bt,0,none⟩) 2 ct) ∧ w1.cell? ⟨y,0,none⟩ = some (.string nm) ∧ w1.cell? ⟨y,1,none⟩ = some (.slice a n c) ∧ w1.cell? ⟨y,2,none⟩ = some (.slice a' n' c') := by
 unfold World.cell?
 rw [h.sch,h.tab]
 exact ⟨rfl,rfl,rfl,rfl⟩
theorem Fb.lt {w1 : World} {x y z bt ct : Nat} {va : Option Addr} {vn vc : Nat} {nm : ByteArray} {a : Option Addr} {n c : Nat} {a' : Option Addr} {n' c' : Nat} (h : Fb w1 x y z bt ct va vn vc nm a n c a' n' c') : x < w1.heap.size ∧ y < w1.heap.size ∧ z < w1.heap.size := ⟨(Array.getElem?_eq_some_iff.1 h.sch).1,(Array.getElem?_eq_some_iff.1 h.tab).1,h.res.lt⟩
theorem Fb.grown {w1 w2 : World} {x y z bt ct : Nat} {va : Option Addr} {vn vc : Nat} {nm : ByteArray} {a : Option Addr} {n c : Nat} {a' : Option Addr} {n' c' : Nat} {row : Option Nat} (h : Fb w1 x y z bt ct va vn vc nm a n c a' n' c') (hg : w1.grownBy w2 row) (hr : ∀ b,row = some b → x < b ∧ y < b ∧ z < b) : Fb w2 x y z bt ct va vn vc nm a n c a' n' c' :=
 ⟨(hg.block x h.lt.1 fun e => by have := (hr x e.symm).1; omega).trans h.sch,(hg.block y h.lt.2.1 fun e => by have := (hr y e.symm).2.1; omega).trans h.tab,bs_grown h.res hg fun b e => (hr b e).2.2⟩
abbrev zSt : Obj := .cells #[.int .i64 0,.string ⟨#[]⟩,.string ⟨#[]⟩,.slice none 0 0,.slice none 0 0,.slice none 0 0,.slice none 0 0,.string ⟨#[]⟩,.slice none 0 0,.slice none 0 0,.slice none 0 0,.bool false,.slice none 0 0] 43
abbrev sSt (nm : ByteArray) : Obj := .cells #[.int .i64 6,.string nm,.string ⟨#[]⟩,.slice none 0 0,.slice none 0 0,.slice none 0 0,.slice none 0 0,.string ⟨#[]⟩,.slice none 0 0,.slice none 0 0,.slice none 0 0,.bool false,.slice none 0 0] 43
theorem has1 {tb : Tab} (h : tb = tabT ∨ tb = tabU) : (∃ x ∈ colsOf tb,x.2 = 1) ∧ (∃ x ∈ colsOf tb,x.2 = 2) ∧ (colsOf tb).length = 3 := by
 rcases h with rfl | rfl
 ·exact ⟨⟨((0,⟨#[116]⟩,⟨#[107]⟩),1),by simp [colsOf,tabT],rfl⟩,⟨((0,⟨#[116]⟩,⟨#[118]⟩),2),by simp [colsOf,tabT],rfl⟩,rfl⟩
 ·exact ⟨⟨((0,⟨#[117]⟩,⟨#[114]⟩),1),by simp [colsOf,tabU],rfl⟩,⟨((0,⟨#[117]⟩,⟨#[107]⟩),2),by simp [colsOf,tabU],rfl⟩,rfl⟩
theorem RowIs.tabs {Q : Nat → Prop} {w : World} {bt ct : Nat} (h : RowIs eTab Q w (.slice (some ⟨bt,0,none⟩) 2 ct) [tabT,tabU]) : bt < w.heap.size ∧ Q bt ∧ 2 ≤ ct ∧ (∃ a n c a' n' c',w.cell? ⟨bt,0,none⟩ = some (.string ⟨#[116]⟩) ∧ w.cell? ⟨bt,1,none⟩ = some (.slice a n c) ∧ w.cell? ⟨bt,2,none⟩ = some (.slice a' n' c') ∧ RowIs eCol Q w (.slice a n c) tabT.2) ∧
  (∃ a n c a' n' c',w.cell? ⟨bt,3,none⟩ = some (.string ⟨#[117]⟩) ∧ w.cell? ⟨bt,4,none⟩ = some (.slice a n c) ∧ w.cell? ⟨bt,5,none⟩ = some (.slice a' n' c') ∧ RowIs eCol Q w (.slice a n c) tabU.2) := by
 obtain ⟨ao,n',c',hv,hl,hn,hc,hx⟩ := h
 cases hv
 obtain ⟨b,o,ha,hq,hi⟩ := hx (by decide)
 cases ha
 obtain ⟨cs,⟨a1,n1,c1,a2,n2,c2,e1,r1⟩,_,h1⟩ := hi 0 (by decide)
 obtain ⟨ds,⟨a3,n3,c3,a4,n4,c4,e2,r2⟩,_,h2⟩ := hi 1 (by decide)
 subst e1
 subst e2
 have h0 := h1 0 (show 0 < 3 by decide)
 exact ⟨World.block_lt_of_cell? _ _ h0,hq,hn,⟨a1,n1,c1,a2,n2,c2,h0,h1 1 (show 1 < 3 by decide),h1 2 (show 2 < 3 by decide),r1⟩,⟨a3,n3,c3,a4,n4,c4,h2 0 (show 0 < 3 by decide),h2 1 (show 1 < 3 by decide),h2 2 (show 2 < 3 by decide),r2⟩⟩
/-- A row of items of the call's own,read. -/
theorem own_row {B2 B : Nat} {w : World} {ao : Option Addr} {n c : Nat} {l : List It} (h : OwnR 66 3 B2 w (.slice ao n c) (l.map itC)) (hB : B ≤ B2) : RowIs eItem (fun b => B ≤ b) w (.slice ao n c) l := by
 cases l with
 | nil =>
  rcases h.2.2 with ⟨e,_⟩ | ⟨b,cap,cur,e,hb,hg,hnc,hc,_⟩
  ·cases e; exact RowIs.nil _ _ _
  ·cases e
   exact ⟨_,0,_,rfl,rfl,Nat.zero_le _,by simpa [maxLen] using hc,fun h => absurd h (Nat.lt_irrefl _)⟩
 | cons x l => exact OwnR.row (e := eItem) h (by simp) (by simp) (fun b hb _ => by omega) fun i hi hj => by rw [List.getElem_map]; rfl
/-- The relation behind the join. -/
def JoinR (g r : Nat) (w : World) (x y z q bt ct : Nat) (va : Option Addr) (vn vc : Nat) (tb : Tab) (a : Option Addr) (n c : Nat) (a' : Option Addr) (n' c' : Nat) (v8 v9 : Value) (w' : World) : Prop :=
 ∃ (C : Cl2) (B : Nat) (i1 : Option Addr) (j1 : Nat) (i2 : Option Addr) (j2 : Nat) (j : ByteArray) (on : List Tr) (s : Sv) (r2 : Nat),v8 = .slice i1 C.length j1 ∧ v9 = .slice i2 C.length j2 ∧ OwnR 66 3 (q + 1) w' (.slice i1 C.length j1) (C.map fun x => itC x.1) ∧ OwnR 3 1 (q + 1) w' (.slice i2 C.length j2) (C.map fun x => [.int .i64 x.2]) ∧ C.length ≤ 100 ∧ (∃ x ∈ C,x.2 = 1) ∧ (∃ x ∈ C,x.2 = 2) ∧ q < B ∧ B ≤ w'.heap.size ∧ JnOK tb C j on ∧ Fb w' x y z bt ct va vn vc tb.1 a n c a' n' c' ∧ Sj g B q w w' ⟨6,tb.1,⟨#[]⟩,[],[],[],[],j,on,[],[],false⟩ s ∧ s.it = (none,0,0) ∧ Pk w' g r2 ∧ Less r r2

set_option maxRecDepth 100000 in
set_option maxHeartbeats 20000000 in
theorem playSel_any {g r : Nat} {w : World} (h : Pk w g r) {bt ct : Nat} {va : Option Addr} {vn vc : Nat} (hT : RowIs eTab (fun b => b ≠ g) w (.slice (some ⟨bt,0,none⟩) 2 ct) [tabT,tabU]) {tb : Tab} (htb : tb = tabT ∨ tb = tabU) {a a' : Option Addr} {n c n' c' : Nat} (hc : RowIs eCol (fun b => b ≠ g) w (.slice a n c) tb.2) :
  Calls Tryz.prog 42 #[.pointer (some ⟨g,0,none⟩),.agg #[.slice (some ⟨bt,0,none⟩) 2 ct,.slice va vn vc],.agg #[.string tb.1,.slice a n c,.slice a' n' c']] w (TeSt g r w (SelOK tb)) := by
 have hgl := h.lt
 have hb0 := bal (bal (bal (bal (Below.refl _ w) (.cells #[.slice (some ⟨bt,0,none⟩) 2 ct,.slice va vn vc] 38)) (.cells #[.string tb.1,.slice a n c,.slice a' n' c'] 58)) zSt) (sSt tb.1)
 have hF0 : Fb ((((w.alloc (.cells #[.slice (some ⟨bt,0,none⟩) 2 ct,.slice va vn vc] 38)).alloc (.cells #[.string tb.1,.slice a n c,.slice a' n' c'] 58)).alloc zSt).alloc (sSt tb.1)) w.heap.size (w.heap.size + 1) (w.heap.size + 1 + 1) bt ct va vn vc tb.1 a n c a' n' c' := by
  refine ⟨?_,?_,?_⟩
  ·exact ((bal (bal (bal (Below.refl _ _) _) _) _).block _ (by simp)).trans (heap_alloc_new w _)
  ·have := heap_alloc_new (w.alloc (.cells #[.slice (some ⟨bt,0,none⟩) 2 ct,.slice va vn vc] 38)) (.cells #[.string tb.1,.slice a n c,.slice a' n' c'] 58)
   rw [World.size_alloc] at this
   exact ((bal (bal (Below.refl _ _) _) _).block _ (by simp)).trans this
  ·have := Bs.new ((w.alloc (.cells #[.slice (some ⟨bt,0,none⟩) 2 ct,.slice va vn vc] 38)).alloc (.cells #[.string tb.1,.slice a n c,.slice a' n' c'] 58)) (zS 0)
   rw [World.size_alloc,World.size_alloc] at this
   exact this.later (bal (Below.refl _ _) _)
 have hU0 : But g w ((((w.alloc (.cells #[.slice (some ⟨bt,0,none⟩) 2 ct,.slice va vn vc] 38)).alloc (.cells #[.string tb.1,.slice a n c,.slice a' n' c'] 58)).alloc zSt).alloc (sSt tb.1)) := But.of hb0
 have hV0 : Bs ((((w.alloc (.cells #[.slice (some ⟨bt,0,none⟩) 2 ct,.slice va vn vc] 38)).alloc (.cells #[.string tb.1,.slice a n c,.slice a' n' c'] 58)).alloc zSt).alloc (sSt tb.1)) (w.heap.size + 1 + 1 + 1) { zS 6 with tb := tb.1 } := by
  have := Bs.new (((w.alloc (.cells #[.slice (some ⟨bt,0,none⟩) 2 ct,.slice va vn vc] 38)).alloc (.cells #[.string tb.1,.slice a n c,.slice a' n' c'] 58)).alloc zSt) { zS 6 with tb := tb.1 }
  rw [World.size_alloc,World.size_alloc,World.size_alloc] at this
  exact this
 have hp0 := h.later hb0
 have hT0 : RowIs eTab (fun b => b ≠ g ∧ b < w.heap.size) _ (.slice (some ⟨bt,0,none⟩) 2 ct) [tabT,tabU] := (hT.mono (by decide) (Q' := fun b => b ≠ g ∧ b < w.heap.size) fun b hb hl => ⟨hb,hl⟩).keep (by decide) fun b _ hl => hb0.block b hl
 have hc0 : RowIs eCol (fun b => b ≠ g) _ (.slice a n c) tb.2 := hc.keep (by decide) fun b _ hl => hb0.block b hl
 have hz0 : ((((w.alloc (.cells #[.slice (some ⟨bt,0,none⟩) 2 ct,.slice va vn vc] 38)).alloc (.cells #[.string tb.1,.slice a n c,.slice a' n' c'] 58)).alloc zSt).alloc (sSt tb.1)).heap.size = w.heap.size + 4 := by simp
 clear h hT hc hb0
 obtain ⟨⟨x1,hx1,e1⟩,⟨x2,hx2,e2⟩,hl3⟩ := has1 htb
 have hone : ∃ x ∈ colsOf tb,x.2 = 1 := ⟨x1,hx1,e1⟩
 have htwo : ∃ x ∈ colsOf tb,x.2 = 2 := ⟨x2,hx2,e2⟩
 have hcl : tb.2.length = 3 := by rw [colsOf,List.length_map] at hl3; exact hl3
 clear hx1 e1 hx2 e2
 go_enter Tryz.func42,Tryz.ntmps42
 go_upto_region 2 with fail
 generalize (((w.alloc (.cells #[.slice (some ⟨bt,0,none⟩) 2 ct,.slice va vn vc] 38)).alloc (.cells #[.string tb.1,.slice a n c,.slice a' n' c'] 58)).alloc zSt).alloc (sSt tb.1) = W at *
 have hqe : w.heap.size + 1 + 1 + 1 = w.heap.size + 3 := rfl
 generalize hq3e : w.heap.size + 1 + 1 + 1 = q at *
 generalize hz2e : w.heap.size + 1 + 1 = zz at *
 generalize hy1e : w.heap.size + 1 = zy at *
 generalize hx0e : w.heap.size = zx at *
 have hzq : zz < q := by omega
 have hyz : zy < zz := by omega
 have hxy : zx < zy := by omega
 have hz4 : W.heap.size = q + 1 := by omega
 have HX : Hid (zx = w.heap.size) := hid hx0e.symm
 clear hq3e hz2e hy1e hqe hz0 hx0e
 obtain ⟨k0,k1,k2,k3⟩ := hF0.cells
 obtain ⟨hlx,hly,hlz⟩ := hF0.lt
 have HC : Hid _ := hid (playCols_any (nm := tb.1) (a' := a') (n' := n') (c' := c') hc0 (by omega))
 go_wp2_with fail
 refine Calls.mono HC.out ?_
 rintro e w1 ⟨v1,v2,rfl,ho1,ho2,hap,hb1⟩
 rw [hz4] at ho1 ho2
 have hF1 := hF0.but (But.of (g := g) hb1) (by omega) (by omega) (by omega)
 have hU1 := hU0.trans (But.of hb1)
 have hV1 := hV0.later hb1
 have hp1 := hp0.later hb1
 have hT1 := hT0.keep (by decide) fun b _ hl => hb1.block b hl
 have ho1' : OwnR 66 3 (q + 1) w1 v1 ((colsOf tb).map fun x => itC x.1) := by rw [colsOf,List.map_map]; exact ho1
 have ho2' : OwnR 3 1 (q + 1) w1 v2 ((colsOf tb).map fun x => [.int .i64 x.2]) := by rw [colsOf,List.map_map]; exact ho2
 have hs1 : q + 1 ≤ w1.heap.size := by have := hb1.size; omega
 have HN : Hid _ := hid (num_any hp1 4 (by decide) (by decide))
 clear HC ho1 ho2 hF0 hU0 hV0 hp0 hT0 hc0 hb1 k0 k1 k2 k3 hlx hly hlz hz4
 obtain ⟨i1,m1,j1,rfl⟩ := ho1'.sl
 obtain ⟨i2,m2,j2,rfl⟩ := ho2'.sl
 go_wp2_with fail
 refine Calls.mono HN.out ?_
 rintro e w2 ⟨k,r2,rfl,hk,hl2,hp2,hb2⟩
 have hF2 := hF1.but hb2 (by omega) (by omega) (by omega)
 have hU2 := hU1.trans hb2
 have hV2 := hV1.but hb2 (by omega)
 have hT2 := hT1.keep (by decide) fun b hq hl => hb2.block b hl hq.1
 have hoI := ho1'.but hb2 (by omega)
 have hoK := ho2'.but hb2 (by omega)
 have hs2 := hb2.size
 clear HN hF1 hU1 hV1 hp1 hT1 ho1' ho2' hb2
 go_upto_if 36 with fail
 go_cut [8,9] (fun v8 v9 w' => JoinR g r w zx zy zz q bt ct va vn vc tb a n c a' n' c' v8 v9 w')
 case first =>
  by_cases h0 : k = 0
  ·subst h0
   obtain ⟨hbt,hqt,hct,⟨x1,y1,z1,x1',y1',z1',t0,t1,t2,rT⟩,⟨x2,y2,z2,x2',y2',z2',u0,u1,u2,rU⟩⟩ := hT2.tabs
   obtain ⟨k0,k1,k2,k3⟩ := hF2.cells
   obtain ⟨hlx,hly,hlz⟩ := hF2.lt
   have y3 := hV2
   have c7 : w2.cell? ⟨q,7,none⟩ = some (.string ⟨#[]⟩) := y3.cells.2.2.2.2.2.2.2.1
   have f7 := y3.free.2.2.2.2.2.2.2.1
   have hq3 := y3.lt
   rcases htb with rfl | rfl
   ·have e : (tabT.1.toList == [116]) = true := by decide +kernel
    have hoth : oth tabT = tabU := rfl
    have hb3 := bal (Below.refl _ (w2.setCell ⟨q,7,none⟩ (.string ⟨#[117]⟩))) (.cells #[.string ⟨#[117]⟩,.slice x2 y2 z2,.slice x2' y2' z2'] 58)
    have hU3 := (hU2.new (r := q) (by rw [← HX.out]; omega) 7 (.string ⟨#[117]⟩)).trans (But.of hb3)
    have hV3 : Bs ((w2.setCell ⟨q,7,none⟩ (.string ⟨#[117]⟩)).alloc (.cells #[.string ⟨#[117]⟩,.slice x2 y2 z2,.slice x2' y2' z2'] 58)) q { zS 6 with tb := tabT.1,jn := tabU.1 } := (hV2.set7 tabU.1).later hb3
    have hF3 := (hF2.other (b := q) (by omega) (by omega) (by omega) 7 (.string ⟨#[117]⟩)).but (But.of (g := g) hb3) (by omega) (by omega) (by omega)
    have hp3 := (hp2.other (b := q) (by omega) 7 (.string ⟨#[117]⟩)).later hb3
    have hoI3 := (hoI.set (by omega : q < q + 1) 7 (.string ⟨#[117]⟩)).later hb3
    have hoK3 := (hoK.set (by omega : q < q + 1) 7 (.string ⟨#[117]⟩)).later hb3
    have rO3 : RowIs eCol (fun b => b ≠ g ∧ b < zx) ((w2.setCell ⟨q,7,none⟩ (.string ⟨#[117]⟩)).alloc (.cells #[.string ⟨#[117]⟩,.slice x2 y2 z2,.slice x2' y2' z2'] 58)) (.slice x2 y2 z2) tabU.2 := (rU.keep (by decide) fun b hb _ => Below.heap_setCell _ _ _ _ (by show b ≠ q; omega)).keep (by decide) fun b _ hl => hb3.block b hl
    have q0 : ((w2.setCell ⟨q,7,none⟩ (.string ⟨#[117]⟩)).alloc (.cells #[.string ⟨#[117]⟩,.slice x2 y2 z2,.slice x2' y2' z2'] 58)).cell? ⟨w2.heap.size,0,none⟩ = some (.string ⟨#[117]⟩) := cell_new_at (size_set _ _ _) 0
    have q1 : ((w2.setCell ⟨q,7,none⟩ (.string ⟨#[117]⟩)).alloc (.cells #[.string ⟨#[117]⟩,.slice x2 y2 z2,.slice x2' y2' z2'] 58)).cell? ⟨w2.heap.size,1,none⟩ = some (.slice x2 y2 z2) := cell_new_at (size_set _ _ _) 1
    have q2 : ((w2.setCell ⟨q,7,none⟩ (.string ⟨#[117]⟩)).alloc (.cells #[.string ⟨#[117]⟩,.slice x2 y2 z2,.slice x2' y2' z2'] 58)).cell? ⟨w2.heap.size,2,none⟩ = some (.slice x2' y2' z2') := cell_new_at (size_set _ _ _) 2
    have hs3 : ((w2.setCell ⟨q,7,none⟩ (.string ⟨#[117]⟩)).alloc (.cells #[.string ⟨#[117]⟩,.slice x2 y2 z2,.slice x2' y2' z2'] 58)).heap.size = w2.heap.size + 1 := by simp [World.setCell]
    go_upto_region 8 with fail
    generalize (w2.setCell ⟨q,7,none⟩ (.string ⟨#[117]⟩)).alloc (.cells #[.string ⟨#[117]⟩,.slice x2 y2 z2,.slice x2' y2' z2'] 58) = W3 at *
    have hblI := hoI.blk
    have hblK := hoK.blk
    clear hU2 hV2 hF2 hp2 hoI hoK hT2 rT rU k0 k1 k2 k3 hlx hly hlz c7 f7 y3 t0 t1 t2 u0 u1 u2 hb3 hq3
    have hqo : w2.heap.size < W3.heap.size := by omega
    generalize w2.heap.size = qo at *
    have HC : Hid _ := hid (playCols_any (nm := ⟨#[117]⟩) (a' := x2') (n' := y2') (c' := z2') rO3 (by decide))
    go_wp2_with fail
    refine Calls.mono HC.out ?_
    rintro e w4 ⟨v3,v4,rfl,ho3,ho4,hap4,hb4⟩
    have hU4 := hU3.trans (But.of hb4)
    have hV4 := hV3.later hb4
    have hF4 := hF3.but (But.of (g := g) hb4) (by omega) (by omega) (by omega)
    have hp4 := hp3.later hb4
    have hoI4 := hoI3.later hb4
    have hoK4 := hoK3.later hb4
    have hbl3 := ho3.blk
    have hbl4 := ho4.blk
    have ho3' := ho3.base (B' := q + 1) (by omega)
    have ho4' := ho4.base (B' := q + 1) (by omega)
    have hs4 := hb4.size
    have apI4 : Apart (.slice i1 m1 j1) v4 := fun b hb hv => by have := (hblI b hb).2; have := (hbl4 b hv).1; omega
    clear HC hU3 hV3 hF3 hp3 hoI3 hoK3 rO3 q0 q1 q2 ho3 ho4 hb4
    obtain ⟨i3,m3,j3,rfl⟩ := ho3'.sl
    obtain ⟨i4,m4,j4,rfl⟩ := ho4'.sl
    go_upto_region 9 with fail
    go_wp2_with (first | (at_builtin; refine wpList_appN Tryz.underlying22 Tryz.infoTItem rfl (by decide) (by decide) rfl (.tmp 56) (.tmp 57) rfl _ _ _ _ rfl rfl hoI4 ho3' (by simp [tabU]) (by simp [tabU,itC,Value.oneCell']) (by rw [List.length_map,hl3]; decide) (by omega) ?_) | fail)
    intro v5 w5 hO5 hg5 hown5
    have hoK5 := hoK4.far hg5 hap
    have ho45 := ho4'.far hg5 apI4
    have hU5 := hU4.grown hg5 (fun b hb => by have := (hblI b hb).1; rw [← HX.out]; omega)
    have hV5 := bs_grown hV4 hg5 (fun b hb => by have := (hblI b hb).1; omega)
    have hF5 := hF4.grown hg5 (fun b hb => by have := (hblI b hb).1; omega)
    have hp5 := hp4.grown hg5 (fun b hb => by have := (hblI b hb).1; omega)
    have ap5 : Apart v5 (.slice i2 m2 j2) := Apart.grew hap hoK4 hown5
    have hs5 := hg5.size
    clear hU4 hV4 hF4 hp4 hoI4 hoK4 ho3' ho4' hg5 hown5 apI4
    go_wp2_with (first | (at_builtin; refine wpList_appN Tryz.underlying23 Tryz.infoTInt rfl (by decide) (by decide) rfl (.tmp 59) (.tmp 60) rfl _ _ _ _ rfl rfl hoK5 ho45 (by simp [tabU]) (by simp [tabU,Value.oneCell']) (by rw [List.length_map,hl3]; decide) (by omega) ?_) | fail)
    intro v6 w6 hO6 hg6 hown6
    have hO5' := hO5.far hg6 ap5.symm
    have hU6 := hU5.grown hg6 (fun b hb => by have := (hblK b hb).1; rw [← HX.out]; omega)
    have hV6 := bs_grown hV5 hg6 (fun b hb => by have := (hblK b hb).1; omega)
    have hF6 := hF5.grown hg6 (fun b hb => by have := (hblK b hb).1; omega)
    have hp6 := hp5.grown hg6 (fun b hb => by have := (hblK b hb).1; omega)
    have hs6 := hg6.size
    obtain ⟨i5,m5,j5,rfl⟩ := hO5'.sl
    obtain ⟨i6,m6,j6,rfl⟩ := hO6.sl
    have hx1 : OwnR 66 3 (q + 1) w6 (.slice i5 m5 j5) ((colsOf tabT ++ colsOf tabU).map fun x => itC x.1) := by rw [List.map_append]; exact hO5'
    have hx2 : OwnR 3 1 (q + 1) w6 (.slice i6 m6 j6) ((colsOf tabT ++ colsOf tabU).map fun x => [.int .i64 x.2]) := by rw [List.map_append]; exact hO6
    obtain ⟨e5,e6,hC6⟩ := Cols.of (g := g) hx1 hx2 (by omega) (by decide) (by obtain ⟨x,hx,e⟩ := hone; exact ⟨x,List.mem_append_left _ hx,e⟩) (by obtain ⟨x,hx,e⟩ := htwo; exact ⟨x,List.mem_append_left _ hx,e⟩)
    have HCe : Hid (colsOf tabT ++ colsOf (oth tabT) = colsOf tabT ++ colsOf tabU) := hid (by rw [hoth])
    generalize hCg : colsOf tabT ++ colsOf tabU = C at *
    subst e5
    subst e6
    have HN : Hid _ := hid (num_any hp6 2 (by decide) (by decide))
    clear hU5 hV5 hF5 hp5 hO5 hO5' hO6 hoK5 ho45 hg6 hown6 ap5 hCg hap hap4 hblI hblK hbl3 hbl4
    go_wp2_with fail
    refine Calls.mono HN.out ?_
    rintro e w7 ⟨k7,r7,rfl,hk7,hl7,hp7,hb7⟩
    have hC7 := hC6.but hb7
    have hU7 := hU6.trans hb7
    have hV7 := hV6.but hb7 (by omega)
    have hx17 := hx1.but hb7 (by omega)
    have hx27 := hx2.but hb7 (by omega)
    have hF7 := hF6.but hb7 (by omega) (by omega) (by omega)
    have hkd : (1 : Int) + (k7 : Int) = 1 ∨ (1 : Int) + (k7 : Int) = 2 := by omega
    have HK7 : Hid _ := hid (col_any hp7 hC7.its hC7.kds hC7.few (1 + (k7 : Int)) (hC7.has hkd))
    have hs7 := hb7.size
    clear HN hC6 hU6 hV6 hx1 hx2 hF6 hp6 hb7
    go_wp2_with fail
    refine Calls.mono HK7.out ?_
    rintro e w8 ⟨t8,n8,r8,rfl,hcol8,hl8,hp8',hb8⟩
    have hb8' := bal (Below.refl _ w8) (.cells #[.int .i64 2,.int .i64 0,.int .i64 0,.string ⟨#[]⟩,.string t8,.string n8,.slice none 0 0] 28)
    have hC8 := (hC7.but hb8).but (But.of hb8')
    have hU8 := (hU7.trans hb8).trans (But.of hb8')
    have hV8 := (hV7.but hb8 (by omega)).later hb8'
    have hx18 := (hx17.but hb8 (by omega)).later hb8'
    have hx28 := (hx27.but hb8 (by omega)).later hb8'
    have hF8 := (hF7.but hb8 (by omega) (by omega) (by omega)).but (But.of (g := g) hb8') (by omega) (by omega) (by omega)
    have hp8 := hp8'.later hb8'
    have x8e := Be.new w8 2 (0,0,⟨#[]⟩,t8,n8) (.slice none 0 0)
    simp only at x8e
    have hs8 := hb8.size
    have hs8' : (w8.alloc (.cells #[.int .i64 2,.int .i64 0,.int .i64 0,.string ⟨#[]⟩,.string t8,.string n8,.slice none 0 0] 28)).heap.size = w8.heap.size + 1 := by simp
    unfold exV
    simp only
    go_upto_region 12 with fail
    generalize w8.alloc (.cells #[.int .i64 2,.int .i64 0,.int .i64 0,.string ⟨#[]⟩,.string t8,.string n8,.slice none 0 0] 28) = w8b at *
    generalize w8.heap.size = qe8 at *
    have HK8 : Hid _ := hid (col_any hp8 hC8.its hC8.kds hC8.few (1 + (k7 : Int)) (hC8.has hkd))
    clear HK7 hC7 hU7 hV7 hx17 hx27 hF7 hp7 hp8' hb8 hb8'
    go_wp2_with fail
    refine Calls.mono HK8.out ?_
    rintro e w9 ⟨t9,n9,r9,rfl,hcol9,hl9,hp9',hb9⟩
    have hb9' := bal (Below.refl _ w9) (.cells #[.int .i64 2,.int .i64 0,.int .i64 0,.string ⟨#[]⟩,.string t9,.string n9,.slice none 0 0] 28)
    have hC9 := (hC8.but hb9).but (But.of hb9')
    have hU9 := (hU8.trans hb9).trans (But.of hb9')
    have hV9 := (hV8.but hb9 (by omega)).later hb9'
    have hx19 := (hx18.but hb9 (by omega)).later hb9'
    have hx29 := (hx28.but hb9 (by omega)).later hb9'
    have hF9 := (hF8.but hb9 (by omega) (by omega) (by omega)).but (But.of (g := g) hb9') (by omega) (by omega) (by omega)
    have hp9 := hp9'.later hb9'
    have x9e := Be.new w9 2 (0,0,⟨#[]⟩,t9,n9) (.slice none 0 0)
    simp only at x9e
    have hs9 := hb9.size
    have hs9' : (w9.alloc (.cells #[.int .i64 2,.int .i64 0,.int .i64 0,.string ⟨#[]⟩,.string t9,.string n9,.slice none 0 0] 28)).heap.size = w9.heap.size + 1 := by simp
    have x8f := (x8e.but hb9 (by omega)).later hb9'
    unfold exV
    simp only
    go_upto_region 13 with fail
    generalize w9.alloc (.cells #[.int .i64 2,.int .i64 0,.int .i64 0,.string ⟨#[]⟩,.string t9,.string n9,.slice none 0 0] 28) = w9b at *
    generalize w9.heap.size = qe9 at *
    clear HK8 hC8 hU8 hV8 hx18 hx28 hF8 hp8 hp9' hb9 hb9' x8e
    have hS9q : Sj g (qe9 + 1) q w w9b ⟨6,tabT.1,⟨#[]⟩,[],[],[],[],tabU.1,[],[],[],false⟩ _ := ⟨hU9,hV9,{ IsS.zero _ _ 6 with tb := rfl,jn := rfl },rfl⟩
    have cy8 := hV9.cells.2.2.2.2.2.2.2.2.1
    have fy8 := hV9.free.2.2.2.2.2.2.2.2.1
    have hyq := hV9.lt
    obtain ⟨k0,k1,k2,k3,k4,k5,k6⟩ := x8f.cells
    obtain ⟨d0,d1,d2,d3,d4,d5,d6⟩ := x9e.cells
    have hl8' := x8f.lt
    have hl9' := x9e.lt
    have hb10 := bal (Below.refl _ w9b) (.cells #[.int .i64 2,.int .i64 0,.int .i64 0,.string ⟨#[]⟩,.string t8,.string n8,.slice none 0 0,.int .i64 2,.int .i64 0,.int .i64 0,.string ⟨#[]⟩,.string t9,.string n9,.slice none 0 0] 28)
    have hrow : RowIs eExpr (fun b => qe9 + 1 ≤ b) (w9b.alloc (.cells #[.int .i64 2,.int .i64 0,.int .i64 0,.string ⟨#[]⟩,.string t8,.string n8,.slice none 0 0,.int .i64 2,.int .i64 0,.int .i64 0,.string ⟨#[]⟩,.string t9,.string n9,.slice none 0 0] 28)) (.slice (some ⟨w9b.heap.size,0,none⟩) 2 2) [tCol t8 n8,tCol t9 n9] := rowC2 w9b _ _ _ _ (by omega)
    have hS10 := (hS9q.later hb10).on (v := (some ⟨w9b.heap.size,0,none⟩,2,2)) (by rw [← HX.out]; omega) (by omega) hrow
    have hF10 := (hF9.but (But.of (g := g) hb10) (by omega) (by omega) (by omega)).other (b := q) (by omega) (by omega) (by omega) 8 (.slice (some ⟨w9b.heap.size,0,none⟩) 2 2)
    have hp10 := (hp9.later hb10).other (b := q) (by omega) 8 (.slice (some ⟨w9b.heap.size,0,none⟩) 2 2)
    have hx110 := (hx19.later hb10).set (by omega : q < q + 1) 8 (.slice (some ⟨w9b.heap.size,0,none⟩) 2 2)
    have hx210 := (hx29.later hb10).set (by omega : q < q + 1) 8 (.slice (some ⟨w9b.heap.size,0,none⟩) 2 2)
    simp only at hS10
    rw [World.setCell_alloc_past _ _ _ _ hyq] at hS10 hF10 hp10 hx110 hx210
    have HJ : Hid (JoinR g r w zx zy zz q bt ct va vn vc tabT a n c a' n' c' (.slice i5 C.length j5) (.slice i6 C.length j6) _) := hid ⟨C,qe9 + 1,i5,j5,i6,j6,_,_,_,r9,rfl,rfl,hx110,hx210,hC9.few,hC9.one,hC9.two,by omega,by simp [World.setCell]; omega,.inr ⟨HCe.out.symm,by rw [hoth],1 + (k7 : Int),t8,n8,t9,n9,hkd,hcol8,hcol9,rfl⟩,hF10,hS10,rfl,hp10,hl2.on (by have := hl7.1; omega)⟩
    clear hS10 hF10 hp10 hx110 hx210 hrow hb10 hS9q hU9 hV9 hx19 hx29 hF9 hp9 hC9 x8f x9e hcol8 hcol9 hs8' hs9'
    simp only at k0 k1 k2 k3 k4 k5 k6 d0 d1 d2 d3 d4 d5 d6 cy8 fy8
    go_wp2_with fail
    go_meet
    exact HJ.out
   ·have e : (tabU.1.toList == [116]) = false := by decide +kernel
    have hoth : oth tabU = tabT := rfl
    have hb3 := bal (Below.refl _ (w2.setCell ⟨q,7,none⟩ (.string ⟨#[116]⟩))) (.cells #[.string ⟨#[116]⟩,.slice x1 y1 z1,.slice x1' y1' z1'] 58)
    have hU3 := (hU2.new (r := q) (by rw [← HX.out]; omega) 7 (.string ⟨#[116]⟩)).trans (But.of hb3)
    have hV3 : Bs ((w2.setCell ⟨q,7,none⟩ (.string ⟨#[116]⟩)).alloc (.cells #[.string ⟨#[116]⟩,.slice x1 y1 z1,.slice x1' y1' z1'] 58)) q { zS 6 with tb := tabU.1,jn := tabT.1 } := (hV2.set7 tabT.1).later hb3
    have hF3 := (hF2.other (b := q) (by omega) (by omega) (by omega) 7 (.string ⟨#[116]⟩)).but (But.of (g := g) hb3) (by omega) (by omega) (by omega)
    have hp3 := (hp2.other (b := q) (by omega) 7 (.string ⟨#[116]⟩)).later hb3
    have hoI3 := (hoI.set (by omega : q < q + 1) 7 (.string ⟨#[116]⟩)).later hb3
    have hoK3 := (hoK.set (by omega : q < q + 1) 7 (.string ⟨#[116]⟩)).later hb3
    have rO3 : RowIs eCol (fun b => b ≠ g ∧ b < zx) ((w2.setCell ⟨q,7,none⟩ (.string ⟨#[116]⟩)).alloc (.cells #[.string ⟨#[116]⟩,.slice x1 y1 z1,.slice x1' y1' z1'] 58)) (.slice x1 y1 z1) tabT.2 := (rT.keep (by decide) fun b hb _ => Below.heap_setCell _ _ _ _ (by show b ≠ q; omega)).keep (by decide) fun b _ hl => hb3.block b hl
    have q0 : ((w2.setCell ⟨q,7,none⟩ (.string ⟨#[116]⟩)).alloc (.cells #[.string ⟨#[116]⟩,.slice x1 y1 z1,.slice x1' y1' z1'] 58)).cell? ⟨w2.heap.size,0,none⟩ = some (.string ⟨#[116]⟩) := cell_new_at (size_set _ _ _) 0
    have q1 : ((w2.setCell ⟨q,7,none⟩ (.string ⟨#[116]⟩)).alloc (.cells #[.string ⟨#[116]⟩,.slice x1 y1 z1,.slice x1' y1' z1'] 58)).cell? ⟨w2.heap.size,1,none⟩ = some (.slice x1 y1 z1) := cell_new_at (size_set _ _ _) 1
    have q2 : ((w2.setCell ⟨q,7,none⟩ (.string ⟨#[116]⟩)).alloc (.cells #[.string ⟨#[116]⟩,.slice x1 y1 z1,.slice x1' y1' z1'] 58)).cell? ⟨w2.heap.size,2,none⟩ = some (.slice x1' y1' z1') := cell_new_at (size_set _ _ _) 2
    have hs3 : ((w2.setCell ⟨q,7,none⟩ (.string ⟨#[116]⟩)).alloc (.cells #[.string ⟨#[116]⟩,.slice x1 y1 z1,.slice x1' y1' z1'] 58)).heap.size = w2.heap.size + 1 := by simp [World.setCell]
    go_upto_region 8 with fail
    generalize (w2.setCell ⟨q,7,none⟩ (.string ⟨#[116]⟩)).alloc (.cells #[.string ⟨#[116]⟩,.slice x1 y1 z1,.slice x1' y1' z1'] 58) = W3 at *
    have hblI := hoI.blk
    have hblK := hoK.blk
    clear hU2 hV2 hF2 hp2 hoI hoK hT2 rT rU k0 k1 k2 k3 hlx hly hlz c7 f7 y3 t0 t1 t2 u0 u1 u2 hb3 hq3
    have hqo : w2.heap.size < W3.heap.size := by omega
    generalize w2.heap.size = qo at *
    have HC : Hid _ := hid (playCols_any (nm := ⟨#[116]⟩) (a' := x1') (n' := y1') (c' := z1') rO3 (by decide))
    go_wp2_with fail
    refine Calls.mono HC.out ?_
    rintro e w4 ⟨v3,v4,rfl,ho3,ho4,hap4,hb4⟩
    have hU4 := hU3.trans (But.of hb4)
    have hV4 := hV3.later hb4
    have hF4 := hF3.but (But.of (g := g) hb4) (by omega) (by omega) (by omega)
    have hp4 := hp3.later hb4
    have hoI4 := hoI3.later hb4
    have hoK4 := hoK3.later hb4
    have hbl3 := ho3.blk
    have hbl4 := ho4.blk
    have ho3' := ho3.base (B' := q + 1) (by omega)
    have ho4' := ho4.base (B' := q + 1) (by omega)
    have hs4 := hb4.size
    have apI4 : Apart (.slice i1 m1 j1) v4 := fun b hb hv => by have := (hblI b hb).2; have := (hbl4 b hv).1; omega
    clear HC hU3 hV3 hF3 hp3 hoI3 hoK3 rO3 q0 q1 q2 ho3 ho4 hb4
    obtain ⟨i3,m3,j3,rfl⟩ := ho3'.sl
    obtain ⟨i4,m4,j4,rfl⟩ := ho4'.sl
    go_upto_region 9 with fail
    go_wp2_with (first | (at_builtin; refine wpList_appN Tryz.underlying22 Tryz.infoTItem rfl (by decide) (by decide) rfl (.tmp 56) (.tmp 57) rfl _ _ _ _ rfl rfl hoI4 ho3' (by simp [tabT]) (by simp [tabT,itC,Value.oneCell']) (by rw [List.length_map,hl3]; decide) (by omega) ?_) | fail)
    intro v5 w5 hO5 hg5 hown5
    have hoK5 := hoK4.far hg5 hap
    have ho45 := ho4'.far hg5 apI4
    have hU5 := hU4.grown hg5 (fun b hb => by have := (hblI b hb).1; rw [← HX.out]; omega)
    have hV5 := bs_grown hV4 hg5 (fun b hb => by have := (hblI b hb).1; omega)
    have hF5 := hF4.grown hg5 (fun b hb => by have := (hblI b hb).1; omega)
    have hp5 := hp4.grown hg5 (fun b hb => by have := (hblI b hb).1; omega)
    have ap5 : Apart v5 (.slice i2 m2 j2) := Apart.grew hap hoK4 hown5
    have hs5 := hg5.size
    clear hU4 hV4 hF4 hp4 hoI4 hoK4 ho3' ho4' hg5 hown5 apI4
    go_wp2_with (first | (at_builtin; refine wpList_appN Tryz.underlying23 Tryz.infoTInt rfl (by decide) (by decide) rfl (.tmp 59) (.tmp 60) rfl _ _ _ _ rfl rfl hoK5 ho45 (by simp [tabT]) (by simp [tabT,Value.oneCell']) (by rw [List.length_map,hl3]; decide) (by omega) ?_) | fail)
    intro v6 w6 hO6 hg6 hown6
    have hO5' := hO5.far hg6 ap5.symm
    have hU6 := hU5.grown hg6 (fun b hb => by have := (hblK b hb).1; rw [← HX.out]; omega)
    have hV6 := bs_grown hV5 hg6 (fun b hb => by have := (hblK b hb).1; omega)
    have hF6 := hF5.grown hg6 (fun b hb => by have := (hblK b hb).1; omega)
    have hp6 := hp5.grown hg6 (fun b hb => by have := (hblK b hb).1; omega)
    have hs6 := hg6.size
    obtain ⟨i5,m5,j5,rfl⟩ := hO5'.sl
    obtain ⟨i6,m6,j6,rfl⟩ := hO6.sl
    have hx1 : OwnR 66 3 (q + 1) w6 (.slice i5 m5 j5) ((colsOf tabU ++ colsOf tabT).map fun x => itC x.1) := by rw [List.map_append]; exact hO5'
    have hx2 : OwnR 3 1 (q + 1) w6 (.slice i6 m6 j6) ((colsOf tabU ++ colsOf tabT).map fun x => [.int .i64 x.2]) := by rw [List.map_append]; exact hO6
    obtain ⟨e5,e6,hC6⟩ := Cols.of (g := g) hx1 hx2 (by omega) (by decide) (by obtain ⟨x,hx,e⟩ := hone; exact ⟨x,List.mem_append_left _ hx,e⟩) (by obtain ⟨x,hx,e⟩ := htwo; exact ⟨x,List.mem_append_left _ hx,e⟩)
    have HCe : Hid (colsOf tabU ++ colsOf (oth tabU) = colsOf tabU ++ colsOf tabT) := hid (by rw [hoth])
    generalize hCg : colsOf tabU ++ colsOf tabT = C at *
    subst e5
    subst e6
    have HN : Hid _ := hid (num_any hp6 2 (by decide) (by decide))
    clear hU5 hV5 hF5 hp5 hO5 hO5' hO6 hoK5 ho45 hg6 hown6 ap5 hCg hap hap4 hblI hblK hbl3 hbl4
    go_wp2_with fail
    refine Calls.mono HN.out ?_
    rintro e w7 ⟨k7,r7,rfl,hk7,hl7,hp7,hb7⟩
    have hC7 := hC6.but hb7
    have hU7 := hU6.trans hb7
    have hV7 := hV6.but hb7 (by omega)
    have hx17 := hx1.but hb7 (by omega)
    have hx27 := hx2.but hb7 (by omega)
    have hF7 := hF6.but hb7 (by omega) (by omega) (by omega)
    have hkd : (1 : Int) + (k7 : Int) = 1 ∨ (1 : Int) + (k7 : Int) = 2 := by omega
    have HK7 : Hid _ := hid (col_any hp7 hC7.its hC7.kds hC7.few (1 + (k7 : Int)) (hC7.has hkd))
    have hs7 := hb7.size
    clear HN hC6 hU6 hV6 hx1 hx2 hF6 hp6 hb7
    go_wp2_with fail
    refine Calls.mono HK7.out ?_
    rintro e w8 ⟨t8,n8,r8,rfl,hcol8,hl8,hp8',hb8⟩
    have hb8' := bal (Below.refl _ w8) (.cells #[.int .i64 2,.int .i64 0,.int .i64 0,.string ⟨#[]⟩,.string t8,.string n8,.slice none 0 0] 28)
    have hC8 := (hC7.but hb8).but (But.of hb8')
    have hU8 := (hU7.trans hb8).trans (But.of hb8')
    have hV8 := (hV7.but hb8 (by omega)).later hb8'
    have hx18 := (hx17.but hb8 (by omega)).later hb8'
    have hx28 := (hx27.but hb8 (by omega)).later hb8'
    have hF8 := (hF7.but hb8 (by omega) (by omega) (by omega)).but (But.of (g := g) hb8') (by omega) (by omega) (by omega)
    have hp8 := hp8'.later hb8'
    have x8e := Be.new w8 2 (0,0,⟨#[]⟩,t8,n8) (.slice none 0 0)
    simp only at x8e
    have hs8 := hb8.size
    have hs8' : (w8.alloc (.cells #[.int .i64 2,.int .i64 0,.int .i64 0,.string ⟨#[]⟩,.string t8,.string n8,.slice none 0 0] 28)).heap.size = w8.heap.size + 1 := by simp
    unfold exV
    simp only
    go_upto_region 12 with fail
    generalize w8.alloc (.cells #[.int .i64 2,.int .i64 0,.int .i64 0,.string ⟨#[]⟩,.string t8,.string n8,.slice none 0 0] 28) = w8b at *
    generalize w8.heap.size = qe8 at *
    have HK8 : Hid _ := hid (col_any hp8 hC8.its hC8.kds hC8.few (1 + (k7 : Int)) (hC8.has hkd))
    clear HK7 hC7 hU7 hV7 hx17 hx27 hF7 hp7 hp8' hb8 hb8'
    go_wp2_with fail
    refine Calls.mono HK8.out ?_
    rintro e w9 ⟨t9,n9,r9,rfl,hcol9,hl9,hp9',hb9⟩
    have hb9' := bal (Below.refl _ w9) (.cells #[.int .i64 2,.int .i64 0,.int .i64 0,.string ⟨#[]⟩,.string t9,.string n9,.slice none 0 0] 28)
    have hC9 := (hC8.but hb9).but (But.of hb9')
    have hU9 := (hU8.trans hb9).trans (But.of hb9')
    have hV9 := (hV8.but hb9 (by omega)).later hb9'
    have hx19 := (hx18.but hb9 (by omega)).later hb9'
    have hx29 := (hx28.but hb9 (by omega)).later hb9'
    have hF9 := (hF8.but hb9 (by omega) (by omega) (by omega)).but (But.of (g := g) hb9') (by omega) (by omega) (by omega)
    have hp9 := hp9'.later hb9'
    have x9e := Be.new w9 2 (0,0,⟨#[]⟩,t9,n9) (.slice none 0 0)
    simp only at x9e
    have hs9 := hb9.size
    have hs9' : (w9.alloc (.cells #[.int .i64 2,.int .i64 0,.int .i64 0,.string ⟨#[]⟩,.string t9,.string n9,.slice none 0 0] 28)).heap.size = w9.heap.size + 1 := by simp
    have x8f := (x8e.but hb9 (by omega)).later hb9'
    unfold exV
    simp only
    go_upto_region 13 with fail
    generalize w9.alloc (.cells #[.int .i64 2,.int .i64 0,.int .i64 0,.string ⟨#[]⟩,.string t9,.string n9,.slice none 0 0] 28) = w9b at *
    generalize w9.heap.size = qe9 at *
    clear HK8 hC8 hU8 hV8 hx18 hx28 hF8 hp8 hp9' hb9 hb9' x8e
    have hS9q : Sj g (qe9 + 1) q w w9b ⟨6,tabU.1,⟨#[]⟩,[],[],[],[],tabT.1,[],[],[],false⟩ _ := ⟨hU9,hV9,{ IsS.zero _ _ 6 with tb := rfl,jn := rfl },rfl⟩
    have cy8 := hV9.cells.2.2.2.2.2.2.2.2.1
    have fy8 := hV9.free.2.2.2.2.2.2.2.2.1
    have hyq := hV9.lt
    obtain ⟨k0,k1,k2,k3,k4,k5,k6⟩ := x8f.cells
    obtain ⟨d0,d1,d2,d3,d4,d5,d6⟩ := x9e.cells
    have hl8' := x8f.lt
    have hl9' := x9e.lt
    have hb10 := bal (Below.refl _ w9b) (.cells #[.int .i64 2,.int .i64 0,.int .i64 0,.string ⟨#[]⟩,.string t8,.string n8,.slice none 0 0,.int .i64 2,.int .i64 0,.int .i64 0,.string ⟨#[]⟩,.string t9,.string n9,.slice none 0 0] 28)
    have hrow : RowIs eExpr (fun b => qe9 + 1 ≤ b) (w9b.alloc (.cells #[.int .i64 2,.int .i64 0,.int .i64 0,.string ⟨#[]⟩,.string t8,.string n8,.slice none 0 0,.int .i64 2,.int .i64 0,.int .i64 0,.string ⟨#[]⟩,.string t9,.string n9,.slice none 0 0] 28)) (.slice (some ⟨w9b.heap.size,0,none⟩) 2 2) [tCol t8 n8,tCol t9 n9] := rowC2 w9b _ _ _ _ (by omega)
    have hS10 := (hS9q.later hb10).on (v := (some ⟨w9b.heap.size,0,none⟩,2,2)) (by rw [← HX.out]; omega) (by omega) hrow
    have hF10 := (hF9.but (But.of (g := g) hb10) (by omega) (by omega) (by omega)).other (b := q) (by omega) (by omega) (by omega) 8 (.slice (some ⟨w9b.heap.size,0,none⟩) 2 2)
    have hp10 := (hp9.later hb10).other (b := q) (by omega) 8 (.slice (some ⟨w9b.heap.size,0,none⟩) 2 2)
    have hx110 := (hx19.later hb10).set (by omega : q < q + 1) 8 (.slice (some ⟨w9b.heap.size,0,none⟩) 2 2)
    have hx210 := (hx29.later hb10).set (by omega : q < q + 1) 8 (.slice (some ⟨w9b.heap.size,0,none⟩) 2 2)
    simp only at hS10
    rw [World.setCell_alloc_past _ _ _ _ hyq] at hS10 hF10 hp10 hx110 hx210
    have HJ : Hid (JoinR g r w zx zy zz q bt ct va vn vc tabU a n c a' n' c' (.slice i5 C.length j5) (.slice i6 C.length j6) _) := hid ⟨C,qe9 + 1,i5,j5,i6,j6,_,_,_,r9,rfl,rfl,hx110,hx210,hC9.few,hC9.one,hC9.two,by omega,by simp [World.setCell]; omega,.inr ⟨HCe.out.symm,by rw [hoth],1 + (k7 : Int),t8,n8,t9,n9,hkd,hcol8,hcol9,rfl⟩,hF10,hS10,rfl,hp10,hl2.on (by have := hl7.1; omega)⟩
    clear hS10 hF10 hp10 hx110 hx210 hrow hb10 hS9q hU9 hV9 hx19 hx29 hF9 hp9 hC9 x8f x9e hcol8 hcol9 hs8' hs9'
    simp only at k0 k1 k2 k3 k4 k5 k6 d0 d1 d2 d3 d4 d5 d6 cy8 fy8
    go_wp2_with fail
    go_meet
    exact HJ.out
  ·have g0 : ((k : Int) == 0) = false := by simp; omega
   obtain ⟨e1,e2,hC⟩ := Cols.of (g := g) hoI hoK (by omega) (by omega) hone htwo
   subst e1
   subst e2
   have hS2 : Sj g (q + 1) q w w2 ⟨6,tb.1,⟨#[]⟩,[],[],[],[],⟨#[]⟩,[],[],[],false⟩ { zS 6 with tb := tb.1 } := ⟨hU2,hV2,{ IsS.zero _ _ 6 with tb := rfl },rfl⟩
   have HJ : Hid (JoinR g r w zx zy zz q bt ct va vn vc tb a n c a' n' c' (.slice i1 (colsOf tb).length j1) (.slice i2 (colsOf tb).length j2) w2) := hid ⟨colsOf tb,q + 1,i1,j1,i2,j2,⟨#[]⟩,[],_,r2,rfl,rfl,hoI,hoK,by omega,hone,htwo,Nat.lt_succ_self q,by omega,.inl ⟨rfl,rfl,rfl⟩,hF2,hS2,rfl,hp2,hl2⟩
   clear hC hF2 hS2 hU2 hV2 hp2 hT2 hoI hoK
   go_wp2_with fail
   go_meet
   exact HJ.out
 case rest =>
  obtain ⟨C,B,i1,j1,i2,j2,jn,on,s,r3,rfl,rfl,hoI,hoK,hf,hone,htwo,hqB,hBw,hJn,hF,hS,hit,hp,hl⟩ := hcut
  clear hl2
  have hC := (Cols.of (g := g) hoI hoK (by omega) hf hone htwo).2.2
  have HW : Hid _ := hid (playWhere_any hp hC)
  go_wp2_with fail
  refine Calls.mono HW.out ?_
  rintro e w3 ⟨wa,wn,wcp,wl,r4,rfl,hwl,hwr,hl4,hp4,hb4⟩
  have hS4 := hS.next hb4 (by omega) (by omega)
  have cy := hS4.box.cells.2.2.2.2.2.2.2.2.2.1
  have fy := hS4.box.free.2.2.2.2.2.2.2.2.2.1
  have hyq := hS4.box.lt
  have hS5 := hS4.wh (v := (wa,wn,wcp)) (by rw [← HX.out]; omega) hqB (hwr.mono (by decide) fun b hb _ => by omega)
  have hF5 := (hF.but hb4 (by omega) (by omega) (by omega)).other (b := q) (by omega) (by omega) (by omega) 9 (.slice wa wn wcp)
  have hp5 := hp4.other (b := q) (by omega) 9 (.slice wa wn wcp)
  have hoI5 := (hoI.but hb4 (by omega)).set (by omega : q < q + 1) 9 (.slice wa wn wcp)
  have hoK5 := (hoK.but hb4 (by omega)).set (by omega : q < q + 1) 9 (.slice wa wn wcp)
  have hs5 : (w3.setCell ⟨q,9,none⟩ (.slice wa wn wcp)).heap.size = w3.heap.size := size_set _ _ _
  have hs4 := hb4.size
  clear HW hC hoI hoK hF hS hS4 hp hp4 hb4 hwr
  go_upto_region 15 with fail
  generalize w3.setCell ⟨q,9,none⟩ (.slice wa wn wcp) = w5 at *
  have hB5 : B ≤ w5.heap.size := by omega
  clear hs5 hs4 cy fy hyq hBw
  have HN : Hid _ := hid (num_any hp5 4 (by decide) (by decide))
  go_wp2_with fail
  refine Calls.mono HN.out ?_
  rintro e w6 ⟨k6,r6,rfl,hk6,hl6,hp6,hb6⟩
  have hS6 := hS5.next hb6 (by omega) (by omega)
  have hF6 := hF5.but hb6 (by omega) (by omega) (by omega)
  have hoI6 := hoI5.but hb6 (by omega)
  have hoK6 := hoK5.but hb6 (by omega)
  have hs6 := hb6.size
  have hB6 : B ≤ w6.heap.size := by omega
  have hl7 := hl.on (Nat.le_trans hl6.1 hl4.1)
  obtain ⟨s,hS6,hit⟩ : ∃ s1,Sj g B q w w6 ⟨6,tb.1,⟨#[]⟩,[],[],[],[],jn,on,wl,[],false⟩ s1 ∧ s1.it = (none,0,0) := ⟨_,hS6,hit⟩
  have hinn : s.inn = (none,0,0) := hS6.inn
  clear HN hS5 hF5 hp5 hoI5 hoK5 hb6 hl hl4 hl6 hB5 hs6
  go_upto_block 0 with fail
  go_cut [] (fun w' => ∃ its s' r',Sj g B q w w' ⟨6,tb.1,⟨#[]⟩,[],[],[],its,jn,on,wl,[],false⟩ s' ∧ ItsOK C its False ∧ Fb w' zx zy zz bt ct va vn vc tb.1 a n c a' n' c' ∧ OwnR 66 3 (q + 1) w' (.slice i1 C.length j1) (C.map fun x => itC x.1) ∧ OwnR 3 1 (q + 1) w' (.slice i2 C.length j2) (C.map fun x => [.int .i64 x.2]) ∧ Pk w' g r' ∧ Less r r' ∧ B ≤ w'.heap.size)
  case first =>
   by_cases h0 : k6 = 0
   ·subst h0
    have cy6 : w6.cell? ⟨q,6,none⟩ = some (.slice s.it.1 s.it.2.1 s.it.2.2) := hS6.box.cells.2.2.2.2.2.2.1
    have fy6 := hS6.box.free.2.2.2.2.2.2.1
    have hyq := hS6.box.lt
    have hb7 := bal (Below.refl _ (w6.setCell ⟨q,6,none⟩ (.slice (some ⟨w6.heap.size,0,none⟩) 1 1))) (.cells #[.int .i64 1,.string ⟨#[]⟩,.string ⟨#[]⟩] 66)
    have hU7 := (hS6.but.new (r := q) (by rw [← HX.out]; omega) 6 (.slice (some ⟨w6.heap.size,0,none⟩) 1 1)).trans (But.of hb7)
    have hV7 := (hS6.box.set6 (some ⟨w6.heap.size,0,none⟩,1,1)).later hb7
    have hI7 : IsS (fun b => B ≤ b ∧ b < w6.heap.size) ((w6.setCell ⟨q,6,none⟩ (.slice (some ⟨w6.heap.size,0,none⟩) 1 1)).alloc (.cells #[.int .i64 1,.string ⟨#[]⟩,.string ⟨#[]⟩] 66)) ⟨6,tb.1,⟨#[]⟩,[],[],[],[],jn,on,wl,[],false⟩ _ := ((hS6.is.mono (Q' := fun b => B ≤ b ∧ b < w6.heap.size) fun b hb hl => ⟨hb,hl⟩).keep fun b hb _ => Below.heap_setCell _ _ _ _ (by show b ≠ q; omega)).keep fun b _ hl => hb7.block b hl
    have hO7 : OwnR 66 3 w6.heap.size ((w6.setCell ⟨q,6,none⟩ (.slice (some ⟨w6.heap.size,0,none⟩) 1 1)).alloc (.cells #[.int .i64 1,.string ⟨#[]⟩,.string ⟨#[]⟩] 66)) (.slice (some ⟨w6.heap.size,0,none⟩) 1 1) [itC (1,⟨#[]⟩,⟨#[]⟩)] := by
     have := OwnR.lit 66 3 w6.heap.size (w6.setCell ⟨q,6,none⟩ (.slice (some ⟨w6.heap.size,0,none⟩) 1 1)) [.int .i64 1,.string ⟨#[]⟩,.string ⟨#[]⟩] rfl (by rw [size_set]; exact Nat.le_refl _)
     rw [size_set] at this
     exact this
    have hF7 := (hF6.other (b := q) (by omega) (by omega) (by omega) 6 (.slice (some ⟨w6.heap.size,0,none⟩) 1 1)).but (But.of (g := g) hb7) (by omega) (by omega) (by omega)
    have hoI7 := (hoI6.set (by omega : q < q + 1) 6 (.slice (some ⟨w6.heap.size,0,none⟩) 1 1)).later hb7
    have hoK7 := (hoK6.set (by omega : q < q + 1) 6 (.slice (some ⟨w6.heap.size,0,none⟩) 1 1)).later hb7
    have hp7 := (hp6.other (b := q) (by omega) 6 (.slice (some ⟨w6.heap.size,0,none⟩) 1 1)).later hb7
    have hapI : Apart (.slice (some ⟨w6.heap.size,0,none⟩) 1 1) (.slice i1 C.length j1) := fun b hb hv => by have := (hoI6.blk b hv).2; simp [Value.ownBlock] at hb; omega
    have hapK : Apart (.slice (some ⟨w6.heap.size,0,none⟩) 1 1) (.slice i2 C.length j2) := fun b hb hv => by have := (hoK6.blk b hv).2; simp [Value.ownBlock] at hb; omega
    have hz7 : w6.heap.size < ((w6.setCell ⟨q,6,none⟩ (.slice (some ⟨w6.heap.size,0,none⟩) 1 1)).alloc (.cells #[.int .i64 1,.string ⟨#[]⟩,.string ⟨#[]⟩] 66)).heap.size := by simp [World.setCell]
    clear hS6 hF6 hoI6 hoK6 hp6 hb7
    go_upto_region 18 with fail
    generalize (w6.setCell ⟨q,6,none⟩ (.slice (some ⟨w6.heap.size,0,none⟩) 1 1)).alloc (.cells #[.int .i64 1,.string ⟨#[]⟩,.string ⟨#[]⟩] 66) = w7 at *
    generalize hB2 : w6.heap.size = B2 at *
    clear cy6 fy6 hyq hB2
    have HN : Hid _ := hid (num_any hp7 3 (by decide) (by decide))
    go_wp2_with fail
    refine Calls.mono HN.out ?_
    rintro e w8 ⟨k8,r8,rfl,hk8,hl8,hp8,hb8⟩
    have hU8 := hU7.trans hb8
    have hV8 := hV7.but hb8 (by omega)
    have hI8 := hI7.keep fun b hb hl => hb8.block b hl (by omega)
    have hO8 := hO7.but hb8 (by omega)
    have hF8 := hF7.but hb8 (by omega) (by omega) (by omega)
    have hoI8 := hoI7.but hb8 (by omega)
    have hoK8 := hoK7.but hb8 (by omega)
    have hl9 := hl7.on hl8.1
    have hz8 := hb8.size
    clear HN hU7 hV7 hI7 hO7 hF7 hoI7 hoK7 hp7 hb8
    go_wp2
    go_loopw [18] (fun i wr => ∃ (j : Nat) (l : List It) (sl : Sl) (r5 : Nat),i = .int .i64 (j : Int) ∧ j + l.length ≤ 2 ∧ (∀ x ∈ l,2 ≤ x.1 ∧ x.1 ≤ 4 ∧ ColOK C 1 x.2.1 x.2.2) ∧ But g w wr ∧ Bs wr q { s with it := sl } ∧ IsS (fun b => B ≤ b ∧ b < B2) wr ⟨6,tb.1,⟨#[]⟩,[],[],[],[],jn,on,wl,[],false⟩ s ∧ OwnR 66 3 B2 wr (slV sl) (((1,⟨#[]⟩,⟨#[]⟩) :: l).map itC) ∧ Fb wr zx zy zz bt ct va vn vc tb.1 a n c a' n' c' ∧ OwnR 66 3 (q + 1) wr (.slice i1 C.length j1) (C.map fun x => itC x.1) ∧ OwnR 3 1 (q + 1) wr (.slice i2 C.length j2) (C.map fun x => [.int .i64 x.2]) ∧ Apart (slV sl) (.slice i1 C.length j1) ∧ Apart (slV sl) (.slice i2 C.length j2) ∧ Pk wr g r5 ∧ Less r r5 ∧ B2 ≤ wr.heap.size) (fun i _ => (intOf i).toNat)
    case atStart => exact ⟨k8,[],(some ⟨B2,0,none⟩,1,1),r8,rfl,by simp; omega,by simp,hU8,hV8,hI8,hO8,hF8,hoI8,hoK8,hapI,hapK,hp8,hl9,by omega⟩
    case round =>
     clear hU8 hV8 hI8 hO8 hF8 hoI8 hoK8 hapI hapK hp8 hl9 hl7 hl8
     obtain ⟨j,l,⟨ao,n9,c9⟩,r5,rfl,hj,hx,hU,hV,hI,hO,hF,hoI,hoK,hapI,hapK,hp,hl,hz⟩ := hrel
     by_cases hj0 : j = 0
     ·subst hj0
      have hrow : RowIs eItem (fun b => B ≤ b) wr (.slice ao n9 c9) ((1,⟨#[]⟩,⟨#[]⟩) :: l) := own_row hO (by omega)
      have hS9 : Sj g B q w wr ⟨6,tb.1,⟨#[]⟩,[],[],[],((1,⟨#[]⟩,⟨#[]⟩) :: l),jn,on,wl,[],false⟩ { s with it := (ao,n9,c9) } := ⟨hU,hV,{ (hI.mono fun b hb _ => hb.1) with it := hrow },hinn⟩
      clear hU hV hI hO hrow
      have g0 : decide ((0 : Int) < ((0 : Nat) : Int)) = false := by simp
      obtain ⟨sv,hS9⟩ : ∃ sv,Sj g B q w wr ⟨6,tb.1,⟨#[]⟩,[],[],[],((1,⟨#[]⟩,⟨#[]⟩) :: l),jn,on,wl,[],false⟩ sv := ⟨_,hS9⟩
      have cS := hS9.box.cells
      have cR := hF.res.cells
      have fR := hF.res.free
      have hyq := hS9.box.lt
      have hyz := hF.res.lt
      have T : Hid (TeSt g r w (SelOK tb) (.returned (stV sv)) (set13 _ zz sv)) := hid (TeSt.fin hS9 ⟨C,_,_,_,_,_,_,True,hJn,hwl,.inr ⟨l,rfl,by omega,hx,trivial⟩,.inl ⟨rfl,by decide⟩,rfl⟩ hl hp (by rw [← HX.out]; omega) (by rw [← HX.out]; omega) (by omega))
      obtain ⟨k0,k1,k2,k3,k4,k5,k6,k7,k8,k9,k10,k11,k12⟩ := cS
      obtain ⟨d0,d1,d2,d3,d4,d5,d6,d7,d8,d9,d10,d11,d12⟩ := cR
      obtain ⟨f0,f1,f2,f3,f4,f5,f6,f7,f8,f9,f10,f11,f12⟩ := fR
      clear hS9 hF hoI hoK hp
      unfold stV set13 at T
      go_wp2
      refine bodyPost_ret (v := stV sv) (by simp [results,Tryz.results42,go_sem,stV,d0,d1,d2,d3,d4,d5,d6,d7,d8,d9,d10,d11,d12]) rfl ?_
      exact T.out
     ·have g0 : decide ((0 : Int) < (j : Int)) = true := by simp; omega
      have hC := (Cols.of (g := g) hoI hoK (by omega) hf hone htwo).2.2
      have HK : Hid _ := hid (col_any hp hC.its hC.kds hC.few 1 (hC.has (.inl rfl)))
      clear hp hC
      go_wp2_with fail
      refine Calls.mono HK.out ?_
      rintro e u3 ⟨t8,n8,p3,rfl,hcol,hlC,hpC',hbC⟩
      have hbC' := bal (Below.refl _ u3) (.cells #[.int .i64 2,.int .i64 0,.int .i64 0,.string ⟨#[]⟩,.string t8,.string n8,.slice none 0 0] 28)
      have hb34 := hbC.trans (But.of hbC')
      have hU4 := hU.trans hb34
      have hV4 := hV.but hb34 (by omega)
      have hI4 := hI.keep fun b hb hl => hb34.block b hl (by omega)
      have hO4 := hO.but hb34 (by omega)
      have hF4 := hF.but hb34 (by omega) (by omega) (by omega)
      have hoI4 := hoI.but hb34 (by omega)
      have hoK4 := hoK.but hb34 (by omega)
      have hp4 := hpC'.later hbC'
      have hblk := hO.blk
      have xe := Be.new u3 2 (0,0,⟨#[]⟩,t8,n8) (.slice none 0 0)
      simp only at xe
      have hsC := hbC.size
      unfold exV
      simp only
      go_upto_region 22 with fail
      generalize u3.alloc (.cells #[.int .i64 2,.int .i64 0,.int .i64 0,.string ⟨#[]⟩,.string t8,.string n8,.slice none 0 0] 28) = u4 at *
      have hqe : B2 ≤ u3.heap.size := by omega
      generalize u3.heap.size = qe at *
      clear HK hU hV hI hO hF hoI hoK hpC' hbC hbC' hb34
      have HX4 : Hid _ := hid xe
      have HV4 : Hid _ := hid hV4
      have HO4 : Hid _ := hid hO4
      have y6 : u4.cell? ⟨q,6,none⟩ = some (.slice ao n9 c9) := hV4.cells.2.2.2.2.2.2.1
      obtain ⟨e0,e1,e2,e3,e4,e5,e6⟩ := xe.cells
      have HNum : Hid (∀ w',Pk w' g p3 → Calls Tryz.prog 39 #[.pointer (some ⟨g,0,none⟩),.int .i64 3] w' fun e w'' => ∃ k r',e = .returned (.int .i64 ((k : Nat) : Int)) ∧ k < 3 ∧ Less p3 r' ∧ Pk w'' g r' ∧ But g w' w'') := hid fun w' hp => num_any (w := w') hp 3 (by decide) (by decide)
      have HC4 : Hid _ := hid (HNum.out _ (hp4.later (Below.refl _ u4).drew))
      have hD4 : But g u4 u4.drew := But.of (Below.refl _ u4).drew
      clear hV4 xe hO4 hp4 HNum
      simp only at e0 e1 e2 e3 e4 e5 e6
      have HK2 : Hid (∀ w' : World,w'.heap[qe]? = u4.heap[qe]? → w'.cell? ⟨qe,4,none⟩ = some (.string t8) ∧ w'.cell? ⟨qe,5,none⟩ = some (.string n8)) := hid fun w' hb => ⟨(HX4.out.keep hb).cells.2.2.2.2.1,(HX4.out.keep hb).cells.2.2.2.2.2.1⟩
      have hqeq : qe ≠ q := by omega
      refine wp_region_held_drew (S := (fun w' => w'.cell? ⟨qe,4,none⟩ = some (.string t8) ∧ w'.cell? ⟨qe,5,none⟩ = some (.string n8))) (by kernel_rfl) (HK2.out _ rfl) (fun hHeld => ?_)
      refine wpAnyH_take (i := 0) (v := ?tv1) rfl (by kernel_rfl) (by kernel_rfl) (by kernel_rfl) (fun _ _ _ h => h) (Or.inl ⟨by rfl,?hy1⟩) (by assumption) ?rs1
      case hy1 => (intro w9 hSw; (try dsimp only at hSw); go_simp; (try with_reducible rfl))
      (try simp only [Act.put,List.setIfInBounds_toArray,List.set_cons_zero,List.set_cons_succ])
      refine wpAnyH_take (i := 2) (v := ?tv2) rfl (by kernel_rfl) (by kernel_rfl) (by kernel_rfl) (fun _ _ _ h => h) (Or.inl ⟨by rfl,?hy2⟩) (by assumption) ?rs2
      case hy2 => (intro w9 hSw; (try dsimp only at hSw); go_simp; (try with_reducible rfl))
      (try simp only [Act.put,List.setIfInBounds_toArray,List.set_cons_zero,List.set_cons_succ])
      refine wpAnyH_take (i := 5) (v := ?tv3) rfl (by kernel_rfl) (by kernel_rfl) (by kernel_rfl) (fun _ _ _ h => h) (Or.inl ⟨by rfl,?hy3⟩) (by assumption) ?rs3
      case hy3 => (intro w9 hSw; (try dsimp only at hSw); go_simp; (try with_reducible rfl))
      (try simp only [Act.put,List.setIfInBounds_toArray,List.set_cons_zero,List.set_cons_succ])
      refine wpAnyH_take (i := 6) (v := ?tv4) rfl (by kernel_rfl) (by kernel_rfl) (by kernel_rfl) (fun _ _ _ h => h) (Or.inl ⟨by rfl,?hy4⟩) (by assumption) ?rs4
      case hy4 => (intro w9 hSw; (try dsimp only at hSw); go_simp; (try with_reducible rfl))
      (try simp only [Act.put,List.setIfInBounds_toArray,List.set_cons_zero,List.set_cons_succ])
      refine wpAnyH_take (i := 7) (v := ?tv5) rfl (by kernel_rfl) (by kernel_rfl) (by kernel_rfl) (fun _ _ _ h => h) (Or.inl ⟨by rfl,?hy5⟩) (by assumption) ?rs5
      case hy5 => (intro w9 hSw; (try dsimp only at hSw); go_simp; (try with_reducible rfl))
      (try simp only [Act.put,List.setIfInBounds_toArray,List.set_cons_zero,List.set_cons_succ])
      refine wpAnyH_take (i := 8) (v := ?tv6) rfl (by kernel_rfl) (by kernel_rfl) (by kernel_rfl) (fun _ _ _ h => h) (Or.inl ⟨by rfl,?hy6⟩) (by assumption) ?rs6
      case hy6 => (intro w9 hSw; (try dsimp only at hSw); go_simp; (try with_reducible rfl))
      (try simp only [Act.put,List.setIfInBounds_toArray,List.set_cons_zero,List.set_cons_succ])
      refine wpAnyH_ready (rs := [1,3]) (by kernel_rfl) (by simp) ?_
      refine AllReadyH.cons rfl (fun K hK => ?_) (AllReadyH.cons rfl (fun K hK => ?_) AllReadyH.nil)
      ·go_simp
       refine hK.out _ _ (hHeld) (fun hHeld => ?_)
       clear hK K
       (try simp only [Act.put,List.setIfInBounds_toArray,List.set_cons_zero,List.set_cons_succ])
       refine wpAnyH_ready (rs := [3]) (by kernel_rfl) (by simp) ?_
       refine AllReadyH.cons rfl (fun K hK => ?_) AllReadyH.nil
       go_simp
       go_wp2_with (first | (go_at_call 39; refine Calls.mono HC4.out ?_; rintro e u5 ⟨c5,p5,rfl,hc5,hlE,hpE,hbE⟩; have hE := hD4.trans hbE; have x5 := HX4.out.but hE (by omega); have v5 := HV4.out.but hE (by omega); have cy : u5.cell? ⟨q,6,none⟩ = some (.slice ao n9 c9) := v5.cells.2.2.2.2.2.2.1; have ho5 := (HO4.out.but hE (by omega)).alloc (.cells #[.int .i64 (2 + (c5 : Int)),.string t8,.string n8] 66); have hsz5 := hE.size; have hyl := v5.lt; have hyl2 := x5.lt; have hH5 := hE.block qe HX4.out.lt (by omega); have hwr : IntKind.i64.wrap (2 + (c5 : Int)) = 2 + (c5 : Int) := (by rw [IntKind.wrap_i64]; omega)))
       refine hK.out _ _ (HK2.out _ hH5) (fun hHeld => ?_)
       clear hK K
       (try simp only [Act.put,List.setIfInBounds_toArray,List.set_cons_zero,List.set_cons_succ])
       refine wpAnyH_take (i := 4) (v := ?tv7) rfl (by kernel_rfl) (by kernel_rfl) (by kernel_rfl) (fun _ _ _ h => h) (Or.inl ⟨by rfl,?hy7⟩) (by assumption) ?rs7
       case hy7 => (intro w9 hSw; (try dsimp only at hSw); go_simp; (try with_reducible rfl))
       (try simp only [Act.put,List.setIfInBounds_toArray,List.set_cons_zero,List.set_cons_succ])
       refine wpAnyH_take (i := 9) (v := ?tv8) rfl (by kernel_rfl) (by kernel_rfl) (by kernel_rfl) (fun _ _ _ h => h) (Or.inl ⟨by rfl,?hy8⟩) (by assumption) ?rs8
       case hy8 => (intro w9 hSw; (try dsimp only at hSw); go_simp; (try with_reducible rfl))
       (try simp only [Act.put,List.setIfInBounds_toArray,List.set_cons_zero,List.set_cons_succ])
       refine wpAnyH_ready (rs := [10]) (by kernel_rfl) (by simp) ?_
       refine AllReadyH.cons rfl (fun K hK => ?_) AllReadyH.nil
       go_simp
       refine hK.out _ _ (HK2.out _ ((Below.heap_alloc _ _ _ hyl2).trans hH5)) (fun hHeld => ?_)
       clear hK K
       (try simp only [Act.put,List.setIfInBounds_toArray,List.set_cons_zero,List.set_cons_succ])
       refine wpAnyH_ready (rs := [11]) (by kernel_rfl) (by simp) ?_
       refine AllReadyH.cons rfl (fun K hK => ?_) AllReadyH.nil
       refine step_appR (B := B2) (by rfl) (.tmp 111) (.tmp 120) (by rfl) Tryz.underlying22 Tryz.infoTItem rfl (by decide) (by decide) _ (((1,⟨#[]⟩,⟨#[]⟩) :: l).map itC) u5.heap.size [.int .i64 (2 + (c5 : Int)),.string t8,.string n8] (by rfl) (by rfl) ho5 rfl (one_item _ _ _) (new3 u5 _ _ _ _) (by simp; omega) (by rw [World.size_alloc]; omega) ?_
       intro v' w6' hO6 hg6 hown
       obtain ⟨ao',m',c'',rfl⟩ := hO6.sl
       have v6 := bs_grown (v5.later (bal (Below.refl _ u5) (.cells #[.int .i64 (2 + (c5 : Int)),.string t8,.string n8] 66))) hg6 (fun k e => by have := (hblk k e).1; omega)
       have cz : w6'.cell? ⟨q,6,none⟩ = some (.slice ao n9 c9) := v6.cells.2.2.2.2.2.2.1
       have fz := v6.free.2.2.2.2.2.2.1
       have hzl := v6.lt
       have hH6 : w6'.heap[qe]? = u4.heap[qe]? := (hg6.block qe (by rw [World.size_alloc]; omega) (fun e => by have := (hblk qe e.symm).2; omega)).trans ((Below.heap_alloc _ _ _ hyl2).trans hH5)
       refine hK.out _ _ (HK2.out _ hH6) (fun hHeld => ?_)
       clear hK K
       (try simp only [Act.put,List.setIfInBounds_toArray,List.set_cons_zero,List.set_cons_succ])
       refine wpAnyH_take (i := 12) (v := ?tv9) rfl (by kernel_rfl) (by kernel_rfl) (by kernel_rfl) (fun _ _ _ h => h) (Or.inl ⟨by rfl,?hy9⟩) (by assumption) ?rs9
       case hy9 => (intro w9 hSw; (try dsimp only at hSw); go_simp; (try with_reducible rfl))
       (try simp only [Act.put,List.setIfInBounds_toArray,List.set_cons_zero,List.set_cons_succ])
       refine wpAnyH_ready (rs := [13]) (by kernel_rfl) (by simp) ?_
       refine AllReadyH.cons rfl (fun K hK => ?_) AllReadyH.nil
       go_simp
       refine hK.out _ _ (HK2.out _ ((Below.heap_setCell _ _ _ _ hqeq).trans hH6)) (fun hHeld => ?_)
       clear hK K
       (try simp only [Act.put,List.setIfInBounds_toArray,List.set_cons_zero,List.set_cons_succ])
       refine wpAnyH_done (by kernel_rfl) ?_ _
       have hG : But g u4 (u5.alloc (.cells #[.int .i64 (2 + (c5 : Int)),.string t8,.string n8] 66)) := hE.alloc _
       have hg6' : (u5.alloc (.cells #[.int .i64 (2 + (c5 : Int)),.string t8,.string n8] 66)).grownBy w6' (slV (ao,n9,c9)).ownBlock := hg6
       have hU7 := (((hU4.trans hG).grown hg6' (fun k e => by have := (hblk k e).1; rw [← HX.out]; omega)).new (r := q) (by rw [← HX.out]; omega) 6 (.slice ao' m' c''))
       have hV7 := v6.set6 (ao',m',c'')
       have hI7 := ((hI4.keep fun b hb hl => hG.block b hl (by omega)).keep (w' := w6') fun b hb hl => hg6'.block b hl fun e => by have := (hblk b e.symm).1; omega).keep (w' := w6'.setCell ⟨q,6,none⟩ (.slice ao' m' c'')) fun b hb _ => Below.heap_setCell _ _ _ _ (by show b ≠ q; omega)
       have hO7 : OwnR 66 3 B2 (w6'.setCell ⟨q,6,none⟩ (.slice ao' m' c'')) (slV (ao',m',c'')) (((1,⟨#[]⟩,⟨#[]⟩) :: (l ++ [(2 + (c5 : Int),t8,n8)])).map itC) := by
        have := hO6.set (b := q) (by omega) 6 (.slice ao' m' c'')
        simpa [itC] using this
       have hF7 := ((hF4.but hG (by omega) (by omega) (by omega)).grown hg6' (fun k e => by have := (hblk k e).1; omega)).other (b := q) (by omega) (by omega) (by omega) 6 (.slice ao' m' c'')
       have hoI5 := hoI4.but hG (by omega)
       have hoK5 := hoK4.but hG (by omega)
       have hoI7 := (hoI5.far hg6' hapI).set (by omega : q < q + 1) 6 (.slice ao' m' c'')
       have hoK7 := (hoK5.far hg6' hapK).set (by omega : q < q + 1) 6 (.slice ao' m' c'')
       have hown' : (slV (ao',m',c'')).ownBlock = (slV (ao,n9,c9)).ownBlock ∨ (slV (ao',m',c'')).ownBlock = some (u5.alloc (.cells #[.int .i64 (2 + (c5 : Int)),.string t8,.string n8] 66)).heap.size := by first | exact hown | simpa using hown
       have hapI7 := Apart.grew hapI hoI5 hown'
       have hapK7 := Apart.grew hapK hoK5 hown'
       have hp7 := (((hpE.alloc _).grown hg6' (fun k e => by have := (hblk k e).1; omega)).other (b := q) (by omega) 6 (.slice ao' m' c''))
       have hz7 : B2 ≤ (w6'.setCell ⟨q,6,none⟩ (.slice ao' m' c'')).heap.size := by rw [size_set]; have := hg6'.size; rw [World.size_alloc] at this; have := hsz5; omega
       have hl7 := hl.on (b := r5) (c := p5) (by have := hlE.1; omega)
       clear HC4 HV4 HO4 HX4 HK2 hH5 hH6 hD4 hE hbE hpE x5 v5 cy ho5 hO6 hg6 hown v6 cz fz hzl hG hg6' hU4 hI4 hF4 hoI4 hoK4 hoI5 hoK5 hown' hblk e0 e1 e2 e3 e4 e5 e6 y6
       generalize w6'.setCell ⟨q,6,none⟩ (.slice ao' m' c'') = w9 at *
       obtain ⟨i,rfl⟩ : ∃ i,j = i + 1 := ⟨j - 1,by omega⟩
       go_wp2
       go_roundw
       case rel =>
        refine ⟨i,l ++ [(2 + (c5 : Int),t8,n8)],(ao',m',c''),p5,by go_num,by simp; omega,fun x hx' => ?_,hU7,hV7,hI7,hO7,hF7,hoI7,hoK7,hapI7,hapK7,hp7,hl7,hz7⟩
        rw [List.mem_append,List.mem_singleton] at hx'
        rcases hx' with hx' | rfl
        ·exact hx x hx'
        ·exact ⟨by show (2 : Int) ≤ 2 + (c5 : Int); omega,by show 2 + (c5 : Int) ≤ 4; omega,hcol⟩
       case measure => simp only [intOf]; omega
      ·go_simp
       go_wp2_with (first | (go_at_call 39; refine Calls.mono HC4.out ?_; rintro e u5 ⟨c5,p5,rfl,hc5,hlE,hpE,hbE⟩; have hE := hD4.trans hbE; have x5 := HX4.out.but hE (by omega); have v5 := HV4.out.but hE (by omega); have cy : u5.cell? ⟨q,6,none⟩ = some (.slice ao n9 c9) := v5.cells.2.2.2.2.2.2.1; have ho5 := (HO4.out.but hE (by omega)).alloc (.cells #[.int .i64 (2 + (c5 : Int)),.string t8,.string n8] 66); have hsz5 := hE.size; have hyl := v5.lt; have hyl2 := x5.lt; have hH5 := hE.block qe HX4.out.lt (by omega); have hwr : IntKind.i64.wrap (2 + (c5 : Int)) = 2 + (c5 : Int) := (by rw [IntKind.wrap_i64]; omega)))
       refine hK.out _ _ (HK2.out _ hH5) (fun hHeld => ?_)
       clear hK K
       (try simp only [Act.put,List.setIfInBounds_toArray,List.set_cons_zero,List.set_cons_succ])
       refine wpAnyH_take (i := 4) (v := ?tv12) rfl (by kernel_rfl) (by kernel_rfl) (by kernel_rfl) (fun _ _ _ h => h) (Or.inl ⟨by rfl,?hy12⟩) (by assumption) ?rs12
       case hy12 => (intro w9 hSw; (try dsimp only at hSw); go_simp; (try with_reducible rfl))
       (try simp only [Act.put,List.setIfInBounds_toArray,List.set_cons_zero,List.set_cons_succ])
       refine wpAnyH_take (i := 9) (v := ?tv13) rfl (by kernel_rfl) (by kernel_rfl) (by kernel_rfl) (fun _ _ _ h => h) (Or.inl ⟨by rfl,?hy13⟩) (by assumption) ?rs13
       case hy13 => (intro w9 hSw; (try dsimp only at hSw); go_simp; (try with_reducible rfl))
       (try simp only [Act.put,List.setIfInBounds_toArray,List.set_cons_zero,List.set_cons_succ])
       refine wpAnyH_ready (rs := [1,10]) (by kernel_rfl) (by simp) ?_
       refine AllReadyH.cons rfl (fun K hK => ?_) (AllReadyH.cons rfl (fun K hK => ?_) AllReadyH.nil)
       ·go_simp
        refine hK.out _ _ (hHeld) (fun hHeld => ?_)
        clear hK K
        (try simp only [Act.put,List.setIfInBounds_toArray,List.set_cons_zero,List.set_cons_succ])
        refine wpAnyH_ready (rs := [10]) (by kernel_rfl) (by simp) ?_
        refine AllReadyH.cons rfl (fun K hK => ?_) AllReadyH.nil
        go_simp
        refine hK.out _ _ (HK2.out _ ((Below.heap_alloc _ _ _ hyl2).trans hH5)) (fun hHeld => ?_)
        clear hK K
        (try simp only [Act.put,List.setIfInBounds_toArray,List.set_cons_zero,List.set_cons_succ])
        refine wpAnyH_ready (rs := [11]) (by kernel_rfl) (by simp) ?_
        refine AllReadyH.cons rfl (fun K hK => ?_) AllReadyH.nil
        refine step_appR (B := B2) (by rfl) (.tmp 111) (.tmp 120) (by rfl) Tryz.underlying22 Tryz.infoTItem rfl (by decide) (by decide) _ (((1,⟨#[]⟩,⟨#[]⟩) :: l).map itC) u5.heap.size [.int .i64 (2 + (c5 : Int)),.string t8,.string n8] (by rfl) (by rfl) ho5 rfl (one_item _ _ _) (new3 u5 _ _ _ _) (by simp; omega) (by rw [World.size_alloc]; omega) ?_
        intro v' w6' hO6 hg6 hown
        obtain ⟨ao',m',c'',rfl⟩ := hO6.sl
        have v6 := bs_grown (v5.later (bal (Below.refl _ u5) (.cells #[.int .i64 (2 + (c5 : Int)),.string t8,.string n8] 66))) hg6 (fun k e => by have := (hblk k e).1; omega)
        have cz : w6'.cell? ⟨q,6,none⟩ = some (.slice ao n9 c9) := v6.cells.2.2.2.2.2.2.1
        have fz := v6.free.2.2.2.2.2.2.1
        have hzl := v6.lt
        have hH6 : w6'.heap[qe]? = u4.heap[qe]? := (hg6.block qe (by rw [World.size_alloc]; omega) (fun e => by have := (hblk qe e.symm).2; omega)).trans ((Below.heap_alloc _ _ _ hyl2).trans hH5)
        refine hK.out _ _ (HK2.out _ hH6) (fun hHeld => ?_)
        clear hK K
        (try simp only [Act.put,List.setIfInBounds_toArray,List.set_cons_zero,List.set_cons_succ])
        refine wpAnyH_take (i := 12) (v := ?tv10) rfl (by kernel_rfl) (by kernel_rfl) (by kernel_rfl) (fun _ _ _ h => h) (Or.inl ⟨by rfl,?hy10⟩) (by assumption) ?rs10
        case hy10 => (intro w9 hSw; (try dsimp only at hSw); go_simp; (try with_reducible rfl))
        (try simp only [Act.put,List.setIfInBounds_toArray,List.set_cons_zero,List.set_cons_succ])
        refine wpAnyH_ready (rs := [13]) (by kernel_rfl) (by simp) ?_
        refine AllReadyH.cons rfl (fun K hK => ?_) AllReadyH.nil
        go_simp
        refine hK.out _ _ (HK2.out _ ((Below.heap_setCell _ _ _ _ hqeq).trans hH6)) (fun hHeld => ?_)
        clear hK K
        (try simp only [Act.put,List.setIfInBounds_toArray,List.set_cons_zero,List.set_cons_succ])
        refine wpAnyH_done (by kernel_rfl) ?_ _
        have hG : But g u4 (u5.alloc (.cells #[.int .i64 (2 + (c5 : Int)),.string t8,.string n8] 66)) := hE.alloc _
        have hg6' : (u5.alloc (.cells #[.int .i64 (2 + (c5 : Int)),.string t8,.string n8] 66)).grownBy w6' (slV (ao,n9,c9)).ownBlock := hg6
        have hU7 := (((hU4.trans hG).grown hg6' (fun k e => by have := (hblk k e).1; rw [← HX.out]; omega)).new (r := q) (by rw [← HX.out]; omega) 6 (.slice ao' m' c''))
        have hV7 := v6.set6 (ao',m',c'')
        have hI7 := ((hI4.keep fun b hb hl => hG.block b hl (by omega)).keep (w' := w6') fun b hb hl => hg6'.block b hl fun e => by have := (hblk b e.symm).1; omega).keep (w' := w6'.setCell ⟨q,6,none⟩ (.slice ao' m' c'')) fun b hb _ => Below.heap_setCell _ _ _ _ (by show b ≠ q; omega)
        have hO7 : OwnR 66 3 B2 (w6'.setCell ⟨q,6,none⟩ (.slice ao' m' c'')) (slV (ao',m',c'')) (((1,⟨#[]⟩,⟨#[]⟩) :: (l ++ [(2 + (c5 : Int),t8,n8)])).map itC) := by
         have := hO6.set (b := q) (by omega) 6 (.slice ao' m' c'')
         simpa [itC] using this
        have hF7 := ((hF4.but hG (by omega) (by omega) (by omega)).grown hg6' (fun k e => by have := (hblk k e).1; omega)).other (b := q) (by omega) (by omega) (by omega) 6 (.slice ao' m' c'')
        have hoI5 := hoI4.but hG (by omega)
        have hoK5 := hoK4.but hG (by omega)
        have hoI7 := (hoI5.far hg6' hapI).set (by omega : q < q + 1) 6 (.slice ao' m' c'')
        have hoK7 := (hoK5.far hg6' hapK).set (by omega : q < q + 1) 6 (.slice ao' m' c'')
        have hown' : (slV (ao',m',c'')).ownBlock = (slV (ao,n9,c9)).ownBlock ∨ (slV (ao',m',c'')).ownBlock = some (u5.alloc (.cells #[.int .i64 (2 + (c5 : Int)),.string t8,.string n8] 66)).heap.size := by first | exact hown | simpa using hown
        have hapI7 := Apart.grew hapI hoI5 hown'
        have hapK7 := Apart.grew hapK hoK5 hown'
        have hp7 := (((hpE.alloc _).grown hg6' (fun k e => by have := (hblk k e).1; omega)).other (b := q) (by omega) 6 (.slice ao' m' c''))
        have hz7 : B2 ≤ (w6'.setCell ⟨q,6,none⟩ (.slice ao' m' c'')).heap.size := by rw [size_set]; have := hg6'.size; rw [World.size_alloc] at this; have := hsz5; omega
        have hl7 := hl.on (b := r5) (c := p5) (by have := hlE.1; omega)
        clear HC4 HV4 HO4 HX4 HK2 hH5 hH6 hD4 hE hbE hpE x5 v5 cy ho5 hO6 hg6 hown v6 cz fz hzl hG hg6' hU4 hI4 hF4 hoI4 hoK4 hoI5 hoK5 hown' hblk e0 e1 e2 e3 e4 e5 e6 y6
        generalize w6'.setCell ⟨q,6,none⟩ (.slice ao' m' c'') = w9 at *
        obtain ⟨i,rfl⟩ : ∃ i,j = i + 1 := ⟨j - 1,by omega⟩
        go_wp2
        go_roundw
        case rel =>
         refine ⟨i,l ++ [(2 + (c5 : Int),t8,n8)],(ao',m',c''),p5,by go_num,by simp; omega,fun x hx' => ?_,hU7,hV7,hI7,hO7,hF7,hoI7,hoK7,hapI7,hapK7,hp7,hl7,hz7⟩
         rw [List.mem_append,List.mem_singleton] at hx'
         rcases hx' with hx' | rfl
         ·exact hx x hx'
         ·exact ⟨by show (2 : Int) ≤ 2 + (c5 : Int); omega,by show 2 + (c5 : Int) ≤ 4; omega,hcol⟩
        case measure => simp only [intOf]; omega
       ·go_simp
        refine hK.out _ _ (HK2.out _ ((Below.heap_alloc _ _ _ hyl2).trans hH5)) (fun hHeld => ?_)
        clear hK K
        (try simp only [Act.put,List.setIfInBounds_toArray,List.set_cons_zero,List.set_cons_succ])
        refine wpAnyH_ready (rs := [1]) (by kernel_rfl) (by simp) ?_
        refine AllReadyH.cons rfl (fun K hK => ?_) AllReadyH.nil
        go_simp
        refine hK.out _ _ (hHeld) (fun hHeld => ?_)
        clear hK K
        (try simp only [Act.put,List.setIfInBounds_toArray,List.set_cons_zero,List.set_cons_succ])
        refine wpAnyH_ready (rs := [11]) (by kernel_rfl) (by simp) ?_
        refine AllReadyH.cons rfl (fun K hK => ?_) AllReadyH.nil
        refine step_appR (B := B2) (by rfl) (.tmp 111) (.tmp 120) (by rfl) Tryz.underlying22 Tryz.infoTItem rfl (by decide) (by decide) _ (((1,⟨#[]⟩,⟨#[]⟩) :: l).map itC) u5.heap.size [.int .i64 (2 + (c5 : Int)),.string t8,.string n8] (by rfl) (by rfl) ho5 rfl (one_item _ _ _) (new3 u5 _ _ _ _) (by simp; omega) (by rw [World.size_alloc]; omega) ?_
        intro v' w6' hO6 hg6 hown
        obtain ⟨ao',m',c'',rfl⟩ := hO6.sl
        have v6 := bs_grown (v5.later (bal (Below.refl _ u5) (.cells #[.int .i64 (2 + (c5 : Int)),.string t8,.string n8] 66))) hg6 (fun k e => by have := (hblk k e).1; omega)
        have cz : w6'.cell? ⟨q,6,none⟩ = some (.slice ao n9 c9) := v6.cells.2.2.2.2.2.2.1
        have fz := v6.free.2.2.2.2.2.2.1
        have hzl := v6.lt
        have hH6 : w6'.heap[qe]? = u4.heap[qe]? := (hg6.block qe (by rw [World.size_alloc]; omega) (fun e => by have := (hblk qe e.symm).2; omega)).trans ((Below.heap_alloc _ _ _ hyl2).trans hH5)
        refine hK.out _ _ (HK2.out _ hH6) (fun hHeld => ?_)
        clear hK K
        (try simp only [Act.put,List.setIfInBounds_toArray,List.set_cons_zero,List.set_cons_succ])
        refine wpAnyH_take (i := 12) (v := ?tv11) rfl (by kernel_rfl) (by kernel_rfl) (by kernel_rfl) (fun _ _ _ h => h) (Or.inl ⟨by rfl,?hy11⟩) (by assumption) ?rs11
        case hy11 => (intro w9 hSw; (try dsimp only at hSw); go_simp; (try with_reducible rfl))
        (try simp only [Act.put,List.setIfInBounds_toArray,List.set_cons_zero,List.set_cons_succ])
        refine wpAnyH_ready (rs := [13]) (by kernel_rfl) (by simp) ?_
        refine AllReadyH.cons rfl (fun K hK => ?_) AllReadyH.nil
        go_simp
        refine hK.out _ _ (HK2.out _ ((Below.heap_setCell _ _ _ _ hqeq).trans hH6)) (fun hHeld => ?_)
        clear hK K
        (try simp only [Act.put,List.setIfInBounds_toArray,List.set_cons_zero,List.set_cons_succ])
        refine wpAnyH_done (by kernel_rfl) ?_ _
        have hG : But g u4 (u5.alloc (.cells #[.int .i64 (2 + (c5 : Int)),.string t8,.string n8] 66)) := hE.alloc _
        have hg6' : (u5.alloc (.cells #[.int .i64 (2 + (c5 : Int)),.string t8,.string n8] 66)).grownBy w6' (slV (ao,n9,c9)).ownBlock := hg6
        have hU7 := (((hU4.trans hG).grown hg6' (fun k e => by have := (hblk k e).1; rw [← HX.out]; omega)).new (r := q) (by rw [← HX.out]; omega) 6 (.slice ao' m' c''))
        have hV7 := v6.set6 (ao',m',c'')
        have hI7 := ((hI4.keep fun b hb hl => hG.block b hl (by omega)).keep (w' := w6') fun b hb hl => hg6'.block b hl fun e => by have := (hblk b e.symm).1; omega).keep (w' := w6'.setCell ⟨q,6,none⟩ (.slice ao' m' c'')) fun b hb _ => Below.heap_setCell _ _ _ _ (by show b ≠ q; omega)
        have hO7 : OwnR 66 3 B2 (w6'.setCell ⟨q,6,none⟩ (.slice ao' m' c'')) (slV (ao',m',c'')) (((1,⟨#[]⟩,⟨#[]⟩) :: (l ++ [(2 + (c5 : Int),t8,n8)])).map itC) := by
         have := hO6.set (b := q) (by omega) 6 (.slice ao' m' c'')
         simpa [itC] using this
        have hF7 := ((hF4.but hG (by omega) (by omega) (by omega)).grown hg6' (fun k e => by have := (hblk k e).1; omega)).other (b := q) (by omega) (by omega) (by omega) 6 (.slice ao' m' c'')
        have hoI5 := hoI4.but hG (by omega)
        have hoK5 := hoK4.but hG (by omega)
        have hoI7 := (hoI5.far hg6' hapI).set (by omega : q < q + 1) 6 (.slice ao' m' c'')
        have hoK7 := (hoK5.far hg6' hapK).set (by omega : q < q + 1) 6 (.slice ao' m' c'')
        have hown' : (slV (ao',m',c'')).ownBlock = (slV (ao,n9,c9)).ownBlock ∨ (slV (ao',m',c'')).ownBlock = some (u5.alloc (.cells #[.int .i64 (2 + (c5 : Int)),.string t8,.string n8] 66)).heap.size := by first | exact hown | simpa using hown
        have hapI7 := Apart.grew hapI hoI5 hown'
        have hapK7 := Apart.grew hapK hoK5 hown'
        have hp7 := (((hpE.alloc _).grown hg6' (fun k e => by have := (hblk k e).1; omega)).other (b := q) (by omega) 6 (.slice ao' m' c''))
        have hz7 : B2 ≤ (w6'.setCell ⟨q,6,none⟩ (.slice ao' m' c'')).heap.size := by rw [size_set]; have := hg6'.size; rw [World.size_alloc] at this; have := hsz5; omega
        have hl7 := hl.on (b := r5) (c := p5) (by have := hlE.1; omega)
        clear HC4 HV4 HO4 HX4 HK2 hH5 hH6 hD4 hE hbE hpE x5 v5 cy ho5 hO6 hg6 hown v6 cz fz hzl hG hg6' hU4 hI4 hF4 hoI4 hoK4 hoI5 hoK5 hown' hblk e0 e1 e2 e3 e4 e5 e6 y6
        generalize w6'.setCell ⟨q,6,none⟩ (.slice ao' m' c'') = w9 at *
        obtain ⟨i,rfl⟩ : ∃ i,j = i + 1 := ⟨j - 1,by omega⟩
        go_wp2
        go_roundw
        case rel =>
         refine ⟨i,l ++ [(2 + (c5 : Int),t8,n8)],(ao',m',c''),p5,by go_num,by simp; omega,fun x hx' => ?_,hU7,hV7,hI7,hO7,hF7,hoI7,hoK7,hapI7,hapK7,hp7,hl7,hz7⟩
         rw [List.mem_append,List.mem_singleton] at hx'
         rcases hx' with hx' | rfl
         ·exact hx x hx'
         ·exact ⟨by show (2 : Int) ≤ 2 + (c5 : Int); omega,by show 2 + (c5 : Int) ≤ 4; omega,hcol⟩
        case measure => simp only [intOf]; omega
   ·have g0 : ((k6 : Int) == 0) = false := by simp; omega
    by_cases h1 : k6 = 1
    ·subst h1
     have hU7 := hS6.but
     have hV7 := hS6.box
     have hI7 : IsS (fun b => B ≤ b ∧ b < w6.heap.size) w6 ⟨6,tb.1,⟨#[]⟩,[],[],[],[],jn,on,wl,[],false⟩ _ := hS6.is.mono (Q' := fun b => B ≤ b ∧ b < w6.heap.size) fun b hb hl => ⟨hb,hl⟩
     have hO7 : OwnR 66 3 w6.heap.size w6 (.slice none 0 0) [] := OwnR.nil _ _ _ _
     have hapI : Apart (.slice none 0 0) (.slice i1 C.length j1) := fun b hb => by simp [Value.ownBlock] at hb
     have hapK : Apart (.slice none 0 0) (.slice i2 C.length j2) := fun b hb => by simp [Value.ownBlock] at hb
     have hF7 := hF6
     have hoI7 := hoI6
     have hoK7 := hoK6
     have hp7 := hp6
     have hz7 : w6.heap.size ≤ w6.heap.size := Nat.le_refl _
     clear hS6 hF6 hoI6 hoK6 hp6
     go_upto_region 25 with fail
     generalize hB2 : w6.heap.size = B2 at hz7 hO7 hI7
     have hB62 : B ≤ B2 := by omega
     have hz76 : B2 ≤ w6.heap.size := by omega
     obtain ⟨w7,hw7⟩ : ∃ w7,w6 = w7 := ⟨_,rfl⟩
     subst hw7
     clear hB2
     have HN : Hid _ := hid (num_any hp7 3 (by decide) (by decide))
     go_wp2_with fail
     refine Calls.mono HN.out ?_
     rintro e w8 ⟨k8,r8,rfl,hk8,hl8,hp8,hb8⟩
     have hU8 := hU7.trans hb8
     have hV8 := hV7.but hb8 (by omega)
     have hI8 := hI7.keep fun b hb hl => hb8.block b hl (by omega)
     have hO8 := hO7.but hb8 (by omega)
     have hF8 := hF7.but hb8 (by omega) (by omega) (by omega)
     have hoI8 := hoI7.but hb8 (by omega)
     have hoK8 := hoK7.but hb8 (by omega)
     have hl9 := hl7.on hl8.1
     have hz8 := hb8.size
     clear HN hU7 hV7 hI7 hO7 hF7 hoI7 hoK7 hp7 hb8
     go_wp2
     go_loopw [21] (fun i wr => ∃ (j : Nat) (l : List It) (sl : Sl) (r5 : Nat),i = .int .i64 ((j : Int) - 1) ∧ j + l.length ≤ 3 ∧ (∀ x ∈ l,x.1 = 0 ∧ ∃ k,(k = 1 ∨ k = 2) ∧ ColOK C k x.2.1 x.2.2) ∧ But g w wr ∧ Bs wr q { s with it := sl } ∧ IsS (fun b => B ≤ b ∧ b < B2) wr ⟨6,tb.1,⟨#[]⟩,[],[],[],[],jn,on,wl,[],false⟩ s ∧ OwnR 66 3 B2 wr (slV sl) (l.map itC) ∧ Fb wr zx zy zz bt ct va vn vc tb.1 a n c a' n' c' ∧ OwnR 66 3 (q + 1) wr (.slice i1 C.length j1) (C.map fun x => itC x.1) ∧ OwnR 3 1 (q + 1) wr (.slice i2 C.length j2) (C.map fun x => [.int .i64 x.2]) ∧ Apart (slV sl) (.slice i1 C.length j1) ∧ Apart (slV sl) (.slice i2 C.length j2) ∧ Pk wr g r5 ∧ Less r r5 ∧ B2 ≤ wr.heap.size) (fun i _ => (intOf i + 1).toNat)
     case atStart => exact ⟨k8 + 1,[],(none,0,0),r8,by go_num,by simp; omega,by simp,hU8,by rw [← hit]; exact hV8,hI8,hO8,hF8,hoI8,hoK8,hapI,hapK,hp8,hl9,by omega⟩
     case round =>
      clear hU8 hV8 hI8 hO8 hF8 hoI8 hoK8 hapI hapK hp8 hl9 hl7 hl8
      obtain ⟨j,l,⟨ao,n9,c9⟩,r5,rfl,hj,hx,hU,hV,hI,hO,hF,hoI,hoK,hapI,hapK,hp,hl,hz⟩ := hrel
      by_cases hj0 : j = 0
      ·subst hj0
       have hrow : RowIs eItem (fun b => B ≤ b) wr (.slice ao n9 c9) l := own_row hO (by omega)
       have hS9 : Sj g B q w wr ⟨6,tb.1,⟨#[]⟩,[],[],[],l,jn,on,wl,[],false⟩ { s with it := (ao,n9,c9) } := ⟨hU,hV,{ (hI.mono fun b hb _ => hb.1) with it := hrow },hinn⟩
       clear hU hV hI hO hrow
       have g0 : decide ((0 : Int) ≤ ((0 : Nat) : Int) - 1) = false := by simp
       have hBz : B ≤ wr.heap.size := by omega
       have HJ : Hid _ := hid (⟨l,_,r5,hS9,.inl ⟨by omega,hx,id⟩,hF,hoI,hoK,hp,hl,hBz⟩ : ∃ its s' r',Sj g B q w wr ⟨6,tb.1,⟨#[]⟩,[],[],[],its,jn,on,wl,[],false⟩ s' ∧ ItsOK C its False ∧ Fb wr zx zy zz bt ct va vn vc tb.1 a n c a' n' c' ∧ OwnR 66 3 (q + 1) wr (.slice i1 C.length j1) (C.map fun x => itC x.1) ∧ OwnR 3 1 (q + 1) wr (.slice i2 C.length j2) (C.map fun x => [.int .i64 x.2]) ∧ Pk wr g r' ∧ Less r r' ∧ B ≤ wr.heap.size)
       clear hS9 hF hoI hoK hp
       go_wp2
       go_meet
       exact HJ.out
      ·obtain ⟨i,rfl⟩ : ∃ i,j = i + 1 := ⟨j - 1,by omega⟩
       have hii : (((i + 1 : Nat)) : Int) - 1 = (i : Int) := by omega
       rw [hii]
       have g0 : decide ((0 : Int) ≤ (i : Int)) = true := by simp
       clear hii hj0
       have HN2 : Hid _ := hid (num_any hp 2 (by decide) (by decide))
       go_wp2_with fail
       refine Calls.mono HN2.out ?_
       rintro e wq ⟨c2,rq,rfl,hc2,hlq,hpq,hbq⟩
       have hUq := hU.trans hbq
       have hVq := hV.but hbq (by omega)
       have hIq := hI.keep fun b hb hl => hbq.block b hl (by omega)
       have hOq := hO.but hbq (by omega)
       have hFq := hF.but hbq (by omega) (by omega) (by omega)
       have hoIq := hoI.but hbq (by omega)
       have hoKq := hoK.but hbq (by omega)
       have hzq9 := hbq.size
       have hkd : (1 : Int) + (c2 : Int) = 1 ∨ (1 : Int) + (c2 : Int) = 2 := by omega
       have hC := (Cols.of (g := g) hoIq hoKq (by omega) hf hone htwo).2.2
       have HK : Hid _ := hid (col_any hpq hC.its hC.kds hC.few (1 + (c2 : Int)) (hC.has hkd))
       clear HN2 hp hC hU hV hI hO hF hoI hoK hbq hpq
       have hU := hUq
       have hV := hVq
       have hI := hIq
       have hO := hOq
       have hF := hFq
       have hoI := hoIq
       have hoK := hoKq
       clear hUq hVq hIq hOq hFq hoIq hoKq
       go_wp2_with fail
       refine Calls.mono HK.out ?_
       rintro e u3 ⟨t8,n8,p3,rfl,hcol,hlC,hpC',hbC⟩
       have hbC' := bal (Below.refl _ u3) (.cells #[.int .i64 2,.int .i64 0,.int .i64 0,.string ⟨#[]⟩,.string t8,.string n8,.slice none 0 0] 28)
       have hb34 := hbC.trans (But.of hbC')
       have hU4 := hU.trans hb34
       have hV4 := hV.but hb34 (by omega)
       have hI4 := hI.keep fun b hb hl => hb34.block b hl (by omega)
       have hO4 := hO.but hb34 (by omega)
       have hF4 := hF.but hb34 (by omega) (by omega) (by omega)
       have hoI4 := hoI.but hb34 (by omega)
       have hoK4 := hoK.but hb34 (by omega)
       have hp4 := hpC'.later hbC'
       have hblk := hO.blk
       have xe := Be.new u3 2 (0,0,⟨#[]⟩,t8,n8) (.slice none 0 0)
       simp only at xe
       have hsC := hbC.size
       unfold exV
       simp only
       go_upto_region 29 with fail
       generalize u3.alloc (.cells #[.int .i64 2,.int .i64 0,.int .i64 0,.string ⟨#[]⟩,.string t8,.string n8,.slice none 0 0] 28) = u4 at *
       have hqe : B2 ≤ u3.heap.size := by omega
       generalize u3.heap.size = qe at *
       clear HK hU hV hI hO hF hoI hoK hpC' hbC hbC' hb34
       have y6 : u4.cell? ⟨q,6,none⟩ = some (.slice ao n9 c9) := hV4.cells.2.2.2.2.2.2.1
       have fy6 := hV4.free.2.2.2.2.2.2.1
       have hyq := hV4.lt
       obtain ⟨e0,e1,e2,e3,e4,e5,e6⟩ := xe.cells
       simp only at e0 e1 e2 e3 e4 e5 e6
       have hyl2 := xe.lt
       have ho5 := hO4.alloc (.cells #[.int .i64 0,.string t8,.string n8] 66)
       go_wp2_with (first | (at_builtin; refine wpList_appR Tryz.underlying22 Tryz.infoTItem rfl (by decide) (by decide) rfl (.tmp 143) (.tmp 149) rfl _ (l.map itC) u4.heap.size [.int .i64 0,.string t8,.string n8] rfl rfl ho5 rfl (one_item _ _ _) (new3 u4 _ _ _ _) (by simp; omega) (by rw [World.size_alloc]; omega) ?_) | fail)
       intro v' w6' hO6 hg6 hown
       obtain ⟨ao',m',c'',rfl⟩ := hO6.sl
       have v6 := bs_grown (hV4.later (bal (Below.refl _ u4) (.cells #[.int .i64 0,.string t8,.string n8] 66))) hg6 (fun k e => by have := (hblk k e).1; omega)
       have cz : w6'.cell? ⟨q,6,none⟩ = some (.slice ao n9 c9) := v6.cells.2.2.2.2.2.2.1
       have fz := v6.free.2.2.2.2.2.2.1
       have hzl := v6.lt
       have hG : But g u4 (u4.alloc (.cells #[.int .i64 0,.string t8,.string n8] 66)) := (But.refl g u4).alloc _
       have hg6' : (u4.alloc (.cells #[.int .i64 0,.string t8,.string n8] 66)).grownBy w6' (slV (ao,n9,c9)).ownBlock := hg6
       have hU7 := (((hU4.trans hG).grown hg6' (fun k e => by have := (hblk k e).1; rw [← HX.out]; omega)).new (r := q) (by rw [← HX.out]; omega) 6 (.slice ao' m' c''))
       have hV7 := v6.set6 (ao',m',c'')
       have hI7 := ((hI4.keep fun b hb hl => hG.block b hl (by omega)).keep (w' := w6') fun b hb hl => hg6'.block b hl fun e => by have := (hblk b e.symm).1; omega).keep (w' := w6'.setCell ⟨q,6,none⟩ (.slice ao' m' c'')) fun b hb _ => Below.heap_setCell _ _ _ _ (by show b ≠ q; omega)
       have hO7 : OwnR 66 3 B2 (w6'.setCell ⟨q,6,none⟩ (.slice ao' m' c'')) (slV (ao',m',c'')) ((l ++ [(0,t8,n8)]).map itC) := by
        have := hO6.set (b := q) (by omega) 6 (.slice ao' m' c'')
        simpa [itC] using this
       have hF7 := ((hF4.but hG (by omega) (by omega) (by omega)).grown hg6' (fun k e => by have := (hblk k e).1; omega)).other (b := q) (by omega) (by omega) (by omega) 6 (.slice ao' m' c'')
       have hoI5 := hoI4.but hG (by omega)
       have hoK5 := hoK4.but hG (by omega)
       have hoI7 := (hoI5.far hg6' hapI).set (by omega : q < q + 1) 6 (.slice ao' m' c'')
       have hoK7 := (hoK5.far hg6' hapK).set (by omega : q < q + 1) 6 (.slice ao' m' c'')
       have hown' : (slV (ao',m',c'')).ownBlock = (slV (ao,n9,c9)).ownBlock ∨ (slV (ao',m',c'')).ownBlock = some (u4.alloc (.cells #[.int .i64 0,.string t8,.string n8] 66)).heap.size := by first | exact hown | simpa using hown
       have hapI7 := Apart.grew hapI hoI5 hown'
       have hapK7 := Apart.grew hapK hoK5 hown'
       have hp7 := (((hp4.alloc _).grown hg6' (fun k e => by have := (hblk k e).1; omega)).other (b := q) (by omega) 6 (.slice ao' m' c''))
       have hz7 : B2 ≤ (w6'.setCell ⟨q,6,none⟩ (.slice ao' m' c'')).heap.size := by rw [size_set]; have := hg6'.size; rw [World.size_alloc] at this; have := hqe; omega
       have hl7 := hl.on (b := r5) (c := p3) (by have := hlq.1; omega)
       clear ho5 hO6 hg6 hown hG hg6' hU4 hV4 hI4 hF4 hO4 hoI4 hoK4 hp4 hoI5 hoK5 hown' hblk e0 e1 e2 e3 e4 e5 e6 y6 xe fy6 hyq
       go_wp2
       go_roundw
       case rel =>
        refine ⟨i,l ++ [(0,t8,n8)],(ao',m',c''),p3,by go_num,by simp; omega,fun x hx' => ?_,hU7,hV7,hI7,hO7,hF7,hoI7,hoK7,hapI7,hapK7,hp7,hl7,hz7⟩
        rw [List.mem_append,List.mem_singleton] at hx'
        rcases hx' with hx' | rfl
        ·exact hx x hx'
        ·exact ⟨rfl,1 + (c2 : Int),hkd,hcol⟩
       case measure => simp only [intOf]; omega
    ·have g1 : ((k6 : Int) == 1) = false := by simp; omega
     have HJ : Hid _ := hid (⟨[],_,r6,hS6,.inl ⟨by decide,by simp,id⟩,hF6,hoI6,hoK6,hp6,hl7,hB6⟩ : ∃ its s' r',Sj g B q w w6 ⟨6,tb.1,⟨#[]⟩,[],[],[],its,jn,on,wl,[],false⟩ s' ∧ ItsOK C its False ∧ Fb w6 zx zy zz bt ct va vn vc tb.1 a n c a' n' c' ∧ OwnR 66 3 (q + 1) w6 (.slice i1 C.length j1) (C.map fun x => itC x.1) ∧ OwnR 3 1 (q + 1) w6 (.slice i2 C.length j2) (C.map fun x => [.int .i64 x.2]) ∧ Pk w6 g r' ∧ Less r r' ∧ B ≤ w6.heap.size)
     clear hS6 hF6 hoI6 hoK6 hp6
     go_wp2_with fail
     go_meet
     exact HJ.out
  case rest =>
   clear hS6 hF6 hoI6 hoK6 hp6 hB6 hl7
   obtain ⟨its,s2,r8,hS_,hIts,hF_,hoI_,hoK_,hp_,hl_,hB_⟩ := hcut
   have HN30 : Hid _ := hid (num_any hp_ 3 (by decide) (by decide))
   go_wp2_with fail
   refine Calls.mono HN30.out ?_
   rintro e u1 ⟨c1,p1,rfl,hc1,hlA,hpA,hbA⟩
   have hSA := hS_.next hbA (by omega) (by omega)
   have hFA := hF_.but hbA (by omega) (by omega) (by omega)
   have hoIA := hoI_.but hbA (by omega)
   have hoKA := hoK_.but hbA (by omega)
   have hsA := hbA.size
   clear HN30 hS_ hF_ hoI_ hoK_ hp_ hbA
   go_upto_if 154 with fail
   go_cut [] (fun w' => ∃ od d s' r',Sj g B q w w' ⟨6,tb.1,⟨#[]⟩,[],[],[],its,jn,on,wl,od,d⟩ s' ∧ OdOK C od (d = true) False ∧ Fb w' zx zy zz bt ct va vn vc tb.1 a n c a' n' c' ∧ Pk w' g r' ∧ Less r r')
   case first =>
    by_cases hz : c1 = 0
    ·subst hz
     have HN31 : Hid _ := hid (num_any hpA 2 (by decide) (by decide))
     go_wp2_with fail
     refine Calls.mono HN31.out ?_
     rintro e u2 ⟨c2,p2,rfl,hc2,hlB,hpB,hbB⟩
     have hSB := hSA.next hbB (by omega) (by omega)
     have hFB := hFA.but hbB (by omega) (by omega) (by omega)
     have hoIB := hoIA.but hbB (by omega)
     have hoKB := hoKA.but hbB (by omega)
     have hCB := (Cols.of (g := g) hoIB hoKB (by omega) hf hone htwo).2.2
     have hkd : (1 : Int) + (c2 : Int) = 1 ∨ (1 : Int) + (c2 : Int) = 2 := by omega
     have HK : Hid _ := hid (col_any hpB hCB.its hCB.kds hCB.few (1 + (c2 : Int)) (hCB.has hkd))
     have hsB := hbB.size
     clear HN31 hSA hFA hoIA hoKA hpA hpB hbB hCB hoIB hoKB
     go_wp2_with fail
     refine Calls.mono HK.out ?_
     rintro e u3 ⟨t8,n8,p3,rfl,hcol,hlC,hpC',hbC⟩
     have hbC' := bal (Below.refl _ u3) (.cells #[.int .i64 2,.int .i64 0,.int .i64 0,.string ⟨#[]⟩,.string t8,.string n8,.slice none 0 0] 28)
     have hSC := (hSB.next hbC (by omega) (by omega)).later hbC'
     have hFC := (hFB.but hbC (by omega) (by omega) (by omega)).but (But.of (g := g) hbC') (by omega) (by omega) (by omega)
     have hpC := hpC'.later hbC'
     have xe := Be.new u3 2 (0,0,⟨#[]⟩,t8,n8) (.slice none 0 0)
     simp only at xe
     have hsC := hbC.size
     unfold exV
     simp only
     go_upto_region 32 with fail
     generalize u3.alloc (.cells #[.int .i64 2,.int .i64 0,.int .i64 0,.string ⟨#[]⟩,.string t8,.string n8,.slice none 0 0] 28) = u4 at *
     have hqe : B ≤ u3.heap.size := by omega
     generalize u3.heap.size = qe at *
     clear HK hSB hFB hpC' hbC hbC'
     have HKs : Hid (∀ w',But g u4 w' → w'.cell? ⟨qe,0,none⟩ = some (.int .i64 2) ∧ w'.cell? ⟨qe,1,none⟩ = some (.int .i64 0) ∧ w'.cell? ⟨qe,2,none⟩ = some (.int .i64 0) ∧ w'.cell? ⟨qe,3,none⟩ = some (.string ⟨#[]⟩) ∧ w'.cell? ⟨qe,4,none⟩ = some (.string t8) ∧ w'.cell? ⟨qe,5,none⟩ = some (.string n8) ∧ w'.cell? ⟨qe,6,none⟩ = some (.slice none 0 0)) := hid fun w' hb => (xe.but hb (by omega)).cells
     have HNum : Hid (∀ w',But g u4 w' → Pk w' g p3 → Calls Tryz.prog 39 #[.pointer (some ⟨g,0,none⟩),.int .i64 2] w' fun e w'' => ∃ k r',e = .returned (.int .i64 ((k : Nat) : Int)) ∧ k < 2 ∧ Less p3 r' ∧ Pk w'' g r' ∧ But g w' w'') := hid fun w' _ hp => num_any (w := w') hp 2 (by decide) (by decide)
     have hD : But g u4 u4.drew := But.of (Below.refl _ u4).drew
     have hpD := hpC.later (Below.refl _ u4).drew
     have HFin : Hid (∀ w' (d : Bool) p4 bb,But g u4 w' → Pk w' g p4 → p4 ≤ p3 → RowIs eExpr (fun b => B ≤ b) w' (.slice (some ⟨bb,0,none⟩) 1 1) [tCol t8 n8] → q < w'.heap.size ∧ w'.cell? ⟨q,10,none⟩ = some (.slice s2.od.1 s2.od.2.1 s2.od.2.2) ∧ w'.cell? ⟨q,11,none⟩ = some (.bool s2.ds) ∧ w'.frozen? ⟨q,10,none⟩ = false ∧ w'.frozen? ⟨q,11,none⟩ = false ∧ Hid (∃ od d' s' r',Sj g B q w ((w'.setCell ⟨q,10,none⟩ (.slice (some ⟨bb,0,none⟩) 1 1)).setCell ⟨q,11,none⟩ (.bool d)) ⟨6,tb.1,⟨#[]⟩,[],[],[],its,jn,on,wl,od,d'⟩ s' ∧ OdOK C od (d' = true) False ∧ Fb ((w'.setCell ⟨q,10,none⟩ (.slice (some ⟨bb,0,none⟩) 1 1)).setCell ⟨q,11,none⟩ (.bool d)) zx zy zz bt ct va vn vc tb.1 a n c a' n' c' ∧ Pk ((w'.setCell ⟨q,10,none⟩ (.slice (some ⟨bb,0,none⟩) 1 1)).setCell ⟨q,11,none⟩ (.bool d)) g r' ∧ Less r r')) := hid fun w' d p4 bb hb hp hl hrow => by
      have hS' := hSC.next hb (by omega) (by omega)
      refine ⟨hS'.box.lt,hS'.box.cells.2.2.2.2.2.2.2.2.2.2.1,hS'.box.cells.2.2.2.2.2.2.2.2.2.2.2.1,hS'.box.free.2.2.2.2.2.2.2.2.2.2.1,hS'.box.free.2.2.2.2.2.2.2.2.2.2.2.1,hid ⟨[tCol t8 n8],d,_,p4,hS'.oo (v := (some ⟨bb,0,none⟩,1,1)) (by rw [← HX.out]; omega) hqB hrow d,.inr ⟨id,1 + (c2 : Int),t8,n8,hkd,hcol,rfl⟩,((hFC.but hb (by omega) (by omega) (by omega)).other (by omega) (by omega) (by omega) 10 _).other (by omega) (by omega) (by omega) 11 _,(hp.other (by omega) 10 _).other (by omega) 11 _,hl_.on (by have := hlA.1; have := hlB.1; omega)⟩⟩
     have HQ : Hid (∀ w',But g u4 w' → q < w'.heap.size ∧ w'.cell? ⟨q,10,none⟩ = some (.slice s2.od.1 s2.od.2.1 s2.od.2.2) ∧ w'.cell? ⟨q,11,none⟩ = some (.bool s2.ds) ∧ w'.frozen? ⟨q,10,none⟩ = false ∧ w'.frozen? ⟨q,11,none⟩ = false) := hid fun w' hb => by
      have hS' := hSC.next hb (by omega) (by omega)
      exact ⟨hS'.box.lt,hS'.box.cells.2.2.2.2.2.2.2.2.2.2.1,hS'.box.cells.2.2.2.2.2.2.2.2.2.2.2.1,hS'.box.free.2.2.2.2.2.2.2.2.2.2.1,hS'.box.free.2.2.2.2.2.2.2.2.2.2.2.1⟩
     have hDa : But g u4 (u4.alloc (.cells #[.int .i64 2,.int .i64 0,.int .i64 0,.string ⟨#[]⟩,.string t8,.string n8,.slice none 0 0] 28)).drew := hD.alloc (.cells #[.int .i64 2,.int .i64 0,.int .i64 0,.string ⟨#[]⟩,.string t8,.string n8,.slice none 0 0] 28)
     have hpDa : Pk (u4.alloc (.cells #[.int .i64 2,.int .i64 0,.int .i64 0,.string ⟨#[]⟩,.string t8,.string n8,.slice none 0 0] 28)).drew g p3 := hpD.alloc (.cells #[.int .i64 2,.int .i64 0,.int .i64 0,.string ⟨#[]⟩,.string t8,.string n8,.slice none 0 0] 28)
     have hne : qe ≠ q := by omega
     have hu4 : B ≤ u4.heap.size := by have := xe.lt; omega
     have HK2 : Hid (∀ w' : World,w'.heap[qe]? = u4.heap[qe]? → w'.cell? ⟨qe,0,none⟩ = some (.int .i64 2) ∧ w'.cell? ⟨qe,1,none⟩ = some (.int .i64 0) ∧ w'.cell? ⟨qe,2,none⟩ = some (.int .i64 0) ∧ w'.cell? ⟨qe,3,none⟩ = some (.string ⟨#[]⟩) ∧ w'.cell? ⟨qe,4,none⟩ = some (.string t8) ∧ w'.cell? ⟨qe,5,none⟩ = some (.string n8) ∧ w'.cell? ⟨qe,6,none⟩ = some (.slice none 0 0)) := hid fun w' hb => (xe.keep hb).cells
     have HB : Hid (∀ w',But g u4 w' → w'.heap[qe]? = u4.heap[qe]? ∧ qe < w'.heap.size) := hid fun w' hb => ⟨hb.block qe xe.lt (by omega),Nat.lt_of_lt_of_le xe.lt hb.size⟩
     clear hSC hFC hpC xe hcol
     go_region_held3 (fun w' => w'.cell? ⟨qe,0,none⟩ = some (.int .i64 2) ∧ w'.cell? ⟨qe,1,none⟩ = some (.int .i64 0) ∧ w'.cell? ⟨qe,2,none⟩ = some (.int .i64 0) ∧ w'.cell? ⟨qe,3,none⟩ = some (.string ⟨#[]⟩) ∧ w'.cell? ⟨qe,4,none⟩ = some (.string t8) ∧ w'.cell? ⟨qe,5,none⟩ = some (.string n8) ∧ w'.cell? ⟨qe,6,none⟩ = some (.slice none 0 0)) (first | exact HKs.out _ hE | exact HKs.out _ (hE.alloc _) | exact HKs.out _ hD | exact HKs.out _ hDa | exact HKs.out _ (hD.alloc _) | exact HK2.out _ ((Below.heap_setCell _ _ _ _ hne).trans hH5) | exact HK2.out _ ((Below.heap_setCell _ _ _ _ hne).trans ((Below.heap_setCell _ _ _ _ hne).trans hH5)) | exact HK2.out _ ((Below.heap_alloc _ _ _ (by rw [size_set]; exact hl5)).trans ((Below.heap_setCell _ _ _ _ hne).trans hH5)) | exact HK2.out _ ((Below.heap_alloc _ _ _ (by rw [size_set,size_set]; exact hl5)).trans ((Below.heap_setCell _ _ _ _ hne).trans ((Below.heap_setCell _ _ _ _ hne).trans hH5))))
      ((first
       | (go_at_call 39; with_reducible refine Calls.mono (HNum.out _ hD hpD) ?_; rintro e u5 ⟨c5,p5,rfl,hc5,hlE,hpE,hbE⟩; have hE := hD.trans hbE; have hFirst := hE; obtain ⟨hq1,y10,y11,z10,z11⟩ := HQ.out _ hE; obtain ⟨hH5,hl5⟩ := HB.out _ hE)
       | (go_at_call 39; with_reducible refine Calls.mono (HNum.out _ hDa hpDa) ?_; rintro e u5 ⟨c5,p5,rfl,hc5,hlE,hpE,hbE⟩; have hE := hDa.trans hbE; obtain ⟨hq1,y10,y11,z10,z11⟩ := HQ.out _ hE; obtain ⟨hH5,hl5⟩ := HB.out _ hE)))
     all_goals
      clear HKs HNum HK2 HB HQ
      go_wp2_with fail
      go_meet
      first
       | (have h9 := (HFin.out (u5.alloc (.cells #[.int .i64 2,.int .i64 0,.int .i64 0,.string ⟨#[]⟩,.string t8,.string n8,.slice none 0 0] 28)) ((c5 : Int) == 0) p5 u5.heap.size (hFirst.alloc _) (hpE.alloc _) hlE.1 (rowC1 u5 t8 n8 (by have := hE.size; omega))).2.2.2.2.2.out; rw [World.setCell_alloc_past _ _ _ _ hq1,World.setCell_alloc_past _ _ _ _ (by rw [size_set]; exact hq1)] at h9; exact h9)
       | exact (HFin.out u5 ((c5 : Int) == 0) p5 u4.heap.size hE hpE hlE.1 ((rowC1 u4.drew t8 n8 (Q := fun b => B ≤ b) hu4).keep (by decide) fun b hB hl => hbE.block b hl (by omega))).2.2.2.2.2.out
    ·have gz : ((c1 : Int) == 0) = false := by simp; omega
     have HJ : Hid _ := hid (⟨[],false,_,p1,hSA,.inl ⟨rfl,by decide⟩,hFA,hpA,hl_.on hlA.1⟩ : ∃ od d s' r',Sj g B q w u1 ⟨6,tb.1,⟨#[]⟩,[],[],[],its,jn,on,wl,od,d⟩ s' ∧ OdOK C od (d = true) False ∧ Fb u1 zx zy zz bt ct va vn vc tb.1 a n c a' n' c' ∧ Pk u1 g r' ∧ Less r r')
     clear hSA hFA hpA hoIA hoKA
     go_wp2_with fail
     go_meet
     exact HJ.out
   case rest =>
    obtain ⟨od,d,s',r9,hS9,hod,hF9,hp9,hl9⟩ := hcut
    have cS := hS9.box.cells
    have cR := hF9.res.cells
    have fR := hF9.res.free
    have hyq := hS9.box.lt
    have hyz := hF9.res.lt
    have T : Hid (TeSt g r w (SelOK tb) (.returned (stV s')) (set13 _ zz s')) := hid (TeSt.fin hS9 ⟨C,_,_,_,_,_,_,False,hJn,hwl,hIts,hod,rfl⟩ hl9 hp9 (by rw [← HX.out]; omega) (by rw [← HX.out]; omega) (by omega))
    obtain ⟨k0,k1,k2,k3,k4,k5,k6,k7,k8,k9,k10,k11,k12⟩ := cS
    obtain ⟨d0,d1,d2,d3,d4,d5,d6,d7,d8,d9,d10,d11,d12⟩ := cR
    obtain ⟨f0,f1,f2,f3,f4,f5,f6,f7,f8,f9,f10,f11,f12⟩ := fR
    clear hS9 hF9 hp9 hod hpA hSA hFA hoIA hoKA
    unfold stV set13 at T
    go_wp2
    refine bodyPost_ret (v := stV s') (by simp [results,Tryz.results42,go_sem,stV,d0,d1,d2,d3,d4,d5,d6,d7,d8,d9,d10,d11,d12]) rfl ?_
    exact T.out
end Go.Proofs.YtljmlacnfnmjbaaGreat
