import Derived.Test.YtljmlacnfnmjbaaGreatTmac
import Derived.Test.YtljmlacnfnmjbaaGreatTmab
import Derived.Deep.RegionLaw
namespace Go.Proofs.YtljmlacnfnmjbaaGreat
open Go.RowKit
set_option linter.unusedVariables false

theorem below_grows {B : Nat} {a w w' : World} {row : Option Nat} (h : Below B a w) (hB : B ≤ w.heap.size) (hg : w.grownBy w' row) (hrow : ∀ k,row = some k → B ≤ k) : Below B a w' :=
 h.trans ⟨hg.os,hg.tape,hg.output,hg.size,fun i hi => hg.block i (by omega) fun e => by have := hrow i e.symm; omega⟩
/-- The cells of a column among those of a kind. -/
def itC (x : It) : List Value := [.int .i64 x.1,.string x.2.1,.string x.2.2]
def ofK (C : Cl2) (kind : Int) : List It := (C.filter fun x => decide (x.2 = kind)).map Prod.fst
theorem ofK_step {C : Cl2} {kind : Int} {k : Nat} (hk : k < C.length) : ofK (C.take (k + 1)) kind = ofK (C.take k) kind ++ if C[k].2 = kind then [C[k].1] else [] := by
 rw [ofK,ofK,List.take_succ_eq_append_getElem hk,List.filter_append,List.map_append]
 congr 1
 by_cases h : C[k].2 = kind <;> simp [h]
theorem ofK_len (C : Cl2) (kind : Int) : (ofK C kind).length ≤ C.length := by rw [ofK,List.length_map]; exact List.length_filter_le _ _
theorem ofK_mem {C : Cl2} {kind : Int} {x : It} (h : x ∈ ofK C kind) : ∃ y ∈ C,y.2 = kind ∧ y.1 = x := by
 rw [ofK,List.mem_map] at h
 obtain ⟨y,hy,e⟩ := h
 rw [List.mem_filter] at hy
 exact ⟨y,hy.1,by simpa using hy.2,e⟩
/-- A column of a kind among some; its table is told,or needs not be. -/
def ColOK (C : Cl2) (kind : Int) (tb nm : ByteArray) : Prop := ∃ x ∈ C,x.2 = kind ∧ nm = x.1.2.2 ∧ (tb = x.1.2.1 ∨ (tb = ⟨#[]⟩ ∧ cnt C nm = 1))

set_option maxRecDepth 100000 in
set_option maxHeartbeats 4000000 in
theorem col_any {g r : Nat} {w : World} (h : Pk w g r) {C : Cl2} {a a2 : Option Addr} {n c n2 c2 : Nat} (hc : RowIs eItem (fun b => b ≠ g) w (.slice a n c) (C.map Prod.fst)) (hk : RowIs eInt (fun b => b ≠ g) w (.slice a2 n2 c2) (C.map Prod.snd)) (hn : C.length ≤ 100) (kind : Int) (hx : ∃ x ∈ C,x.2 = kind) :
  Calls Tryz.prog 46 #[.pointer (some ⟨g,0,none⟩),.slice a n c,.slice a2 n2 c2,.int .i64 kind] w fun e w' => ∃ tb nm r',e = .returned (.tuple #[exV 2 (0,0,⟨#[]⟩,tb,nm) (.slice none 0 0),.bool true]) ∧ ColOK C kind tb nm ∧ r' ≤ r ∧ Pk w' g r' ∧ But g w w' := by
 have hgl := h.lt
 have hl1 : n = C.length := by obtain ⟨ao,n',c',hv,hl,_⟩ := hc; cases hv; rw [← hl,List.length_map]
 have hl2 : n2 = C.length := by obtain ⟨ao,n',c',hv,hl,_⟩ := hk; cases hv; rw [← hl,List.length_map]
 subst hl1
 obtain rfl : C.length = n2 := hl2.symm
 have HK : Hid (∀ k (hk : k < C.length),∃ b o b2 o2 x,a = some ⟨b,o,none⟩ ∧ a2 = some ⟨b2,o2,none⟩ ∧ b < w.heap.size ∧ b2 < w.heap.size ∧ C[k].1 = x ∧ w.cell? ⟨b2,o2 + k,none⟩ = some (.int .i64 C[k].2) ∧ (w.cell? ⟨b,o + k * 3,none⟩ = some (.int .i64 x.1) ∧ w.cell? ⟨b,o + k * 3 + 1,none⟩ = some (.string x.2.1) ∧ w.cell? ⟨b,o + k * 3 + 2,none⟩ = some (.string x.2.2))) := hid fun k hkk => by
  have h1 : k < (C.map Prod.fst).length := by rw [List.length_map]; omega
  have h2 : k < (C.map Prod.snd).length := by rw [List.length_map]; omega
  obtain ⟨b,o,ha,_,q0,q1,q2⟩ := hc.item1 h1
  obtain ⟨b2,o2,ha2,_,q3⟩ := hk.int1 h2
  rw [List.getElem_map] at q0 q1 q2 q3
  exact ⟨b,o,b2,o2,_,ha,ha2,World.block_lt_of_cell? _ _ q0,World.block_lt_of_cell? _ _ q3,rfl,q3,q0,q1,q2⟩
 have HO : Hid (∀ nm w',But g w w' → Calls Tryz.prog 77 #[.slice a C.length c,.string nm] w' fun e w'' => e = .returned (.bool (decide (cnt C nm = 1))) ∧ w'' = w') := hid fun nm w' hb => once_any (hc.keep (by decide) fun b hq hlt => hb.block b hlt hq) hn nm
 have b0 : Be (w.alloc zE) w.heap.size 0 nilP (.slice none 0 0) := Be.new w 0 nilP (.slice none 0 0)
 have HX : Hid (ofK C kind ≠ []) := hid (by
  obtain ⟨x,hm,e⟩ := hx
  intro he
  have : x.1 ∈ ofK C kind := by rw [ofK,List.mem_map]; exact ⟨x,List.mem_filter.2 ⟨hm,by simpa using e⟩,rfl⟩
  rw [he] at this
  cases this)
 have HP0 : Hid _ := hid h
 have hB0 : Below w.heap.size w (w.alloc zE) := bal (Below.refl _ _) _
 have hp0 := h.alloc zE
 clear h hc hk hx
 go_enter Tryz.func46,Tryz.ntmps46
 go_wp2
 generalize hW : w.alloc (.cells #[.int .i64 0,.int .i64 0,.int .i64 0,.string ⟨#[]⟩,.string ⟨#[]⟩,.string ⟨#[]⟩,.slice none 0 0] 28) = W at *
 have hWs : W.heap.size = w.heap.size + 1 := by rw [← hW]; simp
 have hW0 : W.ownsRow (w.heap.size + 1) 66 3 (.slice none 0 0) 0 [] := ⟨rfl,.inl ⟨rfl,rfl⟩⟩
 clear hW
 go_loopw [10,11] (fun v i wr => ∃ (k : Nat) (css : List (List Value)),k ≤ C.length ∧ i = .int .i64 k ∧ OwnR 66 3 (w.heap.size + 1) wr v css ∧ css.length ≤ 100 ∧ Hid (css = (ofK (C.take k) kind).map itC) ∧ Below W.heap.size W wr) (fun _ i _ => C.length - (intOf i).toNat)
 case atStart => exact ⟨0,[],Nat.zero_le _,rfl,⟨by simp,hW0⟩,by simp,hid rfl,Below.refl _ _⟩
 case round =>
  obtain ⟨k,css,hk,rfl,ho,hcl,HC,hb⟩ := hrel
  by_cases hlt : k < C.length
  ·obtain ⟨b,o,b2,o2,x,rfl,rfl,hbl,hbl2,hx,q3,q0,q1,q2⟩ := HK.out k hlt
   have hbw : Below w.heap.size w wr := Below.on hB0 hb
   replace q0 := cell_later hbw q0
   replace q1 := cell_later hbw q1
   replace q2 := cell_later hbw q2
   replace q3 := cell_later hbw q3
   have hst := ofK_step (kind := kind) hlt
   have hle := ofK_len (C.take (k + 1)) kind
   rw [List.length_take] at hle
   have i0 : (0 : Int) ≤ (k : Int) := by omega
   have i1 : (k : Int) < (C.length : Int) := by omega
   obtain ⟨x0,x1,x2⟩ := x
   simp only at q0 q1 q2
   by_cases hxk : C[k].2 = kind
   ·rw [if_pos hxk,hx] at hst
    rw [hxk] at q3
    have HS : Hid _ := hid hst
    have ho2 := ho.alloc (.cells #[.int .i64 x0,.string x1,.string x2] 66)
    have hb2 := bal hb (.cells #[.int .i64 x0,.string x1,.string x2] 66)
    have hblk := ho.blk
    rw [hst,List.length_append] at hle
    clear hst HK hx hxk ho
    go_wp2_with (first | (at_builtin; go_must (refine wpList_appR Tryz.underlying22 Tryz.infoTItem rfl (by decide) (by decide) rfl (.tmp 32) (.tmp 37) rfl _ css wr.heap.size [.int .i64 x0,.string x1,.string x2] rfl rfl ho2 rfl (by simp [Value.oneCell']) ?_ (by omega) (by have := hb2.size; omega) ?_)) | fail)
    ·intro j hj
     have hj' : j < 3 := hj
     match j,hj' with
     | 0,_ => exact cell_new wr _ _ _ 0
     | 1,_ => exact cell_new wr _ _ _ 1
     | 2,_ => exact cell_new wr _ _ _ 2
    ·intro v' w6 hO6 hg6 hown
     have hb6 : Below W.heap.size W w6 := below_grows hb2 hb2.size hg6 fun k e => by have := (hblk k e).1; omega
     have HN : Hid (css ++ [[.int .i64 x0,.string x1,.string x2]] = (ofK (C.take (k + 1)) kind).map itC) := hid (by rw [HS.out,List.map_append,← HC.out]; rfl)
     have hl6 : (css ++ [[Value.int .i64 x0,.string x1,.string x2]]).length ≤ 100 := by
      rw [HN.out,List.length_map]
      have := ofK_len (C.take (k + 1)) kind
      rw [List.length_take] at this
      omega
     clear HC HS hg6 hown ho2 hb2 hblk q0 q1 q2 q3
     go_wp2
     go_roundw
     case rel => exact ⟨k + 1,_,by omega,by go_num,hO6,hl6,HN,hb6⟩
     case measure => simp only [intOf]; omega
   ·rw [if_neg hxk,List.append_nil] at hst
    have HS : Hid (css = (ofK (C.take (k + 1)) kind).map itC) := hid (by rw [hst]; exact HC.out)
    have gk : (C[k].2 == kind) = false := by simpa using hxk
    clear hst HK hx hxk HC
    generalize C[k].2 = kk at *
    go_wp2
    go_roundw
    case rel => exact ⟨k + 1,css,by omega,by go_num,ho,hcl,HS,hb⟩
    case measure => simp only [intOf]; omega
  ·obtain rfl : k = C.length := by omega
   have HC2 : Hid (css = (ofK C kind).map itC) := hid (by rw [HC.out,List.take_length])
   have hne : css ≠ [] := by rw [HC2.out]; intro e; exact HX.out (List.map_eq_nil_iff.1 e)
   rcases ho.2.2 with ⟨rfl,h0⟩ | ⟨gg,cap,cur,rfl,hgb,hrest⟩
   ·exact absurd (List.eq_nil_of_length_eq_zero h0) hne
   have hpos : 0 < css.length := List.length_pos_iff.2 hne
   have gl : ((css.length : Int) == 0) = false := by simp; omega
   have hpr := hp0.later hb
   have b1 := b0.later hb
   have HCell : Hid (∀ j,j < css.length → ∃ x : It,x ∈ ofK C kind ∧ wr.cell? ⟨gg,j * 3,none⟩ = some (.int .i64 x.1) ∧ wr.cell? ⟨gg,j * 3 + 1,none⟩ = some (.string x.2.1) ∧ wr.cell? ⟨gg,j * 3 + 2,none⟩ = some (.string x.2.2)) := hid fun j hj => by
    have hj2 : j < (ofK C kind).length := by rw [HC2.out,List.length_map] at hj; exact hj
    have hq : ∀ i,i < 3 → wr.cell? ⟨gg,j * 3 + i,none⟩ = (itC (ofK C kind)[j])[i]? := fun i hi => by
     have hlt2 : j * 3 + i < css.length * 3 := by omega
     have c0 := World.ownsRow.cellAt ho.2 (j * 3 + i) hlt2
     rw [c0,flat_at ho.1 hj hi]
     congr 1
     have : css[j]? = some (itC (ofK C kind)[j]) := by rw [HC2.out,List.getElem?_map,List.getElem?_eq_getElem hj2]; rfl
     rw [List.getElem?_eq_getElem hj] at this
     exact Option.some.inj this
    exact ⟨(ofK C kind)[j],List.getElem_mem _,hq 0 (by decide),hq 1 (by decide),hq 2 (by decide)⟩
   have hgl2 : gg < wr.heap.size := (Array.getElem?_eq_some_iff.1 hrest.1).1
   have HN : Hid _ := hid (num_any hpr css.length hpos (by omega))
   have hbw : But g w wr := But.of (Below.on hB0 hb)
   clear HC HX hrest ho HK hp0 b0
   go_wp2_with fail
   refine Calls.mono HN.out ?_
   rintro e w3 ⟨j,r3,rfl,hj,hl3,hp3,hb3⟩
   obtain ⟨x,hxm,q0,q1,q2⟩ := HCell.out j hj
   replace q0 := hb3.cell q0 (by show gg ≠ g; omega)
   replace q1 := hb3.cell q1 (by show gg ≠ g; omega)
   replace q2 := hb3.cell q2 (by show gg ≠ g; omega)
   have hB3 := hbw.trans hb3
   have b3 := b1.but hb3 (by omega)
   have hgg3 : gg < w3.heap.size := Nat.lt_of_lt_of_le hgl2 hb3.size
   obtain ⟨y,hy,hyk,hyx⟩ := ofK_mem hxm
   subst hyx
   have HY : Hid (y ∈ C ∧ y.2 = kind) := hid ⟨hy,hyk⟩
   clear HN HCell hpr b1 hxm hy hyk hbw hb3
   obtain ⟨⟨y0,y1,y2⟩,yk⟩ := y
   simp only at q0 q1 q2
   have i0 : (0 : Int) ≤ (j : Int) := by omega
   have i1 : (j : Int) < (css.length : Int) := by omega
   go_upto_region 11 with fail
   have hp4 := (hp3.alloc (.cells #[.int .i64 y0,.string y1,.string y2] 66)).alloc (.cells #[.int .i64 2,.int .i64 0,.int .i64 0,.string ⟨#[]⟩,.string y1,.string y2,.slice none 0 0] 28)
   have hB4 := (hB3.alloc (.cells #[.int .i64 y0,.string y1,.string y2] 66)).alloc (.cells #[.int .i64 2,.int .i64 0,.int .i64 0,.string ⟨#[]⟩,.string y1,.string y2,.slice none 0 0] 28)
   have hb34 := bal (bal (Below.refl _ w3) (.cells #[.int .i64 y0,.string y1,.string y2] 66)) (.cells #[.int .i64 2,.int .i64 0,.int .i64 0,.string ⟨#[]⟩,.string y1,.string y2,.slice none 0 0] 28)
   have b4 := b3.later hb34
   have e4 : Be ((w3.alloc (.cells #[.int .i64 y0,.string y1,.string y2] 66)).alloc (.cells #[.int .i64 2,.int .i64 0,.int .i64 0,.string ⟨#[]⟩,.string y1,.string y2,.slice none 0 0] 28)) (w3.heap.size + 1) 2 (0,0,⟨#[]⟩,y1,y2) (.slice none 0 0) := by
    have := Be.new (w3.alloc (.cells #[.int .i64 y0,.string y1,.string y2] 66)) 2 (0,0,⟨#[]⟩,y1,y2) (.slice none 0 0)
    rwa [World.size_alloc] at this
   have c4 : ((w3.alloc (.cells #[.int .i64 y0,.string y1,.string y2] 66)).alloc (.cells #[.int .i64 2,.int .i64 0,.int .i64 0,.string ⟨#[]⟩,.string y1,.string y2,.slice none 0 0] 28)).cell? ⟨w3.heap.size,2,none⟩ = some (.string y2) := cell_later (bal (Below.refl _ _) _) (cell_new w3 _ _ _ 2)
   have hz3 : w.heap.size < w3.heap.size := b3.lt
   clear hp3 hB3 b3 hb34 q0 q1 q2
   generalize (w3.alloc (.cells #[.int .i64 y0,.string y1,.string y2] 66)).alloc (.cells #[.int .i64 2,.int .i64 0,.int .i64 0,.string ⟨#[]⟩,.string y1,.string y2,.slice none 0 0] 28) = w4 at *
   generalize w3.heap.size = q at *
   have HN : Hid _ := hid (num_any hp4 3 (by decide) (by decide))
   go_wp2_with fail
   refine Calls.mono HN.out ?_
   rintro e w5 ⟨j5,r5,rfl,hj5,hl5,hp5,hb5⟩
   have hB5 := hB4.trans hb5
   have b5 := b4.but hb5 (by omega)
   have e5 := e4.but hb5 (by omega)
   have c5 := hb5.cell c4 (by show q ≠ g; omega)
   have hq5 := e5.lt
   clear HN hp4 hB4 b4 e4 c4 hb5
   by_cases h0 : j5 = 0
   ·subst h0
    obtain ⟨k0,k1,k2,k3,k4,k5,k6⟩ := e5.cells
    obtain ⟨d0,d1,d2,d3,d4,d5,d6⟩ := b5.cells
    obtain ⟨f0,f1,f2,f3,f4,f5,f6⟩ := b5.free
    have HE : Hid _ := hid (hp5.set7 (b := w.heap.size) hgl 2 (0,0,⟨#[]⟩,y1,y2) (.slice none 0 0))
    have HB : Hid _ := hid (hB5.set7 (b := w.heap.size) (Nat.le_refl _) 2 (0,0,⟨#[]⟩,y1,y2) (.slice none 0 0))
    have HR : Hid (ColOK C kind y1 y2) := hid ⟨_,HY.out.1,HY.out.2,rfl,.inl rfl⟩
    clear e5 b5 hp5 hB5 HO HY
    simp only at k0 k1 k2 k3 k4 k5 k6 d0 d1 d2 d3 d4 d5 d6
    go_wp2
    exact bodyPost_ret (v := .tuple #[exV 2 (0,0,⟨#[]⟩,y1,y2) (.slice none 0 0),.bool true]) (by simp [results,Tryz.results46,go_sem,exV,d0,d1,d2,d3,d4,d5,d6]) rfl ⟨y1,y2,r5,rfl,HR.out,by have := hl3.1; have := hl5.1; omega,HE.out,HB.out⟩
   ·have g5 : decide ((0 : Int) < (j5 : Int)) = true := by simp; omega
    have HO2 : Hid _ := hid (HO.out y2 w5 hB5)
    go_wp2_with fail
    refine Calls.mono HO2.out ?_
    rintro e w6 ⟨rfl,hw6⟩
    subst hw6
    clear HO2 HO
    by_cases h1 : cnt C y2 = 1
    ·have gd : decide (cnt C y2 = 1) = true := by simpa using h1
     rw [gd]
     have e6 := e5.set4 ⟨#[]⟩
     have b6 := b5.other (r := q + 1) (by omega) 4 (.string ⟨#[]⟩)
     have hp6 := hp5.other (b := q + 1) (by omega) 4 (.string ⟨#[]⟩)
     have hB6 := hB5.new (r := q + 1) (by omega) 4 (.string ⟨#[]⟩)
     obtain ⟨k0,k1,k2,k3,k4,k5,k6⟩ := e6.cells
     obtain ⟨d0,d1,d2,d3,d4,d5,d6⟩ := b6.cells
     obtain ⟨f0,f1,f2,f3,f4,f5,f6⟩ := b6.free
     have hf4 := e5.free.2.2.2.2.1
     have HE : Hid _ := hid (hp6.set7 (b := w.heap.size) hgl 2 (0,0,⟨#[]⟩,⟨#[]⟩,y2) (.slice none 0 0))
     have HB : Hid _ := hid (hB6.set7 (b := w.heap.size) (Nat.le_refl _) 2 (0,0,⟨#[]⟩,⟨#[]⟩,y2) (.slice none 0 0))
     have HR : Hid (ColOK C kind ⟨#[]⟩ y2) := hid ⟨_,HY.out.1,HY.out.2,rfl,.inr ⟨rfl,h1⟩⟩
     have hsz : (w6.setCell ⟨q + 1,4,none⟩ (.string ⟨#[]⟩)).heap.size = w6.heap.size := by simp [World.setCell]
     simp only at k0 k1 k2 k3 k4 k5 k6 d0 d1 d2 d3 d4 d5 d6
     clear b5 hp5 hB5 HY h1 gd e6 b6 hp6 hB6
     obtain ⟨j0,j1,j2,j3,j4,j5',j6⟩ := e5.cells
     clear e5
     go_upto_region 13 with fail
     generalize w6.setCell ⟨q + 1,4,none⟩ (.string ⟨#[]⟩) = w7 at *
     clear j0 j1 j2 j3 j4 j5' j6
     go_wp2
     exact bodyPost_ret (v := .tuple #[exV 2 (0,0,⟨#[]⟩,⟨#[]⟩,y2) (.slice none 0 0),.bool true]) (by simp [results,Tryz.results46,go_sem,exV,d0,d1,d2,d3,d4,d5,d6]) rfl ⟨⟨#[]⟩,y2,r5,rfl,HR.out,by have := hl3.1; have := hl5.1; omega,HE.out,HB.out⟩
    ·have gd : decide (cnt C y2 = 1) = false := by simpa using h1
     rw [gd]
     obtain ⟨k0,k1,k2,k3,k4,k5,k6⟩ := e5.cells
     obtain ⟨d0,d1,d2,d3,d4,d5,d6⟩ := b5.cells
     obtain ⟨f0,f1,f2,f3,f4,f5,f6⟩ := b5.free
     have HE : Hid _ := hid (hp5.set7 (b := w.heap.size) hgl 2 (0,0,⟨#[]⟩,y1,y2) (.slice none 0 0))
     have HB : Hid _ := hid (hB5.set7 (b := w.heap.size) (Nat.le_refl _) 2 (0,0,⟨#[]⟩,y1,y2) (.slice none 0 0))
     have HR : Hid (ColOK C kind y1 y2) := hid ⟨_,HY.out.1,HY.out.2,rfl,.inl rfl⟩
     clear e5 b5 hp5 hB5 HY h1 gd
     simp only at k0 k1 k2 k3 k4 k5 k6 d0 d1 d2 d3 d4 d5 d6
     go_wp2
     exact bodyPost_ret (v := .tuple #[exV 2 (0,0,⟨#[]⟩,y1,y2) (.slice none 0 0),.bool true]) (by simp [results,Tryz.results46,go_sem,exV,d0,d1,d2,d3,d4,d5,d6]) rfl ⟨y1,y2,r5,rfl,HR.out,by have := hl3.1; have := hl5.1; omega,HE.out,HB.out⟩
end Go.Proofs.YtljmlacnfnmjbaaGreat
namespace Go.Proofs.YtljmlacnfnmjbaaGreat
open Go.RowKit
set_option linter.unusedVariables false

theorem OwnR.sl {ty k B : Nat} {w : World} {v : Value} {css : List (List Value)} (h : OwnR ty k B w v css) : ∃ ao n c,v = .slice ao n c := by
 rcases h.2.2 with ⟨rfl,h0⟩ | ⟨gg,cap,cur,rfl,hrest⟩
 ·exact ⟨_,_,_,rfl⟩
 ·exact ⟨_,_,_,rfl⟩
theorem OwnR.nil (ty k B : Nat) (w : World) : OwnR ty k B w (.slice none 0 0) [] := ⟨fun cs h => by simp at h,by simp,.inl ⟨rfl,rfl⟩⟩
/-- A law for just this append. -/
theorem step_guard {P : Program} {Y : Nat → Option Bool} {o : Oper} {a : Act} {w : World} {K : Act → World → Prop} {Q : Exit → Act → World → Prop} {E : Prop} (s x : Operand) (t : TypeId)
  (h : o.op = Op.call { callee := Callee.builtin Builtin.append,args := #[s,x],argTypes := #[t,t] }) (g : if Region.wanted o Y = true then Oper.wp P o a w K Q else E) : if Region.wanted o Y = true then Oper.wp P o a w K Q else E := g
theorem step_appR {t ety : TypeId} {z : Value} {k bytes B : Nat} {ops : Array Oper} {o : Oper} {a : Act} {w : World} {K : Act → World → Prop} {Q : Exit → Act → World → Prop} {E : Prop}
  (hgd : o.guard = none) (s x : Operand) (ho : o.op = .call { callee := .builtin .append,args := #[s,x],argTypes := #[t,t] })
  (ht : Tryz.prog.underlying t = some (.slice ety)) (hinf : (Tryz.prog.info? ety).map (fun i => (i.zero,i.size,i.bytes)) = some (some z,k,bytes)) (hzs : z.cells.size = k) (hk : 0 < k) (hby : bytes ≤ 1000)
  (v : Value) (css : List (List Value)) (g : Nat) (cs : List Value) (hs : a.eval s = v) (hx : a.eval x = .slice (some ⟨g,0,none⟩) 1 1)
  (hown : OwnR ety k B w v css) (hcs : cs.length = k) (h1 : ∀ u ∈ cs,u.oneCell' = true) (hcell : ∀ j (hj : j < cs.length),w.cell? ⟨g,j,none⟩ = some cs[j]) (hl : css.length ≤ 1000) (hB : B ≤ w.heap.size)
  (h : ∀ v' w',OwnR ety k B w' v' (css ++ [cs]) → w.grownBy w' v.ownBlock → (v'.ownBlock = v.ownBlock ∨ v'.ownBlock = some w.heap.size) → K (a.put o.dst v') w') :
  if Region.wanted o (yielded ops a.tmps) = true then Oper.wp Tryz.prog o a w K Q else E := by
 have hw : Region.wanted o (yielded ops a.tmps) = true := by simp [Region.wanted,hgd]
 rw [if_pos hw]
 obtain ⟨v',w',hr,h2,h3,h4⟩ := run_appR ht hinf hzs hk hby w v css g cs hown hcs h1 hcell hl hB (ty := o.type)
 unfold Oper.wp execOp
 simp only [ho,resolve,invoke,builtin,Sem.run_bind,Sem.run_pure,Result.andThen_ok,List.map_toArray,List.map_cons,List.map_nil,hs,hx,hr]
 exact h v' w' h2 h3 h4
theorem new3 (w : World) (a b c : Value) (ty : TypeId) : ∀ j (hj : j < [a,b,c].length),(w.alloc (.cells #[a,b,c] ty)).cell? ⟨w.heap.size,j,none⟩ = some [a,b,c][j] := by
 intro j hj
 have hj' : j < 3 := hj
 match j,hj' with
 | 0,_ => exact cell_new w _ _ _ 0
 | 1,_ => exact cell_new w _ _ _ 1
 | 2,_ => exact cell_new w _ _ _ 2
theorem new7 (w : World) (a b c d e f h : Value) (ty : TypeId) : ∀ j (hj : j < [a,b,c,d,e,f,h].length),(w.alloc (.cells #[a,b,c,d,e,f,h] ty)).cell? ⟨w.heap.size,j,none⟩ = some [a,b,c,d,e,f,h][j] := by
 intro j hj
 have hj' : j < 7 := hj
 match j,hj' with
 | 0,_ => exact cell_new w _ _ _ 0
 | 1,_ => exact cell_new w _ _ _ 1
 | 2,_ => exact cell_new w _ _ _ 2
 | 3,_ => exact cell_new w _ _ _ 3
 | 4,_ => exact cell_new w _ _ _ 4
 | 5,_ => exact cell_new w _ _ _ 5
 | 6,_ => exact cell_new w _ _ _ 6
theorem one_item (k : Int) (a b : ByteArray) : ∀ u ∈ ([.int .i64 k,.string a,.string b] : List Value),u.oneCell' = true := by simp [Value.oneCell']
theorem one_col (a : ByteArray) (k : Int) (b : ByteArray) : ∀ u ∈ ([.string a,.int .i64 k,.string b] : List Value),u.oneCell' = true := by simp [Value.oneCell']
end Go.Proofs.YtljmlacnfnmjbaaGreat
