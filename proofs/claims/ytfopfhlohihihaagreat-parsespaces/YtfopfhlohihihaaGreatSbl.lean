import Derived.Test.YtfopfhlohihihaaGreatSbk
import Derived.Test.YtfopfhlohihihaaGreatSbm
import Derived.Test.YtfopfhlohihihaaGreatSat
namespace Go.Proofs.YtfopfhlohihihaaGreat
open Go.RowKit
set_option linter.unusedVariables false
set_option linter.unusedSimpArgs false
set_option maxRecDepth 100000 in
set_option maxHeartbeats 2000000 in
theorem fShow_select {m : Sm} {s : Sv} {Q : Nat → Prop} {w : World} (hk : m.kind = 6) {X : ByteArray} (hS : ∀ (w : World) (s : Sv),IsS Q w m s → Calls Tryz.prog 28 #[stV s] w fun e w' => e = .returned (.string X) ∧ Below w.heap.size w w') (h : IsS Q w m s) :
  Calls Tryz.prog 10 #[stV s] w fun e w' => e = .returned (.string X) ∧ Below w.heap.size w w' := by
 have HS : Hid (∀ w1,Below w.heap.size w w1 → _) := hid fun w1 hb => hS w1 s (h.keep fun b _ hl => hb.block b hl)
 have e0 := h.k.trans hk
 clear h hk hS
 obtain ⟨k,tb,nm,⟨coa,con,coc⟩,⟨taa,tan,tac⟩,⟨vaa,van,vac⟩,⟨ita,itn,itc⟩,jn,⟨ona,onn,onc⟩,⟨wha,whn,whc⟩,⟨oda,odn,odc⟩,ds,⟨inna,innn,innc⟩⟩ := s
 simp only at e0
 subst e0
 unfold stV at HS ⊢
 simp only at HS ⊢
 go_enter Tryz.func10,Tryz.ntmps10
 go_wp2_with fail
 refine Calls.mono (HS.out _ (bal (Below.refl _ w) _)) ?_
 rintro e w1 ⟨rfl,hb1⟩
 have hB := Below.on (bal (Below.refl _ w) _) hb1
 clear HS hb1
 go_wp2
 go_ret
 exact ⟨rfl,hB⟩
def AllP (l : List Pc) : Prop := ∀ p ∈ l,WdOK p.2
theorem AllP.nil : AllP [] := fun p h => absurd h (by simp)
theorem AllP.cons {k : Nat} {v : Wd} {l : List Pc} (h : WdOK v) (t : AllP l) : AllP ((k,v) :: l) := fun p hp => by
 rcases List.mem_cons.1 hp with rfl | hp
 ·exact h
 ·exact t p hp
theorem AllP.app {l m : List Pc} (h : AllP l) (t : AllP m) : AllP (l ++ m) := fun p hp => (List.mem_append.1 hp).elim (h p) (t p)
theorem AllP.words {l : List Pc} (h : AllP l) : ∀ w ∈ l.map Prod.snd,WdOK w := fun w hw => by
 obtain ⟨p,hp,rfl⟩ := List.mem_map.1 hw
 exact h p hp
theorem AllP.expr {t : Tr} (h : ∀ w ∈ wdE t,WdOK w) (sp : Nat) : AllP (pcE sp t) := fun p hp => h p.2 (by rw [← pcE_words t sp]; exact List.mem_map_of_mem hp)
theorem AllP.jpT {α : Type} {g : Nat → α → List Pc} : ∀ {l : List α},(∀ y ∈ l,∀ k,AllP (g k y)) → AllP (jpT g l)
 | [],_ => .nil
 | y :: l,h => .cons (.sign 44 (by decide)) ((h y (by simp) 1).app (AllP.jpT fun x hx => h x (by simp [hx])))
theorem AllP.jp {α : Type} {g : Nat → α → List Pc} {k : Nat} : ∀ {l : List α},(∀ y ∈ l,∀ k,AllP (g k y)) → AllP (jp g k l)
 | [],_ => .nil
 | y :: l,h => (h y (by simp) k).app (AllP.jpT fun x hx => h x (by simp [hx]))
def kwL : List ByteArray := [⟨#[99,114,101,97,116,101]⟩,⟨#[116,97,98,108,101]⟩,⟨#[105,110,100,101,120]⟩,⟨#[118,105,101,119]⟩,⟨#[99,108,111,115,117,114,101]⟩,⟨#[111,110]⟩,⟨#[105,110,115,101,114,116]⟩,⟨#[105,110,116,111]⟩,⟨#[118,97,108,117,101,115]⟩,⟨#[115,101,108,101,99,116]⟩,⟨#[102,114,111,109]⟩,⟨#[106,111,105,110]⟩,⟨#[119,104,101,114,101]⟩,⟨#[111,114,100,101,114]⟩,⟨#[98,121]⟩,⟨#[100,101,115,99]⟩,⟨#[117,112,100,97,116,101]⟩,⟨#[115,101,116]⟩,⟨#[100,101,108,101,116,101]⟩,⟨#[115,116,114,105,112]⟩,⟨#[97,115]⟩,⟨#[114,97,105,115,101]⟩,⟨#[99,97,108,108]⟩,⟨#[98,101,103,105,110]⟩,⟨#[99,111,109,109,105,116]⟩,⟨#[114,111,108,108,98,97,99,107]⟩,⟨#[105,110,116]⟩,⟨#[116,101,120,116]⟩,⟨#[114,101,102]⟩,⟨#[99,111,117,110,116]⟩,⟨#[115,117,109]⟩,⟨#[109,105,110]⟩,⟨#[109,97,120]⟩]
def nmL : List ByteArray := [⟨#[116]⟩,⟨#[117]⟩,⟨#[119]⟩,⟨#[120]⟩,⟨#[107]⟩,⟨#[118]⟩,⟨#[110]⟩,⟨#[114]⟩,⟨#[113]⟩,⟨#[100]⟩,⟨#[101]⟩,⟨#[102]⟩,⟨#[103]⟩]
theorem okK {s : ByteArray} (h : memB s kwL = true) : WdOK (kw s) := by
 have hs := mem_of h
 have tab : (kwL.all fun s => chkL s && isW s) = true := by decide +kernel
 have := List.all_eq_true.1 tab s hs
 rw [Bool.and_eq_true] at this
 exact ok_kw this.1 this.2
theorem okN {s : ByteArray} (h : s ∈ nmL) : WdOK (nm s) ∧ s.size = 1 := by
 have tab : (nmL.all fun s => chkL s && (!isW s && decide (s.size = 1))) = true := by decide +kernel
 have := List.all_eq_true.1 tab s h
 rw [Bool.and_eq_true,Bool.and_eq_true,decide_eq_true_eq] at this
 exact ⟨ok_nm this.1 (by simpa using this.2.1),this.2.2⟩
theorem okNm {s : ByteArray} {L : List ByteArray} (h : s ∈ L) (hL : (L.all fun x => memB x nmL) = true) : WdOK (nm s) ∧ s.size = 1 := okN (mem_of (List.all_eq_true.1 hL s h))
theorem okS (c : UInt8) (h : isO c = true) : WdOK (sg ⟨#[c]⟩) := .sign c h
theorem okT {z : Int} (h0 : 1 ≤ z) (h1 : z ≤ 3) : WdOK (3,⟨#[]⟩,z) := by
 obtain ⟨k,rfl⟩ := Int.eq_ofNat_of_zero_le (show 0 ≤ z by omega)
 exact .num k ⟨by omega,by omega⟩
def Shows (m : Sf) (X : ByteArray) : Prop := ∀ (Q : Nat → Prop) (w : World) (s : Sv),IsS Q w m.1 s → RowIs eStmt Q w (slV s.inn) m.2 → Calls Tryz.prog 10 #[stV s] w fun e w' => e = .returned (.string X) ∧ Below w.heap.size w w'
structure Good (m : Sf) (X : ByteArray) : Prop where
 shows : Shows m X
 text : bs X = ren (pcF m)
 sf : SfOK False m
 words : AllP (pcF m)
 few : X.size ≤ 200000
theorem nmC_of {tb : Tab} (h : tb = tabT ∨ tb = tabU) : NmC (colsOf tb) := by
 rcases h with rfl | rfl
 ·exact nmC_T
 ·exact nmC_U
theorem tbN {tb : Tab} (h : tb = tabT ∨ tb = tabU) : WdOK (nm tb.1) ∧ tb.1.size = 1 := by
 rcases h with rfl | rfl
 ·exact okN (mem_of rfl)
 ·exact okN (mem_of rfl)
theorem oth_or (tb : Tab) : oth tb = tabT ∨ oth tb = tabU := by
 unfold oth
 split
 ·exact .inr rfl
 ·exact .inl rfl
theorem wh_good {C : Cl2} (hC : NmC C) {l : List Tr} (h : WhOK C l) : One False l ∧ (∀ t ∈ l,WfT t) ∧ AllP (pcWh l) ∧ (∀ w ∈ wWh l,WdOK w) ∧ (whB l).size ≤ 1000 := by
 rcases h with rfl | ⟨t,rfl,h⟩
 ·exact ⟨.inl rfl,by simp,.nil,fun w hw => absurd hw (by simp [wWh,pcWh]),by decide⟩
 ·have hz := pl_size hC h
  have e : whB [t] = ⟨#[32,119,104,101,114,101,32]⟩ ++ shE t := rfl
  have e1 : (⟨#[32,119,104,101,114,101,32]⟩ : ByteArray).size = 7 := rfl
  have ha : AllP (pcWh [t]) := .cons (okK rfl) (.expr (pl_words hC h) 1)
  refine ⟨.inr ⟨t,rfl,pl_cnd h (by decide) False⟩,fun x hx => by rw [List.mem_singleton] at hx; subst hx; exact pl_wf hC h,ha,ha.words,?_⟩
  rw [e,ByteArray.size_append,e1]
  have : szN 5 = 889 := rfl
  omega
theorem joP_size {α : Type} {sep : ByteArray} {g : ByteArray → α → ByteArray} {B : Nat} : ∀ (l : List α) (s0 : ByteArray),(∀ s,∀ y ∈ l,(g s y).size ≤ s.size + B) → (l.foldl (fun s y => g (s ++ sep) y) s0).size ≤ s0.size + l.length * (B + sep.size)
 | [],s0,_ => by simp
 | y :: l,s0,h => by
  have h1 := joP_size l (g (s0 ++ sep) y) (B := B) (sep := sep) (g := g) fun s x hx => h s x (by simp [hx])
  have h2 := h (s0 ++ sep) y (by simp)
  rw [ByteArray.size_append] at h2
  rw [List.foldl_cons,List.length_cons,Nat.add_mul]
  omega
theorem star_size {l : List It} (h : ∀ x ∈ l,x.2.1.size ≤ 1000 ∧ x.2.2.size ≤ 1000) (hl : l.length ≤ 10) : (starB l).size ≤ 30000 := by
 cases l with
 | nil => decide
 | cons x l =>
  show (l.foldl (fun s y => itB (s ++ ⟨#[44,32]⟩) y) (itB ⟨#[115,101,108,101,99,116,32]⟩ x)).size ≤ 30000
  have h1 := joP_size l (itB ⟨#[115,101,108,101,99,116,32]⟩ x) (B := 2008) (sep := ⟨#[44,32]⟩) (g := itB) fun s y hy => itB_size s y (h y (by simp [hy])).1 (h y (by simp [hy])).2
  have h2 := itB_size ⟨#[115,101,108,101,99,116,32]⟩ x (h x (by simp)).1 (h x (by simp)).2
  have e1 : (⟨#[115,101,108,101,99,116,32]⟩ : ByteArray).size = 7 := rfl
  have e2 : (⟨#[44,32]⟩ : ByteArray).size = 2 := rfl
  rw [e2] at h1
  have h3 : l.length * (2008 + 2) ≤ 9 * 2010 := Nat.mul_le_mul (by simp at hl; omega) (by omega)
  omega
theorem col_size {C : Cl2} (hC : NmC C) {k : Int} {a n : ByteArray} (h : ColOK C k a n) : (shE (tCol a n)).size ≤ 5 ∧ WfT (tCol a n) ∧ (∀ w ∈ wdE (tCol a n),WdOK w) ∧ a.size ≤ 2 ∧ n.size ≤ 2 := by
 obtain ⟨h1,h2,h3,h4⟩ := col_ok hC h
 refine ⟨?_,⟨⟨(⟨by decide,by decide⟩ : Fits 0),Nat.zero_le _,Nat.le_trans h3 (by decide),Nat.le_trans h4 (by decide)⟩,.inl (.inr rfl)⟩,col_words_ok h1 h2,h3,h4⟩
 have := coB_size a n
 show (coB a n).size ≤ 5
 omega
theorem sel_good {tb : Tab} (htb : tb = tabT ∨ tb = tabU) {m : Sm} (h : SelOK tb m) : ∃ X,Good (m,[]) X ∧ SmOK False m ∧ m.kind = 6 ∧ bs X = ren (pcS 0 m) ∧ AllP (pcS 1 m) ∧ X.size ≤ 100000 := by
 obtain ⟨C,its,j,on,wh,od,d,folds,hj,hw,hi,ho,rfl⟩ := h
 have hC : NmC C := by
  rcases hj with ⟨rfl,_⟩ | ⟨rfl,_⟩
  ·exact nmC_of htb
  ·exact (nmC_of htb).app (nmC_of (oth_or tb))
 obtain ⟨w1,w2,w3,w4,w5⟩ := wh_good hC hw
 have hits : ∀ x ∈ its,ItOK x ∧ ((x.1 = 0 ∨ x.1 = 1 ∨ x.1 = 2 ∨ x.1 = 3 ∨ x.1 = 4) ∧ x.2.1.size ≤ 1000 ∧ x.2.2.size ≤ 1000) ∧ ∀ k,AllP (pcItem k x) := by
  have hcol : ∀ x : It,(x.1 = 0 ∨ x.1 = 2 ∨ x.1 = 3 ∨ x.1 = 4) → ∀ k,ColOK C k x.2.1 x.2.2 → ItOK x ∧ ((x.1 = 0 ∨ x.1 = 1 ∨ x.1 = 2 ∨ x.1 = 3 ∨ x.1 = 4) ∧ x.2.1.size ≤ 1000 ∧ x.2.2.size ≤ 1000) ∧ ∀ k,AllP (pcItem k x) := by
   intro x hx k hc
   obtain ⟨_,_,c3,c4,c5⟩ := col_size hC hc
   refine ⟨by unfold ItOK; omega,⟨by omega,by omega,by omega⟩,fun kk => ?_⟩
   rw [pcItem]
   split
   ·exact .expr c3 kk
   ·split
    ·omega
    ·refine .cons ?_ (.cons (okS 40 (by decide)) ((AllP.expr c3 0).app (.cons (okS 41 (by decide)) .nil)))
     unfold aggW
     split
     ·exact okK rfl
     ·split
      ·exact okK rfl
      ·exact okK rfl
  have hcnt : ItOK (1,⟨#[]⟩,⟨#[]⟩) ∧ (((1 : Int) = 0 ∨ (1 : Int) = 1 ∨ (1 : Int) = 2 ∨ (1 : Int) = 3 ∨ (1 : Int) = 4) ∧ (⟨#[]⟩ : ByteArray).size ≤ 1000 ∧ (⟨#[]⟩ : ByteArray).size ≤ 1000) ∧ ∀ k,AllP (pcItem k (1,⟨#[]⟩,⟨#[]⟩)) := by
   refine ⟨.inr (.inl rfl),⟨by decide,by decide,by decide⟩,fun k => ?_⟩
   show AllP [(k,kw ⟨#[99,111,117,110,116]⟩),(0,sg ⟨#[40]⟩),(0,sg ⟨#[42]⟩),(0,sg ⟨#[41]⟩)]
   exact .cons (okK rfl) (.cons (okS 40 (by decide)) (.cons (okS 42 (by decide)) (.cons (okS 41 (by decide)) .nil)))
  intro x hx
  rcases hi with ⟨_,hi,_⟩ | ⟨l',rfl,_,hi,_⟩
  ·obtain ⟨h0,k,_,hc⟩ := hi x hx
   exact hcol x (.inl h0) k hc
  ·rcases List.mem_cons.1 hx with rfl | hx
   ·exact hcnt
   ·obtain ⟨h2,h4,hc⟩ := hi x hx
    exact hcol x (by omega) 1 hc
 have hlen : its.length ≤ 3 := by
  rcases hi with ⟨h,_⟩ | ⟨l',rfl,h,_⟩
  ·exact h
  ·simp; omega
 have hjo : JoOK j on ∧ ((j = ⟨#[]⟩ ∧ on = []) ∨ (j ≠ ⟨#[]⟩ ∧ j.size ≤ 1000 ∧ ∃ a b,on = [a,b] ∧ WfT a ∧ WfT b ∧ (shE a).size ≤ 10000 ∧ (shE b).size ≤ 10000)) ∧ AllP (pcJoin j on) ∧ (joinB ((starB its ++ ⟨#[32,102,114,111,109,32]⟩) ++ tb.1) j on).size ≤ ((starB its ++ ⟨#[32,102,114,111,109,32]⟩) ++ tb.1).size + 100 := by
  rcases hj with ⟨_,rfl,rfl⟩ | ⟨_,rfl,k,a1,n1,a2,n2,hk,hc1,hc2,rfl⟩
  ·exact ⟨.inl ⟨rfl,rfl⟩,.inl ⟨rfl,rfl⟩,.nil,by show (((starB its ++ ⟨#[32,102,114,111,109,32]⟩) ++ tb.1)).size ≤ _; omega⟩
  ·obtain ⟨y1,y2,y3,_,_⟩ := col_size hC hc1
   obtain ⟨z1,z2,z3,_,_⟩ := col_size hC hc2
   obtain ⟨o1,o2⟩ := tbN (oth_or tb)
   have hne : (oth tb).1 ≠ ⟨#[]⟩ := fun e => by rw [e] at o2; cases o2
   refine ⟨.inr ⟨_,_,rfl,⟨_,_,rfl⟩,⟨_,_,rfl⟩⟩,.inr ⟨hne,by omega,_,_,rfl,y2,z2,by omega,by omega⟩,.cons (okK rfl) (.cons o1 (.cons (okK rfl) ((AllP.expr y3 1).app (.cons (okS 61 (by decide)) (.expr z3 1))))),?_⟩
   show (((((((starB its ++ ⟨#[32,102,114,111,109,32]⟩) ++ tb.1) ++ ⟨#[32,106,111,105,110,32]⟩) ++ (oth tb).1) ++ ⟨#[32,111,110,32]⟩) ++ shE (tCol a1 n1)) ++ ⟨#[32,61,32]⟩ ++ shE (tCol a2 n2)).size ≤ _
   rw [ByteArray.size_append,ByteArray.size_append,ByteArray.size_append,ByteArray.size_append,ByteArray.size_append,ByteArray.size_append]
   have e1 : (⟨#[32,106,111,105,110,32]⟩ : ByteArray).size = 6 := rfl
   have e2 : (⟨#[32,111,110,32]⟩ : ByteArray).size = 4 := rfl
   have e3 : (⟨#[32,61,32]⟩ : ByteArray).size = 3 := rfl
   omega
 obtain ⟨j1,j2,j3,j4⟩ := hjo
 have hoo : OrOK d od ∧ ((od = [] ∧ d = false) ∨ ∃ a,od = [a] ∧ WfT a ∧ (shE a).size ≤ 10000) ∧ AllP (pcOrd d od) ∧ ∀ S,(ordB S d od).size ≤ S.size + 100 := by
  rcases ho with ⟨rfl,hd⟩ | ⟨_,k,a,n,hk,hc,rfl⟩
  ·have hd' : d = false := by simpa using hd
   subst hd'
   exact ⟨.inl ⟨rfl,rfl⟩,.inl ⟨rfl,rfl⟩,.nil,fun S => by show S.size ≤ _; omega⟩
  ·obtain ⟨y1,y2,y3,_,_⟩ := col_size hC hc
   refine ⟨.inr ⟨_,rfl,_,_,rfl⟩,.inr ⟨_,rfl,y2,by omega⟩,.cons (okK rfl) (.cons (okK rfl) ((AllP.expr y3 1).app ?_)),fun S => ?_⟩
   ·cases d with
    | false => exact .nil
    | true => exact .cons (okK rfl) .nil
   ·have e1 : (⟨#[32,111,114,100,101,114,32,98,121,32]⟩ : ByteArray).size = 10 := rfl
    have e2 : (⟨#[32,100,101,115,99]⟩ : ByteArray).size = 5 := rfl
    cases d with
    | false =>
     show ((S ++ ⟨#[32,111,114,100,101,114,32,98,121,32]⟩) ++ shE (tCol a n)).size ≤ _
     rw [ByteArray.size_append,ByteArray.size_append]; omega
    | true =>
     show (((S ++ ⟨#[32,111,114,100,101,114,32,98,121,32]⟩) ++ shE (tCol a n)) ++ ⟨#[32,100,101,115,99]⟩).size ≤ _
     rw [ByteArray.size_append,ByteArray.size_append,ByteArray.size_append]; omega
 obtain ⟨o1,o2,o3,o4⟩ := hoo
 obtain ⟨t1,t2⟩ := tbN htb
 have hsm : SmOK False ⟨6,tb.1,⟨#[]⟩,[],[],[],its,j,on,wh,od,d⟩ := .inr (.inl ⟨its,tb.1,j,on,wh,od,d,fun x hx => (hits x hx).1,j1,w1,o1,rfl⟩)
 have hAst : AllP (pcStar its) := by
  rw [pcStar]
  split
  ·exact .cons (okS 42 (by decide)) .nil
  ·exact .jp fun y hy k => (hits y hy).2.2 k
 have hA : ∀ k,AllP (pcS k ⟨6,tb.1,⟨#[]⟩,[],[],[],its,j,on,wh,od,d⟩) := fun k =>
  .cons (okK rfl) (hAst.app (.cons (okK rfl) (.cons t1 (j3.app (w3.app o3)))))
 have htx : bs (selB ⟨6,tb.1,⟨#[]⟩,[],[],[],its,j,on,wh,od,d⟩) = ren (pcS 0 ⟨6,tb.1,⟨#[]⟩,[],[],[],its,j,on,wh,od,d⟩) := select_ren (m := ⟨6,tb.1,⟨#[]⟩,[],[],[],its,j,on,wh,od,d⟩) j1 w1 o1 j3.words w4
 have hsz : (selB ⟨6,tb.1,⟨#[]⟩,[],[],[],its,j,on,wh,od,d⟩).size ≤ 50000 := by
  have h1 := star_size (l := its) (fun x hx => ((hits x hx).2.1).2) (by omega)
  have h2 := o4 (joinB ((starB its ++ ⟨#[32,102,114,111,109,32]⟩) ++ tb.1) j on ++ whB wh)
  rw [ByteArray.size_append] at h2
  rw [ByteArray.size_append,ByteArray.size_append] at j4
  have e1 : (⟨#[32,102,114,111,109,32]⟩ : ByteArray).size = 6 := rfl
  show (ordB (joinB ((starB its ++ ⟨#[32,102,114,111,109,32]⟩) ++ tb.1) j on ++ whB wh) d od).size ≤ 50000
  omega
 refine ⟨_,⟨fun Q w s hI hR => fShow_select rfl (fun w1 s1 hI1 => fSelected_any show_expr (m := ⟨6,tb.1,⟨#[]⟩,[],[],[],its,j,on,wh,od,d⟩) (fun x hx => (hits x hx).2.1) (by show its.length ≤ 100; omega) (by show tb.1.size ≤ 1000; omega) j2 w2 (by show (whB wh).size ≤ 100000; omega) o2 hI1) hI,htx,.inl ⟨_,hsm,rfl⟩,hA 0,by omega⟩,hsm,rfl,htx,hA 1,by omega⟩
theorem jo_size {α : Type} {sep : ByteArray} {g : ByteArray → α → ByteArray} {B : Nat} {l : List α} (h : ∀ s,∀ y ∈ l,(g s y).size ≤ s.size + B) : (jo sep g l).size ≤ l.length * (B + sep.size) := by
 cases l with
 | nil => exact Nat.zero_le _
 | cons y l =>
  show (l.foldl (fun s y => g (s ++ sep) y) (g ⟨#[]⟩ y)).size ≤ _
  have h1 := joP_size l (g ⟨#[]⟩ y) (B := B) (sep := sep) (g := g) fun s x hx => h s x (by simp [hx])
  have h2 := h ⟨#[]⟩ y (by simp)
  have e : (⟨#[]⟩ : ByteArray).size = 0 := rfl
  rw [List.length_cons,Nat.add_mul]
  omega
theorem tags_size {l : List Int} (h : ∀ z ∈ l,1 ≤ z ∧ z ≤ 3) (hl : l.length ≤ 3) : (tasB l).size ≤ 200 := by
 have h1 : (tasB l).size ≤ l.length * (31 + (⟨#[44]⟩ : ByteArray).size) := jo_size fun s z hz => by
  rw [taB,ByteArray.size_append,ByteArray.size_append]
  have := itoa_le (z := z) (by have := h z hz; omega) (by have := h z hz; omega)
  have e : (⟨#[32]⟩ : ByteArray).size = 1 := rfl
  omega
 have e : (⟨#[44]⟩ : ByteArray).size = 1 := rfl
 rw [e] at h1
 have : l.length * (31 + 1) ≤ 3 * 32 := Nat.mul_le_mul hl (Nat.le_refl _)
 omega
theorem tags_all {l : List Int} (h : ∀ z ∈ l,1 ≤ z ∧ z ≤ 3) : (∀ z ∈ l,TaOK z) ∧ (∀ z ∈ l,0 ≤ z ∧ z ≤ 65535) ∧ AllP (jp pcTag 1 l) :=
 ⟨fun z hz => ⟨by have := h z hz; omega,by have := h z hz; omega⟩,fun z hz => ⟨by have := h z hz; omega,by have := h z hz; omega⟩,.jp fun z hz k => .cons (okT (h z hz).1 (h z hz).2) .nil⟩
structure GoodS (m : Sm) (X : ByteArray) : Prop where
 good : Good (m,[]) X
 less : X.size ≤ 100000
 sm : SmOK False m
 text : bs X = ren (pcS 0 m)
 words : AllP (pcS 1 m)
theorem nmC_nil : NmC [] := fun x h => absurd h (by simp)
theorem ins_good {tb : Tab} (htb : tb = tabT ∨ tb = tabU) {m : Sm} (h : InsOK tb m) : ∃ X,GoodS m X := by
 obtain ⟨vs,hl,hv,rfl⟩ := h
 have hl3 : vs.length = 3 := by rcases htb with rfl | rfl <;> exact hl
 have hne : vs ≠ [] := by rintro rfl; cases hl3
 have hall : ∀ t ∈ vs,∃ kind,Pl [] 0 kind t := fun t ht => by
  obtain ⟨i,hi,rfl⟩ := List.getElem_of_mem ht
  obtain ⟨k,s,e,hk⟩ := hv i hi (by omega)
  refine ⟨_,?_,.inr ⟨k,s,e,hk⟩⟩
  rcases hk with ⟨h,_⟩ | ⟨h,_⟩
  ·exact .inr h
  ·exact .inl h
 have hcn : ∀ t ∈ vs,CnD False t := fun t ht => by obtain ⟨k,h⟩ := hall t ht; exact pl_cnd h (by decide) False
 have hwd : ∀ t ∈ vs,∀ w ∈ wdE t,WdOK w := fun t ht => by obtain ⟨k,h⟩ := hall t ht; exact pl_words nmC_nil h
 have hwf : ∀ t ∈ vs,WfT t := fun t ht => by obtain ⟨k,h⟩ := hall t ht; exact pl_wf nmC_nil h
 have hA : AllP (jp pcE 0 vs) := .jp fun t ht k => .expr (hwd t ht) k
 have hw : ∀ w ∈ jw wdE vs,WdOK w := by
  rw [← jp_words (g := pcE) (h := wdE) (fun k y => pcE_words y k) 0]
  exact hA.words
 obtain ⟨t1,t2⟩ := tbN htb
 have hz : (exsB vs).size ≤ 1000 := by
  have h1 : (exsB vs).size ≤ vs.length * (21 + (⟨#[44,32]⟩ : ByteArray).size) := jo_size fun s t ht => by
   rw [exB,ByteArray.size_append]
   obtain ⟨k,h⟩ := hall t ht
   have := pl_size nmC_nil h
   have e : szN 0 = 21 := rfl
   omega
  have e : (⟨#[44,32]⟩ : ByteArray).size = 2 := rfl
  rw [e,hl3] at h1
  omega
 have hsm : SmOK False ⟨5,tb.1,⟨#[]⟩,[],[],vs,[],⟨#[]⟩,[],[],[],false⟩ := .inl ⟨tb.1,vs,hne,hcn,rfl⟩
 have hP : ∀ k,AllP (pcS k ⟨5,tb.1,⟨#[]⟩,[],[],vs,[],⟨#[]⟩,[],[],[],false⟩) := fun k => .cons (okK rfl) (.cons (okK rfl) (.cons t1 (.cons (okK rfl) (.cons (okS 40 (by decide)) (hA.app (.cons (okS 41 (by decide)) .nil))))))
 have htx := insert_ren (m := ⟨5,tb.1,⟨#[]⟩,[],[],vs,[],⟨#[]⟩,[],[],[],false⟩) hcn hw
 have hs : ((((⟨#[105,110,115,101,114,116,32,105,110,116,111,32]⟩ ++ tb.1) ++ ⟨#[32,118,97,108,117,101,115,40]⟩) ++ exsB vs) ++ ⟨#[41]⟩).size ≤ 100000 := by
  rw [ByteArray.size_append,ByteArray.size_append,ByteArray.size_append,ByteArray.size_append]
  have e1 : (⟨#[105,110,115,101,114,116,32,105,110,116,111,32]⟩ : ByteArray).size = 12 := rfl
  have e2 : (⟨#[32,118,97,108,117,101,115,40]⟩ : ByteArray).size = 8 := rfl
  have e3 : (⟨#[41]⟩ : ByteArray).size = 1 := rfl
  omega
 exact ⟨_,⟨fun Q w s hI _ => fShow_insert show_expr (m := ⟨5,tb.1,⟨#[]⟩,[],[],vs,[],⟨#[]⟩,[],[],[],false⟩) rfl hwf (by show tb.1.size + (exsB vs).size ≤ 900000; omega) hI,htx,.inl ⟨_,hsm,rfl⟩,hP 0,Nat.le_trans hs (by decide)⟩,hs,hsm,htx,hP 1⟩
theorem del_good {tb : Tab} (htb : tb = tabT ∨ tb = tabU) {m : Sm} (h : DelOK tb m) : ∃ X,GoodS m X := by
 obtain ⟨wh,hw,rfl⟩ := h
 obtain ⟨w1,w2,w3,w4,w5⟩ := wh_good (nmC_of htb) hw
 obtain ⟨t1,t2⟩ := tbN htb
 have hsm : SmOK False ⟨8,tb.1,⟨#[]⟩,[],[],[],[],⟨#[]⟩,[],wh,[],false⟩ := .inr (.inr (.inr ⟨tb.1,wh,w1,rfl⟩))
 have hP : ∀ k,AllP (pcS k ⟨8,tb.1,⟨#[]⟩,[],[],[],[],⟨#[]⟩,[],wh,[],false⟩) := fun k => .cons (okK rfl) (.cons (okK rfl) (.cons t1 w3))
 have htx := delete_ren (m := ⟨8,tb.1,⟨#[]⟩,[],[],[],[],⟨#[]⟩,[],wh,[],false⟩) w1 w4
 have hs : ((⟨#[100,101,108,101,116,101,32,102,114,111,109,32]⟩ ++ tb.1) ++ whB wh).size ≤ 100000 := by
  rw [ByteArray.size_append,ByteArray.size_append]
  have e1 : (⟨#[100,101,108,101,116,101,32,102,114,111,109,32]⟩ : ByteArray).size = 12 := rfl
  omega
 exact ⟨_,⟨fun Q w s hI _ => fShow_delete show_expr (m := ⟨8,tb.1,⟨#[]⟩,[],[],[],[],⟨#[]⟩,[],wh,[],false⟩) rfl w2 (by show tb.1.size + (whB wh).size ≤ 900000; omega) hI,htx,.inl ⟨_,hsm,rfl⟩,hP 0,Nat.le_trans hs (by decide)⟩,hs,hsm,htx,hP 1⟩
theorem upd_good {tb : Tab} (htb : tb = tabT ∨ tb = tabU) {m : Sm} (h : UpdOK tb m) : ∃ X,GoodS m X := by
 obtain ⟨n,t,wh,hn,hw,rfl⟩ := h
 obtain ⟨w1,w2,w3,w4,w5⟩ := wh_good (nmC_of htb) hw
 obtain ⟨t1,t2⟩ := tbN htb
 obtain ⟨kk,hP⟩ : ∃ kk,Pl (colsOf tb) 4 kk t := by
  rcases hn with ⟨_,h⟩ | ⟨_,_,h⟩
  ·exact ⟨1,h⟩
  ·exact ⟨2,h⟩
 have hnn : WdOK (nm n) ∧ n.size = 1 := by
  rcases hn with ⟨rfl,_⟩ | ⟨rfl,_⟩
  ·exact okN (mem_of rfl)
  ·exact okN (mem_of rfl)
 have hz := pl_size (nmC_of htb) hP
 have e4 : szN 4 = 441 := rfl
 have hwd := pl_words (nmC_of htb) hP
 have hsm : SmOK False ⟨7,tb.1,n,[],[],[t],[],⟨#[]⟩,[],wh,[],false⟩ := .inr (.inr (.inl ⟨tb.1,n,t,wh,pl_cnd hP (by decide) False,w1,rfl⟩))
 have hA : ∀ k,AllP (pcS k ⟨7,tb.1,n,[],[],[t],[],⟨#[]⟩,[],wh,[],false⟩) := fun k => .cons (okK rfl) (.cons t1 (.cons (okK rfl) (.cons hnn.1 (.cons (okS 61 (by decide)) ((AllP.expr hwd 1).app w3)))))
 have htx := update_ren (m := ⟨7,tb.1,n,[],[],[t],[],⟨#[]⟩,[],wh,[],false⟩) (t := t) rfl (pl_cnd hP (by decide) False) hwd w1 w4
 have hs : ((((((⟨#[117,112,100,97,116,101,32]⟩ ++ tb.1) ++ ⟨#[32,115,101,116,32]⟩) ++ n) ++ ⟨#[32,61,32]⟩) ++ shE t) ++ whB wh).size ≤ 100000 := by
  rw [ByteArray.size_append,ByteArray.size_append,ByteArray.size_append,ByteArray.size_append,ByteArray.size_append,ByteArray.size_append]
  have e1 : (⟨#[117,112,100,97,116,101,32]⟩ : ByteArray).size = 7 := rfl
  have e2 : (⟨#[32,115,101,116,32]⟩ : ByteArray).size = 5 := rfl
  have e3 : (⟨#[32,61,32]⟩ : ByteArray).size = 3 := rfl
  omega
 exact ⟨_,⟨fun Q w s hI _ => fShow_update show_expr (m := ⟨7,tb.1,n,[],[],[t],[],⟨#[]⟩,[],wh,[],false⟩) rfl (t := t) rfl (pl_wf (nmC_of htb) hP) w2 (by show tb.1.size + n.size + (shE t).size + (whB wh).size ≤ 900000; omega) hI,htx,.inl ⟨_,hsm,rfl⟩,hA 0,Nat.le_trans hs (by decide)⟩,hs,hsm,htx,hA 1⟩
theorem data_good {m : Sm} (h : DataOK m) : ∃ X,GoodS m X := by
 obtain ⟨tb,htb,h | h | h | h⟩ := h
 ·exact ins_good htb h
 ·exact upd_good htb h
 ·exact del_good htb h
 ·obtain ⟨X,h1,h2,_,h4,h5,h6⟩ := sel_good htb h
  exact ⟨X,h1,h6,h2,h4,h5⟩
theorem GoodS.inner {m : Sm} {X : ByteArray} (h : GoodS m X) {Q : Nat → Prop} : ∀ (w : World) (s : Sv),IsS Q w m s → s.inn = (none,0,0) → Calls Tryz.prog 10 #[stV s] w fun e w' => e = .returned (.string X) ∧ Below w.heap.size w w' := fun w s hI hn =>
 h.good.shows Q w s hI (by rw [hn]; exact RowIs.nil _ _ _)
theorem cols_good {cs : List Co} (h : ∀ c ∈ cs,ColP c) : (∀ c ∈ cs,CoOK c) ∧ (∀ k,AllP (jp pcCol k cs)) ∧ ∀ s,∀ c ∈ cs,(cdB s c).size ≤ s.size + 20 := by
 refine ⟨fun c hc => (h c hc).2.1,fun k => .jp fun c hc k => ?_,fun s c hc => ?_⟩
 ·obtain ⟨h1,h2,h3⟩ := h c hc
  refine .cons (okNm h1 (by decide +kernel)).1 (.cons ?_ ?_)
  ·rcases h2 with e | e
   ·rw [kindW,if_pos e]; exact okK rfl
   ·rw [kindW,if_neg (by rw [e]; decide)]; exact okK rfl
  ·split
   ·exact .nil
   ·rename_i hne
    rcases List.mem_cons.1 h3 with e | h3
    ·exact absurd e hne
    ·exact .cons (okK rfl) (.cons (okNm h3 (by decide +kernel)).1 .nil)
 ·obtain ⟨h1,h2,h3⟩ := h c hc
  have e1 := (okNm h1 (by decide +kernel)).2
  have e2 : c.2.2.size ≤ 1 := by
   rcases List.mem_cons.1 h3 with e | h3
   ·rw [e]; decide
   ·rw [(okNm h3 (by decide +kernel)).2]; omega
  have e3 : (kiB c.2.1).size ≤ 4 := by unfold kiB; split <;> decide
  have e4 : (⟨#[32]⟩ : ByteArray).size = 1 := rfl
  have e5 : (⟨#[32,114,101,102,32]⟩ : ByteArray).size = 5 := rfl
  rw [cdB]
  split
  ·rw [ByteArray.size_append,ByteArray.size_append,ByteArray.size_append]; omega
  ·rw [ByteArray.size_append,ByteArray.size_append,ByteArray.size_append,ByteArray.size_append,ByteArray.size_append]; omega
theorem st_good {m : Sf} (h : StOK m) : ∃ X,Good m X := by
 rcases h with ⟨n,cs,hn,h0,h4,hc,rfl⟩ | ⟨tb,n,htb,hn,rfl⟩ | ⟨n,tg,x,tb,hn,ht,htb,hx,rfl⟩ | ⟨n,tg,x,hn,ht,hx,h6,rfl⟩ | ⟨k,hk,rfl⟩ | ⟨tg,h0,hl,ht,rfl⟩ | ⟨n,hn,rfl⟩ | ⟨x,hx,rfl⟩
 ·obtain ⟨c1,c2,c3⟩ := cols_good hc
  obtain ⟨n1,n2⟩ := okNm hn (by decide +kernel)
  have hz : (taT ⟨1,⟨#[]⟩,n,cs,[],[],[],⟨#[]⟩,[],[],[],false⟩).size ≤ 1000 := by
   have e1 : (⟨#[99,114,101,97,116,101,32,116,97,98,108,101,32]⟩ : ByteArray).size = 13 := rfl
   have e2 : (⟨#[40]⟩ : ByteArray).size = 1 := rfl
   have e3 : (⟨#[41]⟩ : ByteArray).size = 1 := rfl
   have e4 : (⟨#[44,32]⟩ : ByteArray).size = 2 := rfl
   obtain ⟨c,cs,rfl⟩ := List.exists_cons_of_ne_nil h0
   show (cs.foldl (fun s y => cdB (s ++ ⟨#[44,32]⟩) y) (cdB ((⟨#[99,114,101,97,116,101,32,116,97,98,108,101,32]⟩ ++ n) ++ ⟨#[40]⟩) c) ++ ⟨#[41]⟩).size ≤ 1000
   rw [ByteArray.size_append]
   have h1 := joP_size cs (cdB ((⟨#[99,114,101,97,116,101,32,116,97,98,108,101,32]⟩ ++ n) ++ ⟨#[40]⟩) c) (B := 20) (sep := ⟨#[44,32]⟩) (g := cdB) fun s y hy => c3 s y (by simp [hy])
   have h2 := c3 ((⟨#[99,114,101,97,116,101,32,116,97,98,108,101,32]⟩ ++ n) ++ ⟨#[40]⟩) c (by simp)
   rw [ByteArray.size_append,ByteArray.size_append] at h2
   have h3 : cs.length * (20 + (⟨#[44,32]⟩ : ByteArray).size) ≤ 3 * 22 := by rw [e4]; exact Nat.mul_le_mul (by simp at h4; omega) (Nat.le_refl _)
   omega
  refine ⟨_,fun Q w s hI _ => fShow_table (m := ⟨1,⟨#[]⟩,n,cs,[],[],[],⟨#[]⟩,[],[],[],false⟩) rfl (fun c hc' => (hc c hc').2.1) (by omega) hI,table_ren ⟨1,⟨#[]⟩,n,cs,[],[],[],⟨#[]⟩,[],[],[],false⟩ h0,.inr (.inl ⟨n,cs,h0,c1,rfl⟩),.cons (okK rfl) (.cons (okK rfl) (.cons n1 (.cons (okS 40 (by decide)) ((c2 0).app (.cons (okS 41 (by decide)) .nil))))),by omega⟩
 ·obtain ⟨t1,t2⟩ := okNm htb (by decide +kernel)
  obtain ⟨n1,n2⟩ := okNm hn (by decide +kernel)
  refine ⟨_,fun Q w s hI _ => fShow_index (m := ⟨2,tb,n,[],[],[],[],⟨#[]⟩,[],[],[],false⟩) rfl (by show tb.size + n.size ≤ 900000; omega) hI,index_ren ⟨2,tb,n,[],[],[],[],⟨#[]⟩,[],[],[],false⟩,.inr (.inr (.inl ⟨tb,n,rfl⟩)),.cons (okK rfl) (.cons (okK rfl) (.cons (okK rfl) (.cons t1 (.cons (okS 40 (by decide)) (.cons n1 (.cons (okS 41 (by decide)) .nil)))))),?_⟩
  show ((((⟨#[99,114,101,97,116,101,32,105,110,100,101,120,32,111,110,32]⟩ ++ tb) ++ ⟨#[40]⟩) ++ n) ++ ⟨#[41]⟩).size ≤ 200000
  rw [ByteArray.size_append,ByteArray.size_append,ByteArray.size_append,ByteArray.size_append]
  have e1 : (⟨#[99,114,101,97,116,101,32,105,110,100,101,120,32,111,110,32]⟩ : ByteArray).size = 16 := rfl
  have e2 : (⟨#[40]⟩ : ByteArray).size = 1 := rfl
  have e3 : (⟨#[41]⟩ : ByteArray).size = 1 := rfl
  omega
 ·obtain ⟨X,g1,g2,g3,g4,g5,g6⟩ := sel_good htb hx
  have hg : GoodS x X := ⟨g1,g6,g2,g4,g5⟩
  obtain ⟨n1,n2⟩ := okNm hn (by decide +kernel)
  obtain ⟨a1,a2,a3⟩ := tags_all ht.2
  have hts := tags_size ht.2 (by have := ht.1; omega)
  refine ⟨_,fun Q w s hI hR => fShow_view (m := ⟨3,⟨#[]⟩,n,[],tg,[],[],⟨#[]⟩,[],[],[],false⟩) rfl hR hg.inner a2 (by show n.size + (tasB tg).size + X.size ≤ 900000; omega) hI,view_ren (m := ⟨3,⟨#[]⟩,n,[],tg,[],[],⟨#[]⟩,[],[],[],false⟩) a1 g4,.inr (.inr (.inr (.inl ⟨n,tg,x,a1,g2,g3,rfl⟩))),.cons (okK rfl) (.cons (okK rfl) (.cons n1 (.cons (okK rfl) (a3.app (.cons (okK rfl) g5))))),?_⟩
  show (((((⟨#[99,114,101,97,116,101,32,118,105,101,119,32]⟩ ++ n) ++ ⟨#[32,115,116,114,105,112]⟩) ++ tasB tg) ++ ⟨#[32,97,115,32]⟩) ++ X).size ≤ 200000
  rw [ByteArray.size_append,ByteArray.size_append,ByteArray.size_append,ByteArray.size_append,ByteArray.size_append]
  have e1 : (⟨#[99,114,101,97,116,101,32,118,105,101,119,32]⟩ : ByteArray).size = 12 := rfl
  have e2 : (⟨#[32,115,116,114,105,112]⟩ : ByteArray).size = 6 := rfl
  have e3 : (⟨#[32,97,115,32]⟩ : ByteArray).size = 4 := rfl
  omega
 ·obtain ⟨X,hg⟩ := data_good hx
  obtain ⟨n1,n2⟩ := okNm hn (by decide +kernel)
  obtain ⟨a1,a2,a3⟩ := tags_all ht.2
  have hts := tags_size ht.2 (by have := ht.1; omega)
  have hXs := hg.less
  refine ⟨_,fun Q w s hI hR => fShow_closure (m := ⟨4,⟨#[]⟩,n,[],tg,[],[],⟨#[]⟩,[],[],[],false⟩) rfl hR hg.inner a2 (by show n.size + (tasB tg).size + X.size ≤ 900000; omega) hI,closure_ren (m := ⟨4,⟨#[]⟩,n,[],tg,[],[],⟨#[]⟩,[],[],[],false⟩) a1 hg.text,.inr (.inr (.inr (.inr (.inl ⟨n,tg,x,a1,hg.sm,h6,rfl⟩)))),.cons (okK rfl) (.cons (okK rfl) (.cons n1 (.cons (okK rfl) (a3.app (.cons (okK rfl) hg.words))))),?_⟩
  show (((((⟨#[99,114,101,97,116,101,32,99,108,111,115,117,114,101,32]⟩ ++ n) ++ ⟨#[32,115,116,114,105,112]⟩) ++ tasB tg) ++ ⟨#[32,97,115,32]⟩) ++ X).size ≤ 200000
  rw [ByteArray.size_append,ByteArray.size_append,ByteArray.size_append,ByteArray.size_append,ByteArray.size_append]
  have e1 : (⟨#[99,114,101,97,116,101,32,99,108,111,115,117,114,101,32]⟩ : ByteArray).size = 15 := rfl
  have e2 : (⟨#[32,115,116,114,105,112]⟩ : ByteArray).size = 6 := rfl
  have e3 : (⟨#[32,97,115,32]⟩ : ByteArray).size = 4 := rfl
  omega
 ·rcases hk with rfl | rfl | rfl
  ·exact ⟨⟨#[98,101,103,105,110]⟩,fun Q w s hI _ => fShow_begin (m := sm 9) rfl hI,rfl,.inr (.inr (.inr (.inr (.inr (.inl ⟨9,.inl rfl,rfl⟩))))),.cons (okK rfl) .nil,by decide⟩
  ·exact ⟨⟨#[99,111,109,109,105,116]⟩,fun Q w s hI _ => fShow_commit (m := sm 10) rfl hI,rfl,.inr (.inr (.inr (.inr (.inr (.inl ⟨10,.inr (.inl rfl),rfl⟩))))),.cons (okK rfl) .nil,by decide⟩
  ·exact ⟨⟨#[114,111,108,108,98,97,99,107]⟩,fun Q w s hI _ => fShow_rollback (m := sm 11) rfl hI,rfl,.inr (.inr (.inr (.inr (.inr (.inl ⟨11,.inr (.inr rfl),rfl⟩))))),.cons (okK rfl) .nil,by decide⟩
 ·obtain ⟨a1,a2,a3⟩ := tags_all ht
  have hts := tags_size ht hl
  refine ⟨_,fun Q w s hI _ => fShow_raise (m := ⟨12,⟨#[]⟩,⟨#[]⟩,[],tg,[],[],⟨#[]⟩,[],[],[],false⟩) rfl a2 (by show (tasB tg).size ≤ 900000; omega) hI,raise_ren (m := ⟨12,⟨#[]⟩,⟨#[]⟩,[],tg,[],[],⟨#[]⟩,[],[],[],false⟩) a1,.inr (.inr (.inr (.inr (.inr (.inr (.inl ⟨tg,h0,a1,rfl⟩)))))),.cons (okK rfl) a3,?_⟩
  show (⟨#[114,97,105,115,101]⟩ ++ tasB tg).size ≤ 200000
  rw [ByteArray.size_append]
  have e1 : (⟨#[114,97,105,115,101]⟩ : ByteArray).size = 5 := rfl
  omega
 ·obtain ⟨n1,n2⟩ := okNm hn (by decide +kernel)
  refine ⟨_,fun Q w s hI _ => fShow_call (m := ⟨13,⟨#[]⟩,n,[],[],[],[],⟨#[]⟩,[],[],[],false⟩) rfl (by show n.size ≤ 900000; omega) hI,call_ren ⟨13,⟨#[]⟩,n,[],[],[],[],⟨#[]⟩,[],[],[],false⟩,.inr (.inr (.inr (.inr (.inr (.inr (.inr ⟨n,rfl⟩)))))),.cons (okK rfl) (.cons n1 .nil),?_⟩
  show (⟨#[99,97,108,108,32]⟩ ++ n).size ≤ 200000
  rw [ByteArray.size_append]
  have e1 : (⟨#[99,97,108,108,32]⟩ : ByteArray).size = 5 := rfl
  omega
 ·obtain ⟨X,hg⟩ := data_good hx
  exact ⟨X,hg.good⟩
end Go.Proofs.YtfopfhlohihihaaGreat
