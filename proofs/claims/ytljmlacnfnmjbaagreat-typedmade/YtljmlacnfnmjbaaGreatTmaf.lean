import Derived.Test.YtljmlacnfnmjbaaGreatTmae
import Derived.Test.YtljmlacnfnmjbaaGreatTmad
import Derived.Deep.RegionHeld3
namespace Go.Proofs.YtljmlacnfnmjbaaGreat
open Go.RowKit
set_option linter.unusedVariables false

theorem Pk.grown {g r : Nat} {w3 w4 : World} {row : Option Nat} (h : Pk w3 g r) (hg : w3.grownBy w4 row) (hrow : ∀ k,row = some k → g < k) : Pk w4 g r :=
 h.keep hg.size fun k hk => hg.block k (Nat.lt_of_le_of_lt hk h.lt) (fun e => by have := hrow k e.symm; omega)
theorem new1 (w : World) (a : Value) (ty : TypeId) : ∀ j (hj : j < [a].length),(w.alloc (.cells #[a] ty)).cell? ⟨w.heap.size,j,none⟩ = some [a][j] := by
 intro j hj
 have hj' : j < 1 := hj
 match j,hj' with
 | 0,_ => exact cell_new w _ _ _ 0
/-- Tags as the play makes them. -/
def TgOK (l : List Int) : Prop := l.length ≤ 2 ∧ ∀ z ∈ l,1 ≤ z ∧ z ≤ 3
set_option maxRecDepth 100000 in
set_option maxHeartbeats 2000000 in
theorem tags_any {g r : Nat} {w : World} (h : Pk w g r) :
  Calls Tryz.prog 41 #[.pointer (some ⟨g,0,none⟩)] w fun e w' => ∃ ao n c l r',e = .returned (.slice ao n c) ∧ TgOK l ∧ OwnR 91 1 w.heap.size w' (.slice ao n c) (l.map fun z => [.int .u16 z]) ∧ r' ≤ r ∧ Pk w' g r' ∧ But g w w' := by
 have hgl := h.lt
 have HN : Hid _ := hid (num_any h 3 (by decide) (by decide))
 clear h
 go_enter Tryz.func41,Tryz.ntmps41
 go_wp2_with fail
 refine Calls.mono HN.out ?_
 rintro e w1 ⟨k,r1,rfl,hk,hl1,hp1,hb1⟩
 clear HN
 have hr1 := hl1.1
 go_wp2
 go_loopw [3,4] (fun v i wr => ∃ (j : Nat) (l : List Int) (r2 : Nat),i = .int .i64 j ∧ j + l.length ≤ 2 ∧ (∀ z ∈ l,1 ≤ z ∧ z ≤ 3) ∧ OwnR 91 1 w.heap.size wr v (l.map fun z => [.int .u16 z]) ∧ r2 ≤ r ∧ Pk wr g r2 ∧ But g w wr) (fun _ i _ => (intOf i).toNat)
 case atStart => exact ⟨k,[],r1,rfl,by simp; omega,by simp,OwnR.nil _ _ _ _,hr1,hp1,hb1⟩
 case round =>
  clear hp1 hb1 hl1
  obtain ⟨j,l,r2,rfl,hj,hz,ho,hr2,hp,hb⟩ := hrel
  by_cases h0 : j = 0
  ·subst h0
   obtain ⟨ao,n,c,rfl⟩ := ho.sl
   have g0 : decide ((0 : Int) < ((0 : Nat) : Int)) = false := by simp
   go_wp2
   go_ret
   exact ⟨ao,n,c,l,r2,rfl,⟨by omega,hz⟩,ho,hr2,hp,hb⟩
  ·have g0 : decide ((0 : Int) < (j : Int)) = true := by simp; omega
   have HN : Hid _ := hid (num_any hp 3 (by decide) (by decide))
   have hwr := hb.size
   have hblk := ho.blk
   clear hp
   go_wp2_with fail
   refine Calls.mono HN.out ?_
   rintro e w3 ⟨k3,r3,rfl,hk3,hl3,hp3,hb3⟩
   have hw : IntKind.u16.wrap (1 + (k3 : Int)) = 1 + (k3 : Int) := by
    show (if (false && decide ((1 + (k3 : Int)) % (2 ^ 16 : Int) ≥ (2 ^ (16 - 1) : Int))) = true then (1 + (k3 : Int)) % (2 ^ 16 : Int) - (2 ^ 16 : Int) else (1 + (k3 : Int)) % (2 ^ 16 : Int)) = _
    rw [if_neg (by simp)]
    omega
   have hB3 := hb.trans hb3
   have ho3 := ho.but hb3 (by omega)
   have ho4 := ho3.alloc (.cells #[.int .u16 (1 + (k3 : Int))] 91)
   have hp4 := hp3.alloc (.cells #[.int .u16 (1 + (k3 : Int))] 91)
   have hB4 := hB3.alloc (.cells #[.int .u16 (1 + (k3 : Int))] 91)
   clear HN hp3 hB3 ho ho3 hb hb3
   go_wp2_with (first | (at_builtin; refine wpList_appR Tryz.underlying40 Tryz.infoTTag rfl (by decide) (by decide) rfl (.tmp 11) (.tmp 16) rfl _ (l.map fun z => [.int .u16 z]) w3.heap.size [.int .u16 (1 + (k3 : Int))] rfl rfl ho4 rfl (by simp [Value.oneCell']) (new1 w3 _ _) (by simp; omega) hB4.size ?_) | fail)
   intro v' w6 hO6 hg6 hown
   have hB6 := hB4.grown hg6 fun k e => (hblk k e).1
   have hp6 := hp4.grown hg6 fun k e => by have := (hblk k e).1; omega
   have ho6 : OwnR 91 1 w.heap.size w6 v' ((l ++ [1 + (k3 : Int)]).map fun z => [.int .u16 z]) := by rw [List.map_append]; exact hO6
   clear hO6 hg6 hown hB4 hp4 ho4 hblk
   obtain ⟨i,rfl⟩ : ∃ i,j = i + 1 := ⟨j - 1,by omega⟩
   go_wp2
   go_roundw
   case rel => exact ⟨i,l ++ [1 + (k3 : Int)],r3,by go_num,by simp; omega,fun z hz' => by
    rw [List.mem_append,List.mem_singleton] at hz'
    rcases hz' with hz' | rfl
    ·exact hz z hz'
    ·omega,ho6,by have := hl3.1; omega,hp6,hB6⟩
   case measure => simp only [intOf]; omega

set_option maxRecDepth 100000 in
set_option maxHeartbeats 2000000 in
theorem playWhere_any {g r : Nat} {w : World} {C : Cl2} {a : Option Addr} {c : Nat} {a2 : Option Addr} {c2 : Nat} (h : Pk w g r) (hC : Cols w g C a c a2 c2) :
  Calls Tryz.prog 76 #[.pointer (some ⟨g,0,none⟩),.slice a C.length c,.slice a2 C.length c2] w fun e w' => ∃ ao n c l r',e = .returned (.slice ao n c) ∧ (l = [] ∨ ∃ t,l = [t] ∧ Pl C 5 3 t) ∧ RowIs eExpr (fun b => w.heap.size ≤ b) w' (.slice ao n c) l ∧ Less r r' ∧ Pk w' g r' ∧ But g w w' := by
 have hgl := h.lt
 have HN : Hid _ := hid (num_any h 3 (by decide) (by decide))
 have HE : Hid (∀ w1 r1,But g w w1 → Pk w1 g r1 → _) := hid fun w1 r1 hb hp => play_any 5 3 0 hp (hC.but hb) (.inr (.inr ⟨rfl,by decide⟩)) rfl
 clear h hC
 go_enter Tryz.func76,Tryz.ntmps76
 go_wp2_with fail
 refine Calls.mono HN.out ?_
 rintro e w1 ⟨k,r1,rfl,hk,hl1,hp1,hb1⟩
 clear HN
 have hr1 := hl1
 by_cases h0 : k = 0
 ·subst h0
  go_wp2
  go_ret
  exact ⟨none,0,0,[],r1,rfl,.inl rfl,RowIs.nil _ _ _,hr1,hp1,hb1⟩
 ·have g0 : ((k : Int) == 0) = false := by simp; omega
  have HC : Hid _ := hid (HE.out w1 r1 hb1 hp1)
  clear HE hp1
  go_wp2_with fail
  refine Calls.mono HC.out ?_
  rintro e w4 ⟨o1,p1,a1,n1,c1,t1,r4,rfl,hX1,hl4,hp4,hb4,hx1⟩
  have hs4 := hb1.size
  have hB4 := hb1.trans hb4
  have hb6 := bal (Below.refl _ w4) (.cells #[.int .i64 o1,.int .i64 p1.1,.int .i64 p1.2.1,.string p1.2.2.1,.string p1.2.2.2.1,.string p1.2.2.2.2,.slice a1 n1 c1] 28)
  have hB6 := hB4.trans (But.of hb6)
  have hp6 := hp4.later hb6
  have hx : RowIs eExpr (fun b => w.heap.size ≤ b) (w4.alloc (.cells #[.int .i64 o1,.int .i64 p1.1,.int .i64 p1.2.1,.string p1.2.2.1,.string p1.2.2.2.1,.string p1.2.2.2.2,.slice a1 n1 c1] 28)) (.slice (some ⟨w4.heap.size,0,none⟩) 1 1) [t1] := by
   refine ⟨_,1,1,rfl,rfl,Nat.le_refl _,by omega,fun _ => ⟨w4.heap.size,0,rfl,hB4.size,fun i hi => ?_⟩⟩
   have hi' : i < 1 := hi
   obtain rfl : i = 0 := by omega
   refine ⟨_,⟨o1,p1,a1,n1,c1,rfl,(hx1.mono fun b hb _ => by omega).later hb6⟩,rfl,fun j hj => ?_⟩
   rw [show 0 + 0 * eExpr.k + j = j from by omega]
   exact new7 w4 _ _ _ _ _ _ _ _ j hj
  have HX : Hid _ := hid hx
  clear HC hx hx1 hp4 hb6 hB4 hb4
  unfold exV
  go_wp2
  go_ret
  exact ⟨_,1,1,[t1],r4,rfl,.inr ⟨t1,rfl,hX1⟩,HX.out,hr1.on hl4.1,hp6,hB6⟩

end Go.Proofs.YtljmlacnfnmjbaaGreat
namespace Go.Proofs.YtljmlacnfnmjbaaGreat
open Go.RowKit
set_option linter.unusedVariables false

/-- A table: its name,its columns. -/
abbrev Tab := ByteArray × List Co
def eTab : Ek Tab := ⟨3,fun Q w t cs => ∃ a n c a' n' c',cs = [.string t.1,.slice a n c,.slice a' n' c'] ∧ RowIs eCol Q w (.slice a n c) t.2,
 fun hk ⟨a,n,c,a',n',c',h1,h2⟩ => ⟨a,n,c,a',n',c',h1,h2.keep (by decide) hk⟩,fun hk ⟨a,n,c,a',n',c',h1,h2⟩ => ⟨a,n,c,a',n',c',h1,h2.mono (by decide) hk⟩⟩
def tabT : Tab := (⟨#[116]⟩,[(⟨#[107]⟩,1,⟨#[]⟩),(⟨#[118]⟩,2,⟨#[]⟩),(⟨#[110]⟩,1,⟨#[]⟩)])
def tabU : Tab := (⟨#[117]⟩,[(⟨#[107]⟩,2,⟨#[]⟩),(⟨#[114]⟩,1,⟨#[116]⟩),(⟨#[110]⟩,1,⟨#[]⟩)])
/-- The columns of a table,each with its kind. -/
def colsOf (t : Tab) : Cl2 := t.2.map fun c => ((0,t.1,c.1),c.2.1)
/-- A row of three columns that was just made. -/
theorem cols_new (w : World) (a1 b1 a2 b2 a3 b3 : ByteArray) (k1 k2 k3 : Int) {Q : Nat → Prop} {w' : World} (hb : Below (w.heap.size + 1) (w.alloc (.cells #[.string a1,.int .i64 k1,.string b1,.string a2,.int .i64 k2,.string b2,.string a3,.int .i64 k3,.string b3] 84)) w') (hq : Q w.heap.size) :
  RowIs eCol Q w' (.slice (some ⟨w.heap.size,0,none⟩) 3 3) [(a1,k1,b1),(a2,k2,b2),(a3,k3,b3)] := by
 have hc : ∀ j,j < 9 → w'.cell? ⟨w.heap.size,j,none⟩ = (#[.string a1,.int .i64 k1,.string b1,.string a2,.int .i64 k2,.string b2,.string a3,.int .i64 k3,.string b3] : Array Value)[j]? := fun j hj =>
  (World.cell?_of_block (a := ⟨w.heap.size,j,none⟩) (hb.block _ (by simp))).trans (cell_new w _ _ _ j)
 refine ⟨_,3,3,rfl,rfl,Nat.le_refl _,by omega,fun _ => ⟨w.heap.size,0,rfl,hq,fun i hi => ?_⟩⟩
 have hi' : i < 3 := hi
 match i,hi' with
 | 0,_ => exact ⟨[.string a1,.int .i64 k1,.string b1],rfl,rfl,fun j hj => by
   have hj' : j < 3 := hj
   match j,hj' with
   | 0,_ => exact hc 0 (by decide)
   | 1,_ => exact hc 1 (by decide)
   | 2,_ => exact hc 2 (by decide)⟩
 | 1,_ => exact ⟨[.string a2,.int .i64 k2,.string b2],rfl,rfl,fun j hj => by
   have hj' : j < 3 := hj
   match j,hj' with
   | 0,_ => exact hc 3 (by decide)
   | 1,_ => exact hc 4 (by decide)
   | 2,_ => exact hc 5 (by decide)⟩
 | 2,_ => exact ⟨[.string a3,.int .i64 k3,.string b3],rfl,rfl,fun j hj => by
   have hj' : j < 3 := hj
   match j,hj' with
   | 0,_ => exact hc 6 (by decide)
   | 1,_ => exact hc 7 (by decide)
   | 2,_ => exact hc 8 (by decide)⟩

set_option maxRecDepth 100000 in
set_option maxHeartbeats 2000000 in
theorem schema_any (w : World) : Calls Tryz.prog 17 #[] w fun e w' => ∃ b,e = .returned (.agg #[.slice (some ⟨b,0,none⟩) 2 2,.slice none 0 0]) ∧ RowIs eTab (fun k => w.heap.size ≤ k) w' (.slice (some ⟨b,0,none⟩) 2 2) [tabT,tabU] ∧ w.heap.size ≤ b ∧ Below w.heap.size w w' := by
 go_enter Tryz.func17,Tryz.ntmps17
 go_wp2
 refine bodyPost_ret (v := .agg #[.slice (some ⟨w.heap.size + 1 + 1 + 1 + 1,0,none⟩) 2 2,.slice none 0 0]) (by simp [results,Tryz.results17,go_sem]) rfl ⟨w.heap.size + 1 + 1 + 1 + 1,rfl,?_,by omega,bal (bal (bal (bal (bal (Below.refl _ _) _) _) _) _) _⟩
 have hT := cols_new (w.alloc (.cells #[.slice (some ⟨w.heap.size + 1 + 1 + 1 + 1,0,none⟩) 2 2,.slice none 0 0] 38)) ⟨#[107]⟩ ⟨#[]⟩ ⟨#[118]⟩ ⟨#[]⟩ ⟨#[110]⟩ ⟨#[]⟩ 1 2 1 (Q := fun k => w.heap.size ≤ k) (by
  rw [show (w.alloc (.cells #[.slice (some ⟨w.heap.size + 1 + 1 + 1 + 1,0,none⟩) 2 2,.slice none 0 0] 38)).heap.size + 1 = ((w.alloc (.cells #[.slice (some ⟨w.heap.size + 1 + 1 + 1 + 1,0,none⟩) 2 2,.slice none 0 0] 38)).alloc (.cells #[.string ⟨#[107]⟩,.int .i64 1,.string ⟨#[]⟩,.string ⟨#[118]⟩,.int .i64 2,.string ⟨#[]⟩,.string ⟨#[110]⟩,.int .i64 1,.string ⟨#[]⟩] 84)).heap.size from by simp]
  exact bal (bal (bal (Below.refl _ _) (.cells #[.string ⟨#[110]⟩] 9)) (.cells #[.string ⟨#[107]⟩,.int .i64 2,.string ⟨#[]⟩,.string ⟨#[114]⟩,.int .i64 1,.string ⟨#[116]⟩,.string ⟨#[110]⟩,.int .i64 1,.string ⟨#[]⟩] 84)) (.cells #[.string ⟨#[116]⟩,.slice (some ⟨w.heap.size + 1,0,none⟩) 3 3,.slice (some ⟨w.heap.size + 1 + 1,0,none⟩) 1 1,.string ⟨#[117]⟩,.slice (some ⟨w.heap.size + 1 + 1 + 1,0,none⟩) 3 3,.slice none 0 0] 58)) (by simp)
 have hU := cols_new (((w.alloc (.cells #[.slice (some ⟨w.heap.size + 1 + 1 + 1 + 1,0,none⟩) 2 2,.slice none 0 0] 38)).alloc (.cells #[.string ⟨#[107]⟩,.int .i64 1,.string ⟨#[]⟩,.string ⟨#[118]⟩,.int .i64 2,.string ⟨#[]⟩,.string ⟨#[110]⟩,.int .i64 1,.string ⟨#[]⟩] 84)).alloc (.cells #[.string ⟨#[110]⟩] 9)) ⟨#[107]⟩ ⟨#[]⟩ ⟨#[114]⟩ ⟨#[116]⟩ ⟨#[110]⟩ ⟨#[]⟩ 2 1 1 (Q := fun k => w.heap.size ≤ k) (by
  rw [show (((w.alloc (.cells #[.slice (some ⟨w.heap.size + 1 + 1 + 1 + 1,0,none⟩) 2 2,.slice none 0 0] 38)).alloc (.cells #[.string ⟨#[107]⟩,.int .i64 1,.string ⟨#[]⟩,.string ⟨#[118]⟩,.int .i64 2,.string ⟨#[]⟩,.string ⟨#[110]⟩,.int .i64 1,.string ⟨#[]⟩] 84)).alloc (.cells #[.string ⟨#[110]⟩] 9)).heap.size + 1 = ((((w.alloc (.cells #[.slice (some ⟨w.heap.size + 1 + 1 + 1 + 1,0,none⟩) 2 2,.slice none 0 0] 38)).alloc (.cells #[.string ⟨#[107]⟩,.int .i64 1,.string ⟨#[]⟩,.string ⟨#[118]⟩,.int .i64 2,.string ⟨#[]⟩,.string ⟨#[110]⟩,.int .i64 1,.string ⟨#[]⟩] 84)).alloc (.cells #[.string ⟨#[110]⟩] 9)).alloc (.cells #[.string ⟨#[107]⟩,.int .i64 2,.string ⟨#[]⟩,.string ⟨#[114]⟩,.int .i64 1,.string ⟨#[116]⟩,.string ⟨#[110]⟩,.int .i64 1,.string ⟨#[]⟩] 84)).heap.size from by simp]
  exact bal (Below.refl _ _) (.cells #[.string ⟨#[116]⟩,.slice (some ⟨w.heap.size + 1,0,none⟩) 3 3,.slice (some ⟨w.heap.size + 1 + 1,0,none⟩) 1 1,.string ⟨#[117]⟩,.slice (some ⟨w.heap.size + 1 + 1 + 1,0,none⟩) 3 3,.slice none 0 0] 58)) (by simp; omega)
 simp only [World.size_alloc] at hT hU
 have hc := cell_new ((((w.alloc (.cells #[.slice (some ⟨w.heap.size + 1 + 1 + 1 + 1,0,none⟩) 2 2,.slice none 0 0] 38)).alloc (.cells #[.string ⟨#[107]⟩,.int .i64 1,.string ⟨#[]⟩,.string ⟨#[118]⟩,.int .i64 2,.string ⟨#[]⟩,.string ⟨#[110]⟩,.int .i64 1,.string ⟨#[]⟩] 84)).alloc (.cells #[.string ⟨#[110]⟩] 9)).alloc (.cells #[.string ⟨#[107]⟩,.int .i64 2,.string ⟨#[]⟩,.string ⟨#[114]⟩,.int .i64 1,.string ⟨#[116]⟩,.string ⟨#[110]⟩,.int .i64 1,.string ⟨#[]⟩] 84)) #[.string ⟨#[116]⟩,.slice (some ⟨w.heap.size + 1,0,none⟩) 3 3,.slice (some ⟨w.heap.size + 1 + 1,0,none⟩) 1 1,.string ⟨#[117]⟩,.slice (some ⟨w.heap.size + 1 + 1 + 1,0,none⟩) 3 3,.slice none 0 0] 58 (0,0)
 simp only [World.size_alloc] at hc
 refine ⟨_,2,2,rfl,rfl,Nat.le_refl _,by omega,fun _ => ⟨_,0,rfl,by omega,fun i hi => ?_⟩⟩
 have hi' : i < 2 := hi
 match i,hi' with
 | 0,_ => exact ⟨[.string ⟨#[116]⟩,.slice (some ⟨w.heap.size + 1,0,none⟩) 3 3,.slice (some ⟨w.heap.size + 1 + 1,0,none⟩) 1 1],⟨_,_,_,_,_,_,rfl,hT⟩,rfl,fun j hj => by
   have hj' : j < 3 := hj
   match j,hj' with
   | 0,_ => exact hc 0
   | 1,_ => exact hc 1
   | 2,_ => exact hc 2⟩
 | 1,_ => exact ⟨[.string ⟨#[117]⟩,.slice (some ⟨w.heap.size + 1 + 1 + 1,0,none⟩) 3 3,.slice none 0 0],⟨_,_,_,_,_,_,rfl,hU⟩,rfl,fun j hj => by
   have hj' : j < 3 := hj
   match j,hj' with
   | 0,_ => exact hc 3
   | 1,_ => exact hc 4
   | 2,_ => exact hc 5⟩

end Go.Proofs.YtljmlacnfnmjbaaGreat
namespace Go.Proofs.YtljmlacnfnmjbaaGreat
open Go.RowKit
set_option linter.unusedVariables false

theorem Tryz.infoTInt : (Tryz.prog.info? 3).map (fun i => (i.zero,i.size,i.bytes)) = some (some (.int .i64 0),1,8) := by kernel_rfl
/-- Two rows of the call's own,apart from each other. -/
def Apart (u v : Value) : Prop := ∀ b,u.ownBlock = some b → v.ownBlock ≠ some b
theorem OwnR.later {ty k B : Nat} {w w' : World} {v : Value} {css : List (List Value)} (h : OwnR ty k B w v css) (hb : Below w.heap.size w w') : OwnR ty k B w' v css := by
 refine ⟨h.1,h.2.1,?_⟩
 rcases h.2.2 with k | ⟨b,cap,cur,hv,hg',hh,r⟩
 ·exact .inl k
 ·exact .inr ⟨b,cap,cur,hv,hg',by rw [hb.block b (Array.getElem?_eq_some_iff.1 hh).1]; exact hh,r⟩
theorem OwnR.far {ty k B : Nat} {w w' : World} {v u : Value} {css : List (List Value)} (h : OwnR ty k B w v css) (hg : w.grownBy w' u.ownBlock) (ha : Apart u v) : OwnR ty k B w' v css := by
 refine ⟨h.1,h.2.1,?_⟩
 rcases h.2.2 with k | ⟨b,cap,cur,rfl,hg',hh,r⟩
 ·exact .inl k
 ·exact .inr ⟨b,cap,cur,rfl,hg',by rw [hg.block b (Array.getElem?_eq_some_iff.1 hh).1 (fun e => ha b e.symm rfl)]; exact hh,r⟩
theorem Apart.symm {u v : Value} (h : Apart u v) : Apart v u := fun b hb hu => h b hu hb
/-- A row that grew is apart from one that lay there. -/
theorem Apart.grew {ty k B : Nat} {w : World} {u u' v : Value} {css : List (List Value)} (h : Apart u v) (hv : OwnR ty k B w v css) (hu : u'.ownBlock = u.ownBlock ∨ u'.ownBlock = some w.heap.size) : Apart u' v := by
 intro b hb hvb
 rcases hu with e | e
 ·rw [e] at hb; exact h b hb hvb
 ·rw [e] at hb
  cases hb
  have := (hv.blk _ hvb).2
  omega

theorem one_int (k : Int) : ∀ u ∈ ([.int .i64 k] : List Value),u.oneCell' = true := by simp [Value.oneCell']
theorem OwnR.base {ty k B B' : Nat} {w : World} {v : Value} {css : List (List Value)} (h : OwnR ty k B w v css) (hb : B' ≤ B) : OwnR ty k B' w v css := by
 refine ⟨h.1,h.2.1,?_⟩
 rcases h.2.2 with k | ⟨b,cap,cur,hv,hg',r⟩
 ·exact .inl k
 ·exact .inr ⟨b,cap,cur,hv,by omega,r⟩
theorem new1_at {w : World} {a : Value} {ty : TypeId} {b : Nat} (hb : w.heap.size = b) : ∀ j (hj : j < [a].length),(w.alloc (.cells #[a] ty)).cell? ⟨b,j,none⟩ = some [a][j] := by subst hb; exact new1 w a ty
theorem new3_at {w : World} {x y z : Value} {ty : TypeId} {b : Nat} (hb : w.heap.size = b) : ∀ j (hj : j < [x,y,z].length),(w.alloc (.cells #[x,y,z] ty)).cell? ⟨b,j,none⟩ = some [x,y,z][j] := by subst hb; exact new3 w x y z ty
theorem past_new {w : World} {o : Obj} {b : Nat} {cs : List Value} (h : ∀ j (hj : j < cs.length),w.cell? ⟨b,j,none⟩ = some cs[j]) : ∀ j (hj : j < cs.length),(w.alloc o).cell? ⟨b,j,none⟩ = some cs[j] := fun j hj => cell_later (bal (Below.refl _ w) o) (h j hj)
theorem far_new {w w' : World} {row : Option Nat} {b : Nat} {cs : List Value} (hg : w.grownBy w' row) (h : ∀ j (hj : j < cs.length),w.cell? ⟨b,j,none⟩ = some cs[j]) (hr : row ≠ some b) : ∀ j (hj : j < cs.length),w'.cell? ⟨b,j,none⟩ = some cs[j] := fun j hj =>
 (World.cell?_of_block (a := ⟨b,j,none⟩) (hg.block b (World.block_lt_of_cell? _ _ (h j hj)) fun e => hr e.symm)).trans (h j hj)
set_option maxRecDepth 100000 in
set_option maxHeartbeats 8000000 in
theorem playCols_any {Q : Nat → Prop} {w : World} {a a' : Option Addr} {n c n' c' : Nat} {nm : ByteArray} {cs : List Co} (h : RowIs eCol Q w (.slice a n c) cs) (hn : cs.length ≤ 50) :
  Calls Tryz.prog 20 #[.agg #[.string nm,.slice a n c,.slice a' n' c']] w fun e w' => ∃ v1 v2,e = .returned (.tuple #[v1,v2]) ∧ OwnR 66 3 w.heap.size w' v1 (cs.map fun x => itC (0,nm,x.1)) ∧ OwnR 3 1 w.heap.size w' v2 (cs.map fun x => [.int .i64 x.2.1]) ∧ Apart v1 v2 ∧ Below w.heap.size w w' := by
 have hl : n = cs.length := by obtain ⟨ao,n',c',hv,hl,_⟩ := h; cases hv; exact hl.symm
 subst hl
 have HK : Hid (∀ k (hk : k < cs.length),∃ b o x,cs[k] = x ∧ a = some ⟨b,o,none⟩ ∧ b < w.heap.size ∧ (w.cell? ⟨b,o + k * 3,none⟩ = some (.string x.1) ∧ w.cell? ⟨b,o + k * 3 + 1,none⟩ = some (.int .i64 x.2.1))) := hid fun k hk => by
  obtain ⟨ao,n',c',hv,hl,hn,hc,hx⟩ := h
  cases hv
  obtain ⟨b,o,ha,_,hi⟩ := hx (by omega)
  obtain ⟨xs,hcs,_,hc⟩ := hi k hk
  have hcs' : xs = [.string cs[k].1,.int .i64 cs[k].2.1,.string cs[k].2.2] := hcs
  subst hcs'
  have q0 := hc 0 (show 0 < 3 by decide)
  exact ⟨b,o,_,rfl,ha,World.block_lt_of_cell? _ _ q0,q0,hc 1 (show 1 < 3 by decide)⟩
 have bT : (w.alloc (.cells #[.string nm,.slice a cs.length c,.slice a' n' c'] 58)).cell? ⟨w.heap.size,0,none⟩ = some (.string nm) ∧ (w.alloc (.cells #[.string nm,.slice a cs.length c,.slice a' n' c'] 58)).cell? ⟨w.heap.size,1,none⟩ = some (.slice a cs.length c) := ⟨cell_new w _ _ _ 0,cell_new w _ _ _ 1⟩
 have hB0 := bal (Below.refl _ w) (.cells #[.string nm,.slice a cs.length c,.slice a' n' c'] 58)
 clear h
 go_enter Tryz.func20,Tryz.ntmps20
 go_wp2
 generalize hW : w.alloc (.cells #[.string nm,.slice a cs.length c,.slice a' n' c'] 58) = W at *
 have hWs : W.heap.size = w.heap.size + 1 := by rw [← hW]; simp
 clear hW
 go_loopw [4,5,6] (fun v u i wr => ∃ k : Nat,k ≤ cs.length ∧ i = .int .i64 k ∧ OwnR 66 3 W.heap.size wr v ((cs.take k).map fun x => itC (0,nm,x.1)) ∧ OwnR 3 1 W.heap.size wr u ((cs.take k).map fun x => [.int .i64 x.2.1]) ∧ Apart v u ∧ Below W.heap.size W wr) (fun _ _ i _ => cs.length - (intOf i).toNat)
 case atStart => exact ⟨0,Nat.zero_le _,rfl,OwnR.nil _ _ _ _,OwnR.nil _ _ _ _,fun b hb => by simp [Value.ownBlock] at hb,Below.refl _ _⟩
 case round =>
  obtain ⟨k,hk,rfl,ho1,ho2,hap,hb⟩ := hrel
  have c1 : wr.cell? ⟨w.heap.size,1,none⟩ = some (.slice a cs.length c) := cell_later hb bT.2
  have c0 : wr.cell? ⟨w.heap.size,0,none⟩ = some (.string nm) := cell_later hb bT.1
  by_cases hlt : k < cs.length
  ·obtain ⟨b,o,x,hx,rfl,hbl,q0,q1⟩ := HK.out k hlt
   have hbw : Below w.heap.size w wr := Below.on hB0 hb
   replace q0 := cell_later hbw q0
   replace q1 := cell_later hbw q1
   have HS : Hid (cs.take (k + 1) = cs.take k ++ [x]) := hid (by rw [List.take_succ_eq_append_getElem hlt,hx])
   have i0 : (0 : Int) ≤ (k : Int) := by omega
   have i1 : (k : Int) < (cs.length : Int) := by omega
   have hl1 : ((cs.take k).map fun x => itC (0,nm,x.1)).length ≤ 50 := by rw [List.length_map,List.length_take]; omega
   have hl2 : ((cs.take k).map fun x => [Value.int .i64 x.2.1]).length ≤ 50 := by rw [List.length_map,List.length_take]; omega
   have HO1 : Hid (∀ w',Below wr.heap.size wr w' → _) := hid fun w' hb' => ho1.later hb'
   have HO2 : Hid (∀ w',Below wr.heap.size wr w' → _) := hid fun w' hb' => ho2.later hb'
   have HZ : Hid (W.heap.size ≤ wr.heap.size) := hid hb.size
   obtain ⟨cn,ck,cr⟩ := x
   simp only at q0 q1
   clear HK hx
   go_upto_region 6 with fail
   have HKs : Hid (∀ w',Below W.heap.size W w' → w'.cell? ⟨w.heap.size,0,none⟩ = some (.string nm) ∧ w'.cell? ⟨w.heap.size,1,none⟩ = some (.slice (some ⟨b,o,none⟩) cs.length c) ∧ w'.cell? ⟨b,o + k * 3,none⟩ = some (.string cn) ∧ w'.cell? ⟨b,o + k * 3 + 1,none⟩ = some (.int .i64 ck)) := hid fun w' hb' => by
    have keepC : ∀ (p : Addr) v,p.block < W.heap.size → wr.cell? p = some v → w'.cell? p = some v := fun p v hp hc => (World.cell?_of_block ((hb'.block p.block hp).trans (hb.block p.block hp).symm)).trans hc
    exact ⟨keepC _ _ (by show w.heap.size < W.heap.size; omega) c0,keepC _ _ (by show w.heap.size < W.heap.size; omega) c1,keepC _ _ (by show b < W.heap.size; omega) q0,keepC _ _ (by show b < W.heap.size; omega) q1⟩
   have hbd : Below W.heap.size W wr.drew := hb.drew
   have ho1d : OwnR 66 3 W.heap.size wr.drew u4 ((cs.take k).map fun x => itC (0,nm,x.1)) := ho1.later (Below.refl _ wr).drew
   have ho2d : OwnR 3 1 W.heap.size wr.drew u5 ((cs.take k).map fun x => [.int .i64 x.2.1]) := ho2.later (Below.refl _ wr).drew
   have hblk1 := ho1.blk
   have hblk2 := ho2.blk
   have hds : wr.drew.heap.size = wr.heap.size := rfl
   obtain ⟨css1,E1⟩ : ∃ css1,Hid (((cs.take k).map fun x => itC (0,nm,x.1)) = css1) := ⟨_,hid rfl⟩
   obtain ⟨css2,E2⟩ : ∃ css2,Hid (((cs.take k).map fun x => [Value.int .i64 x.2.1]) = css2) := ⟨_,hid rfl⟩
   rw [E1.out] at ho1d hl1
   rw [E2.out] at ho2d hl2
   clear HO1 HO2 bT HZ ho1 ho2
   go_region_held3 (fun w' => w'.cell? ⟨w.heap.size,0,none⟩ = some (.string nm) ∧ w'.cell? ⟨w.heap.size,1,none⟩ = some (.slice (some ⟨b,o,none⟩) cs.length c) ∧ w'.cell? ⟨b,o + k * 3,none⟩ = some (.string cn) ∧ w'.cell? ⟨b,o + k * 3 + 1,none⟩ = some (.int .i64 ck)) (first | exact HKs.out _ finB | exact HKs.out _ hbI | exact HKs.out _ (bal hbI _) | exact HKs.out _ hbK | exact HKs.out _ (bal hbK _) | exact HKs.out _ hbd | exact HKs.out _ (bal hbd _) | exact HKs.out _ (bal (bal hbd _) _))
    ((first
      | (have hxI := hgI; clear hxI; refine step_guard (.tmp 26) (.tmp 33) 23 ?_ ?_; (exact rfl); refine step_appR (B := W.heap.size) (by rfl) (.tmp 26) (.tmp 33) (by rfl) Tryz.underlying23 Tryz.infoTInt rfl (by decide) (by decide) u5 css2 _ [.int .i64 ck] (by rfl) (by rfl) (by first | exact hoKI | exact hoKI.alloc _) rfl (one_int _) (by first | exact new1_at (by first | rfl | simp) | exact far_new hgI (new1_at (by first | rfl | simp)) (fun e => by have h9 := (hblk1 _ e).2; (try simp only [World.size_alloc] at h9); (try rw [hds] at h9); omega) | exact far_new hgI (past_new (new1_at (by first | rfl | simp))) (fun e => by have h9 := (hblk1 _ e).2; (try simp only [World.size_alloc] at h9); (try rw [hds] at h9); omega)) (by omega) (by first | exact hbI.size | exact (bal hbI _).size) ?_; intro vK wK hOK hgK hownK; have finB : Below W.heap.size W wK := (by first | exact below_grows hbI hbI.size hgK (fun k e => (hoKI.blk k e).1) | exact below_grows (bal hbI _) (bal hbI _).size hgK (fun k e => (hoKI.blk k e).1)); have finI := (by first | exact hOI.far hgK apI.symm | exact (hOI.alloc _).far hgK apI.symm : OwnR _ _ W.heap.size wK vI _); have finK := hOK; have finA : Apart vK vI := (by first | exact Apart.grew apI.symm hOI hownK | exact Apart.grew apI.symm (hOI.alloc _) hownK))
      | (have hxK := hgK; clear hxK; refine step_guard (.tmp 14) (.tmp 24) 22 ?_ ?_; (exact rfl); refine step_appR (B := W.heap.size) (by rfl) (.tmp 14) (.tmp 24) (by rfl) Tryz.underlying22 Tryz.infoTItem rfl (by decide) (by decide) u4 css1 _ [.int .i64 0,.string nm,.string cn] (by rfl) (by rfl) (by first | exact hoIK | exact hoIK.alloc _) rfl (one_item _ _ _) (by first | exact new3_at (by first | rfl | simp) | exact far_new hgK (new3_at (by first | rfl | simp)) (fun e => by have h9 := (hblk2 _ e).2; (try simp only [World.size_alloc] at h9); (try rw [hds] at h9); omega) | exact far_new hgK (past_new (new3_at (by first | rfl | simp))) (fun e => by have h9 := (hblk2 _ e).2; (try simp only [World.size_alloc] at h9); (try rw [hds] at h9); omega)) (by omega) (by first | exact hbK.size | exact (bal hbK _).size) ?_; intro vI wI hOI hgI hownI; have finB : Below W.heap.size W wI := (by first | exact below_grows hbK hbK.size hgI (fun k e => (hoIK.blk k e).1) | exact below_grows (bal hbK _) (bal hbK _).size hgI (fun k e => (hoIK.blk k e).1)); have finK := (by first | exact hOK.far hgI apK.symm | exact (hOK.alloc _).far hgI apK.symm : OwnR _ _ W.heap.size wI vK _); have finI := hOI; have finA : Apart vI vK := (by first | exact Apart.grew apK.symm hOK hownI | exact Apart.grew apK.symm (hOK.alloc _) hownI))
      | (refine step_guard (.tmp 14) (.tmp 24) 22 ?_ ?_; (exact rfl); refine step_appR (B := W.heap.size) (by rfl) (.tmp 14) (.tmp 24) (by rfl) Tryz.underlying22 Tryz.infoTItem rfl (by decide) (by decide) u4 css1 _ [.int .i64 0,.string nm,.string cn] (by rfl) (by rfl) (by first | exact ho1d.alloc _ | exact (ho1d.alloc _).alloc _) rfl (one_item _ _ _) (by first | exact new3_at (by first | rfl | simp) | exact past_new (new3_at (by first | rfl | simp))) (by omega) (by first | exact (bal hbd _).size | exact (bal (bal hbd _) _).size) ?_; intro vI wI hOI hgI hownI; have hbI : Below W.heap.size W wI := (by first | exact below_grows (bal hbd _) (bal hbd _).size hgI (fun k e => (hblk1 k e).1) | exact below_grows (bal (bal hbd _) _) (bal (bal hbd _) _).size hgI (fun k e => (hblk1 k e).1)); have hoKI : OwnR 3 1 W.heap.size wI u5 css2 := (by first | exact (ho2d.alloc _).far hgI hap | exact ((ho2d.alloc _).alloc _).far hgI hap); have apI : Apart vI u5 := (by first | exact Apart.grew hap (ho2d.alloc _) hownI | exact Apart.grew hap ((ho2d.alloc _).alloc _) hownI))
      | (refine step_guard (.tmp 26) (.tmp 33) 23 ?_ ?_; (exact rfl); refine step_appR (B := W.heap.size) (by rfl) (.tmp 26) (.tmp 33) (by rfl) Tryz.underlying23 Tryz.infoTInt rfl (by decide) (by decide) u5 css2 _ [.int .i64 ck] (by rfl) (by rfl) (by first | exact ho2d.alloc _ | exact (ho2d.alloc _).alloc _) rfl (one_int _) (by first | exact new1_at (by first | rfl | simp) | exact past_new (new1_at (by first | rfl | simp))) (by omega) (by first | exact (bal hbd _).size | exact (bal (bal hbd _) _).size) ?_; intro vK wK hOK hgK hownK; have hbK : Below W.heap.size W wK := (by first | exact below_grows (bal hbd _) (bal hbd _).size hgK (fun k e => (hblk2 k e).1) | exact below_grows (bal (bal hbd _) _) (bal (bal hbd _) _).size hgK (fun k e => (hblk2 k e).1)); have hoIK : OwnR 66 3 W.heap.size wK u4 css1 := (by first | exact (ho1d.alloc _).far hgK hap.symm | exact ((ho1d.alloc _).alloc _).far hgK hap.symm); have apK : Apart vK u4 := (by first | exact Apart.grew hap.symm (ho1d.alloc _) hownK | exact Apart.grew hap.symm ((ho1d.alloc _).alloc _) hownK))))
   all_goals
    have F1 : Hid _ := hid finI
    have F2 : Hid _ := hid finK
    have F3 : Hid _ := hid finA
    have F4 : Hid _ := hid finB
    go_wp2
    go_roundw
    case rel =>
     refine ⟨k + 1,by omega,by go_num,?_,?_,by first | exact F3.out | exact F3.out.symm,F4.out⟩
     ·rw [HS.out,List.map_append,E1.out]; exact F1.out
     ·rw [HS.out,List.map_append,E2.out]; exact F2.out
    case measure => simp only [intOf]; omega
  ·obtain rfl : k = cs.length := by omega
   rw [List.take_length] at ho1 ho2
   clear HK
   obtain ⟨x1,y1,z1,rfl⟩ := ho1.sl
   obtain ⟨x2,y2,z2,rfl⟩ := ho2.sl
   go_wp2
   go_ret2
   exact ⟨_,_,rfl,ho1.base (by omega),ho2.base (by omega),hap,Below.on hB0 hb⟩

end Go.Proofs.YtljmlacnfnmjbaaGreat
