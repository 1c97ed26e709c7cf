import Derived.Test.YtfopfhlohihihaaGreatSbc
import Derived.Test.YtfopfhlohihihaaGreatSbi
import Derived.Test.YtfopfhlohihihaaGreatSaw
namespace Go.Proofs.YtfopfhlohihihaaGreat
open Go.RowKit
set_option linter.unusedVariables false
set_option linter.unusedSimpArgs false
def nxP (w : World) (g m : Nat) : Nat := match w.cell? ⟨g,0,none⟩,w.cell? ⟨g,1,none⟩ with
 | some (.slice (some a) len _),some (.int _ n) => if (len : Int) ≤ n then 0 else (match w.cell? ⟨a.block,a.off + n.toNat,none⟩ with | some (.int _ z) => (z % (m : Int)).toNat | _ => 0)
 | _,_ => 0
theorem nxP_zero {w : World} {g m : Nat} {a : Option Addr} {n cap : Nat} (c0 : w.cell? ⟨g,0,none⟩ = some (.slice a n cap)) (c1 : w.cell? ⟨g,1,none⟩ = some (.int .i64 n)) : nxP w g m = 0 := by
 unfold nxP
 rw [c0,c1]
 cases a with
 | none => rfl
 | some a => show (if (n : Int) ≤ (n : Int) then 0 else _) = 0; rw [if_pos (Int.le_refl _)]
theorem nxP_some {w : World} {g m : Nat} {b o len n cap : Nat} {z : Int} (c0 : w.cell? ⟨g,0,none⟩ = some (.slice (some ⟨b,o,none⟩) len cap)) (c1 : w.cell? ⟨g,1,none⟩ = some (.int .i64 n)) (h : n < len) (hc : w.cell? ⟨b,o + n,none⟩ = some (.int .u8 z)) : nxP w g m = (z % (m : Int)).toNat := by
 unfold nxP
 rw [c0,c1]
 show (if (len : Int) ≤ (n : Int) then 0 else (match w.cell? ⟨b,o + ((n : Nat) : Int).toNat,none⟩ with | some (.int _ z) => (z % (m : Int)).toNat | _ => 0)) = _
 rw [if_neg (by omega),Int.toNat_natCast,hc]
set_option maxRecDepth 100000 in
set_option maxHeartbeats 1000000 in
theorem num_exact {g r : Nat} {w : World} (h : Pk w g r) (m : Nat) (hm : 0 < m) (hm2 : m ≤ 100) :
  Calls Tryz.prog 20 #[.pointer (some ⟨g,0,none⟩),.int .i64 (m : Int)] w fun e w' => ∃ r',e = .returned (.int .i64 ((nxP w g m : Nat) : Int)) ∧ nxP w g m < m ∧ Less r r' ∧ Pk w' g r' ∧ But g w w' := by
 obtain ⟨a,len,cap,n,hq,h1,h2,h3,h4⟩ := h.on
 obtain ⟨c0,c1⟩ := hq.cells
 have f1 := hq.free
 have hgl := hq.lt
 by_cases hr : r = 0
 ·subst hr
  obtain rfl : n = len := by omega
  have g1 : decide ((n : Int) ≤ (n : Int)) = true := by simp
  have HP : Hid _ := hid h
  have HX : Hid (nxP w g m = 0) := hid (nxP_zero c0 c1)
  clear h h4 h1 hq
  go_enter Tryz.func20,Tryz.ntmps20
  go_wp2
  go_quiet (fail)
  have HQ : Hid _ := hid (HP.out.drewN nq)
  have HB : Hid _ := hid ((But.refl g w).rdrew nq)
  clear HP
  generalize w.drewN nq = W at *
  go_wp2
  go_ret
  exact ⟨0,by rw [HX.out]; rfl,by rw [HX.out]; exact hm,⟨Nat.le_refl _,fun h => by omega⟩,HQ.out,HB.out⟩
 ·have hlt : n < len := by omega
  have g1 : decide ((len : Int) ≤ (n : Int)) = false := by simp; omega
  obtain ⟨b,o,rfl,hbg,hbl,hz⟩ := h4 (by omega)
  obtain ⟨z,z0,z1,hc⟩ := hz n hlt
  have HX : Hid (nxP w g m = (z % (m : Int)).toNat) := hid (nxP_some c0 c1 hlt hc)
  have HP : Hid (Pk (w.setCell ⟨g,1,none⟩ (.int .i64 ((n + 1 : Nat) : Int))) g (r - 1)) := hid ⟨_,len,cap,n + 1,hq.set _,by omega,h2,h3,h4.keep (by simp [World.setCell]) fun k hk => Below.heap_setCell _ _ _ _ (by show k ≠ g; omega)⟩
  have hP2 := hq.set (n + 1)
  obtain ⟨d0,d1⟩ := hP2.cells
  have hc2 : (w.setCell ⟨g,1,none⟩ (.int .i64 ((n + 1 : Nat) : Int))).cell? ⟨b,o + n,none⟩ = some (.int .u8 z) := (World.cell?_of_block (a := ⟨b,_,none⟩) (Below.heap_setCell _ _ _ _ (by show b ≠ g; omega))).trans hc
  have hbe : ((n + 1 : Nat) : Int) = (n : Int) + 1 := by omega
  have hB : But g w (w.setCell ⟨g,1,none⟩ (.int .i64 ((n + 1 : Nat) : Int))) := But.set _ _ _ _
  rw [hbe] at d0 d1 hc2 HP hB
  clear h h4 hq hP2 hz hbe
  go_enter Tryz.func20,Tryz.ntmps20
  go_wp2
  go_quiet (fail)
  obtain ⟨V,hV⟩ : ∃ V,w.drewN nq = V := ⟨_,rfl⟩
  have e0 : V.cell? ⟨g,0,none⟩ = some (.slice (some ⟨b,o,none⟩) len cap) := by rw [← hV]; exact c0
  have e1 : V.cell? ⟨g,1,none⟩ = some (.int .i64 n) := by rw [← hV]; exact c1
  have e2 : V.frozen? ⟨g,1,none⟩ = false := by rw [← hV]; exact f1
  have e3 : V.heap.size = w.heap.size := by rw [← hV]; rfl
  have e4 : (V.setCell ⟨g,1,none⟩ (.int .i64 ((n : Int) + 1))).cell? ⟨b,o + n,none⟩ = some (.int .u8 z) := by rw [← hV]; exact hc2
  have e5 : (V.setCell ⟨g,1,none⟩ (.int .i64 ((n : Int) + 1))).cell? ⟨g,0,none⟩ = some (.slice (some ⟨b,o,none⟩) len cap) := by rw [← hV]; exact d0
  have e6 : (V.setCell ⟨g,1,none⟩ (.int .i64 ((n : Int) + 1))).cell? ⟨g,1,none⟩ = some (.int .i64 ((n : Int) + 1)) := by rw [← hV]; exact d1
  have HQ : Hid (Pk (V.setCell ⟨g,1,none⟩ (.int .i64 ((n : Int) + 1))) g (r - 1)) := hid (by rw [← hV]; exact HP.out.keep (Nat.le_refl _) fun _ _ => rfl)
  have HC : Hid (But g w (V.setCell ⟨g,1,none⟩ (.int .i64 ((n : Int) + 1)))) := hid (by rw [← hV]; exact ⟨hB.os,hB.tape,hB.output,hB.size,hB.block⟩)
  clear c0 c1 f1 d0 d1 hc hc2 HP hB
  rw [hV]
  clear hV
  go_wp2
  obtain ⟨U,hU⟩ : ∃ U,V.setCell ⟨g,1,none⟩ (.int .i64 ((n : Int) + 1)) = U := ⟨_,rfl⟩
  rw [hU] at e4 e5 e6 HQ HC ⊢
  clear hU e0 e1 e2 e3
  go_quiet (fail)
  have HQ2 : Hid _ := hid (HQ.out.drewN nq)
  have HC2 : Hid _ := hid (HC.out.rdrew nq)
  generalize U.drewN nq = T at *
  go_wp2
  go_ret
  have hmi : (0 : Int) < (m : Int) := by omega
  have hz0 : 0 ≤ z % (m : Int) := Int.emod_nonneg _ (by omega)
  have hz1 : z % (m : Int) < (m : Int) := Int.emod_lt_of_pos _ hmi
  refine ⟨r - 1,?_,by rw [HX.out]; omega,⟨by omega,fun _ => by omega⟩,HQ2.out,HC2.out⟩
  show Ending.returned (.int .i64 (z % (m : Int))) = _
  rw [HX.out,Int.toNat_of_nonneg hz0]
theorem RowIs.inb {α : Type} {e : Ek α} {Q : Nat → Prop} {w : World} {b o n c : Nat} {l : List α} (h : RowIs e Q w (.slice (some ⟨b,o,none⟩) n c) l) {k : Nat} (hk : k < l.length) : Q b := by
 obtain ⟨ao,n',c',hv,hl,hn,hc,hx⟩ := h
 cases hv
 obtain ⟨b',o',ha,hq,hi⟩ := hx (by omega)
 cases ha
 exact hq
theorem frozen_of_block {w w' : World} {a : Addr} (h : w'.heap[a.block]? = w.heap[a.block]?) : w'.frozen? a = w.frozen? a := by unfold World.frozen?; rw [h]
abbrev sIns (tb : ByteArray) (v : Sl) : Sv := ⟨5,tb,⟨#[]⟩,(none,0,0),(none,0,0),v,(none,0,0),⟨#[]⟩,(none,0,0),(none,0,0),(none,0,0),false,(none,0,0)⟩
def LitOK (tb : Tab) (ps : List Pay) : Prop := ps.length ≤ tb.2.length ∧ ∀ j (h : j < ps.length) (h2 : j < tb.2.length),∃ k s,ps[j] = (tb.2[j].2.1,k,s,⟨#[]⟩,⟨#[]⟩) ∧ VaOK tb.2[j].2.1 k s
theorem LitOK.snoc {tb : Tab} {ps : List Pay} (h : LitOK tb ps) (hl : ps.length < tb.2.length) {kd k : Int} {s : ByteArray} (hk : tb.2[ps.length].2.1 = kd) (hv : VaOK kd k s) : LitOK tb (ps ++ [(kd,k,s,⟨#[]⟩,⟨#[]⟩)]) := by
 subst hk
 refine ⟨by simp; omega,fun j hj h2 => ?_⟩
 rw [List.length_append,List.length_singleton] at hj
 by_cases hlt : j < ps.length
 ·obtain ⟨k',s',e,hv'⟩ := h.2 j hlt h2
  exact ⟨k',s',by rw [List.getElem_append_left hlt]; exact e,hv'⟩
 ·obtain rfl : j = ps.length := by omega
  exact ⟨k,s,by rw [List.getElem_append_right (Nat.le_refl _)]; simp,hv⟩
structure InsR (g r z q x : Nat) (w : World) (tb : Tab) (o : Obj) (a : Option Addr) (n c : Nat) (ps : List Pay) (v : Sl) (r5 : Nat) (wr : World) : Prop where
 ok : LitOK tb ps
 own : OwnR 60 7 (q + 1) wr (slV v) (ps.map fun p => exC 1 p (.slice none 0 0))
 box : Bs wr q (sIns tb.1 v)
 less : Less r r5
 pk : Pk wr g r5
 but : But g w wr
 blk : Blk wr x o
 row : RowIs eCol (fun b => b ≠ g ∧ z < b ∧ b < q) wr (.slice a n c) tb.2
 res : Bs wr z (zS 0)
theorem InsR.zero {g r z q x : Nat} {w wr : World} {tb : Tab} {o : Obj} {a : Option Addr} {n c r5 : Nat} (hbox : Bs wr q (sIns tb.1 (none,0,0))) (hl : Less r r5) (hp : Pk wr g r5) (hb : But g w wr) (hx : Blk wr x o) (hr : RowIs eCol (fun b => b ≠ g ∧ z < b ∧ b < q) wr (.slice a n c) tb.2) (hz : Bs wr z (zS 0)) : InsR g r z q x w tb o a n c [] (none,0,0) r5 wr :=
 ⟨⟨Nat.zero_le _,fun j h => absurd h (by simp)⟩,OwnR.nil _ _ _ _,hbox,hl,hp,hb,hx,hr,hz⟩
theorem InsR.next {g r z q x : Nat} {w wr u w6 : World} {tb : Tab} {o : Obj} {a : Option Addr} {n c : Nat} {ps : List Pay} {v v' : Sl} {r5 r6 : Nat} {kd k : Int} {s : ByteArray} (h : InsR g r z q x w tb o a n c ps v r5 wr) (hl : ps.length < tb.2.length) (hk : tb.2[ps.length].2.1 = kd) (hv : VaOK kd k s)
  (hr : r6 ≤ r5) (hp : Pk u g r6) (hb : But g wr u) (hgz : g < z) (hzx : z < x) (hxq : x < q) (hwq : w.heap.size ≤ q) (hg6 : u.grownBy w6 (slV v).ownBlock) (hO : OwnR 60 7 (q + 1) w6 (slV v') (ps.map (fun p => exC 1 p (.slice none 0 0)) ++ [exC 1 (kd,k,s,⟨#[]⟩,⟨#[]⟩) (.slice none 0 0)])) :
  InsR g r z q x w tb o a n c (ps ++ [(kd,k,s,⟨#[]⟩,⟨#[]⟩)]) v' r6 (w6.setCell ⟨q,5,none⟩ (.slice v'.1 v'.2.1 v'.2.2)) := by
 have hblk := h.own.blk
 have far : ∀ b,b ≤ q → b < u.heap.size → w6.heap[b]? = u.heap[b]? := fun b hb hl => hg6.block b hl fun e => by have := (hblk b e.symm).1; omega
 have hql := h.box.lt
 have hzl := h.res.lt
 have hxl := h.blk.lt
 have hs := hb.size
 have set : ∀ b,b ≠ q → (w6.setCell ⟨q,5,none⟩ (.slice v'.1 v'.2.1 v'.2.2)).heap[b]? = w6.heap[b]? := fun b hb => Below.heap_setCell _ _ _ _ hb
 refine ⟨h.ok.snoc hl hk hv,?_,?_,h.less.on hr,?_,?_,?_,?_,?_⟩
 ·have := hO.set (b := q) (by omega) 5 (.slice v'.1 v'.2.1 v'.2.2)
  rw [List.map_append]
  exact this
 ·have b1 : Bs w6 q (sIns tb.1 v) := (h.box.but hb (by omega)).keep (far q (Nat.le_refl _) (by omega))
  exact b1.set5 v'
 ·exact (hp.grown hg6 (fun k e => by have := (hblk k e).1; omega)).other (by omega) _ _
 ·have b1 : But g w w6 := (h.but.trans hb).grown hg6 (fun k e => by have := (hblk k e).1; omega)
  exact b1.new (r := q) hwq _ _
 ·exact ((h.blk.but hb (by omega)).keep (far x (by omega) (by omega))).keep (set x (by omega))
 ·exact ((h.row.keep (by decide) fun b hq hl => hb.block b hl hq.1).keep (by decide) fun b hq hl => far b (by omega) hl).keep (by decide) fun b hq _ => set b (by omega)
 ·exact ((h.res.but hb (by omega)).keep (far z (by omega) (by omega))).keep (set z (by omega))
theorem InsR.fin {g r z q x : Nat} {w wr : World} {tb : Tab} {o : Obj} {a : Option Addr} {n c : Nat} {ps : List Pay} {v : Sl} {r5 : Nat} (h : InsR g r z q x w tb o a n c ps v r5 wr) (htb : tb = tabT ∨ tb = tabU) (hl : ps.length = tb.2.length) (hg : g < w.heap.size) (hz : z = w.heap.size) (hzq : z < q) : TeSt g r w DataOK (.returned (stV (sIns tb.1 v))) (set13 wr z (sIns tb.1 v)) := by
 have hne : ps ≠ [] := by
  rintro rfl
  rcases htb with rfl | rfl <;> cases hl
 have hrow := lits_row (B := z + 1) h.own hne (by omega)
 refine TeSt.fin2 (B := z + 1) (m := ⟨5,tb.1,⟨#[]⟩,[],[],ps.map fun p => .node 0 1 p .nil .nil,[],⟨#[]⟩,[],[],[],false⟩) h.but ?_ rfl ⟨tb,htb,.inl ⟨_,by rw [List.length_map]; exact hl,fun i hi h2 => ?_,rfl⟩⟩ h.less h.pk hg (by omega) (by omega)
 ·exact { IsS.zero _ _ 5 with tb := rfl,va := hrow }
 ·rw [List.length_map] at hi
  obtain ⟨k,s,e,hv⟩ := h.ok.2 i hi h2
  exact ⟨k,s,by rw [List.getElem_map,e],hv⟩
def ColP (c : Co) : Prop := c.1 ∈ [⟨#[107]⟩,⟨#[118]⟩,⟨#[110]⟩,⟨#[114]⟩] ∧ (c.2.1 = 1 ∨ c.2.1 = 2) ∧ c.2.2 ∈ [⟨#[]⟩,⟨#[116]⟩,⟨#[117]⟩,⟨#[113]⟩]
abbrev viewN : List ByteArray := [⟨#[100]⟩,⟨#[101]⟩,⟨#[102]⟩,⟨#[103]⟩]
def StOK (m : Sf) : Prop :=
 (∃ n cs,n ∈ [⟨#[116]⟩,⟨#[117]⟩,⟨#[119]⟩,⟨#[120]⟩] ∧ cs ≠ [] ∧ cs.length ≤ 4 ∧ (∀ c ∈ cs,ColP c) ∧ m = (⟨1,⟨#[]⟩,n,cs,[],[],[],⟨#[]⟩,[],[],[],false⟩,[])) ∨
 (∃ tb n,tb ∈ [⟨#[116]⟩,⟨#[117]⟩,⟨#[119]⟩] ∧ n ∈ [⟨#[110]⟩,⟨#[118]⟩,⟨#[107]⟩,⟨#[113]⟩] ∧ m = (⟨2,tb,n,[],[],[],[],⟨#[]⟩,[],[],[],false⟩,[])) ∨
 (∃ n tg x tb,n ∈ viewN ∧ TgOK tg ∧ (tb = tabT ∨ tb = tabU) ∧ SelOK tb x ∧ m = (⟨3,⟨#[]⟩,n,[],tg,[],[],⟨#[]⟩,[],[],[],false⟩,[x])) ∨
 (∃ n tg x,n ∈ viewN ∧ TgOK tg ∧ DataOK x ∧ x.kind ≠ 6 ∧ m = (⟨4,⟨#[]⟩,n,[],tg,[],[],⟨#[]⟩,[],[],[],false⟩,[x])) ∨
 (∃ k : Int,(k = 9 ∨ k = 10 ∨ k = 11) ∧ m = (sm k,[])) ∨
 (∃ tg,tg ≠ [] ∧ tg.length ≤ 3 ∧ (∀ z ∈ tg,1 ≤ z ∧ z ≤ 3) ∧ m = (⟨12,⟨#[]⟩,⟨#[]⟩,[],tg,[],[],⟨#[]⟩,[],[],[],false⟩,[])) ∨
 (∃ n,n ∈ viewN ∧ m = (⟨13,⟨#[]⟩,n,[],[],[],[],⟨#[]⟩,[],[],[],false⟩,[])) ∨
 (∃ x,DataOK x ∧ m = (x,[]))
def TeSf (g r : Nat) (w : World) (X : Sf → Prop) (e : Ending) (w' : World) : Prop :=
 ∃ s m r',e = .returned (stV s) ∧ X m ∧ r' ≤ r ∧ Pk w' g r' ∧ But g w w' ∧ IsS (fun b => w.heap.size ≤ b) w' m.1 s ∧ RowIs eStmt (fun b => w.heap.size ≤ b) w' (slV s.inn) m.2
theorem TeSf.fin {g r r' z : Nat} {w w1 : World} {X : Sf → Prop} {m : Sf} {s : Sv} (hU : But g w w1) (hI : IsS (fun b => z < b) w1 m.1 s) (hn : RowIs eStmt (fun b => z < b) w1 (slV s.inn) m.2) (hX : X m) (hl : r' ≤ r) (hp : Pk w1 g r') (hg : g < z) (hz : z = w.heap.size) : TeSf g r w X (.returned (stV s)) (set13 w1 z s) :=
 ⟨s,m,r',rfl,hX,hl,hp.set13 hg s,hU.set13 (by omega) s,(hI.keep fun b hb _ => set13_heap _ _ _ (by omega)).mono fun b hb _ => by omega,(hn.keep (by decide) fun b hb _ => set13_heap _ _ _ (by omega)).mono (by decide) fun b hb _ => by omega⟩
theorem OwnR.row' {α : Type} {e : Ek α} {ty B : Nat} {w : World} {v : Value} {css : List (List Value)} {l : List α} {Q : Nat → Prop} (h : OwnR ty e.k B w v css) (hl : l.length = css.length) (hq : ∀ b,B ≤ b → b < w.heap.size → Q b)
  (hE : ∀ i (h1 : i < l.length) (h2 : i < css.length),e.E Q w l[i] css[i]) : RowIs e Q w v l := by
 by_cases hn : css = []
 ·subst hn
  obtain rfl : l = [] := List.eq_nil_of_length_eq_zero hl
  rcases h.2.2 with ⟨rfl,_⟩ | ⟨b,cap,cur,rfl,_,_,h1,h2,_⟩
  ·exact RowIs.nil _ _ _
  ·exact ⟨_,_,cap,rfl,rfl,Nat.zero_le _,Nat.le_trans h2 (by decide),fun h => absurd h (by simp)⟩
 ·exact OwnR.row h hl hn hq hE
theorem tags_row {B z : Nat} {w : World} {v : Value} {l : List Int} (h : OwnR 74 1 B w v (l.map fun z => [.int .u16 z])) (hB : z < B) : RowIs eTag (fun b => z < b) w v l :=
 OwnR.row' (e := eTag) h (by simp) (fun b hb _ => by omega) fun i h1 h2 => by
  show (l.map fun z => [Value.int .u16 z])[i] = [.int .u16 l[i]]
  rw [List.getElem_map]
theorem cols_row {B z : Nat} {w : World} {v : Value} {l : List Co} (h : OwnR 70 3 B w v (l.map fun c => [.string c.1,.int .i64 c.2.1,.string c.2.2])) (hB : z < B) : RowIs eCol (fun b => z < b) w v l :=
 OwnR.row' (e := eCol) h (by simp) (fun b hb _ => by omega) fun i h1 h2 => by
  show (l.map fun c => [Value.string c.1,.int .i64 c.2.1,.string c.2.2])[i] = [.string l[i].1,.int .i64 l[i].2.1,.string l[i].2.2]
  rw [List.getElem_map]
abbrev svO (s : Sv) : Obj := .cells #[.int .i64 s.k,.string s.tb,.string s.nm,.slice s.co.1 s.co.2.1 s.co.2.2,.slice s.ta.1 s.ta.2.1 s.ta.2.2,.slice s.va.1 s.va.2.1 s.va.2.2,.slice s.it.1 s.it.2.1 s.it.2.2,.string s.jn,.slice s.on.1 s.on.2.1 s.on.2.2,.slice s.wh.1 s.wh.2.1 s.wh.2.2,.slice s.od.1 s.od.2.1 s.od.2.2,.bool s.ds,.slice s.inn.1 s.inn.2.1 s.inn.2.2] 30 (0,0)
theorem row_onS {Q : Nat → Prop} {w : World} {x : Sm} {s : Sv} (hq : Q w.heap.size) (hI : IsS Q w x s) (hn : s.inn = (none,0,0)) : RowIs eStmt Q (w.alloc (svO s)) (.slice (some ⟨w.heap.size,0,none⟩) 1 1) [x] := by
 have hb := bal (Below.refl _ w) (svO s)
 refine ⟨_,1,1,rfl,rfl,Nat.le_refl _,by omega,fun _ => ⟨w.heap.size,0,rfl,hq,fun i hi => ?_⟩⟩
 have hi' : i < 1 := hi
 obtain rfl : i = 0 := by omega
 refine ⟨svC s,⟨s,rfl,hI.keep fun b _ hl => hb.block b hl,hn⟩,rfl,fun j hj => ?_⟩
 rw [show 0 + 0 * eStmt.k + j = j from by omega]
 rw [cell_new w]
 have hj' : j < 13 := hj
 match j,hj' with
 | 0,_ => rfl
 | 1,_ => rfl
 | 2,_ => rfl
 | 3,_ => rfl
 | 4,_ => rfl
 | 5,_ => rfl
 | 6,_ => rfl
 | 7,_ => rfl
 | 8,_ => rfl
 | 9,_ => rfl
 | 10,_ => rfl
 | 11,_ => rfl
 | 12,_ => rfl
structure GrM (b : Nat) (w w' : World) : Prop where
 os : w'.os = w.os
 tape : w'.tape = w.tape
 output : w'.output = w.output
 size : w.heap.size ≤ w'.heap.size
 block : ∀ j,j < w.heap.size → j ≠ b → w'.heap[j]? = w.heap[j]?
theorem run_appM {t ty e : TypeId} {z : Value} {k bytes B : Nat} (ht : Tryz.prog.underlying t = some (.slice e)) (hinf : (Tryz.prog.info? e).map (fun i => (i.zero,i.size,i.bytes)) = some (some z,k,bytes)) (hzs : z.cells.size = k) (hk : 0 < k) (hby : bytes ≤ 1000)
  (w : World) (b n cap : Nat) (u : Value) (css css2 : List (List Value)) (hown : OwnR e k B w (.slice (some ⟨b,0,none⟩) n cap) css) (hown2 : OwnR e k B w u css2) (h1 : ∀ u ∈ css2.flatten,u.oneCell' = true) (hl : css.length + css2.length ≤ 1000) (hB : B ≤ w.heap.size) :
  ∃ v' w',(Builtin.append_ #[t,t] ty #[.slice (some ⟨b,0,none⟩) n cap,u]).run Tryz.prog w = .ok v' w' ∧ OwnR e k B w' v' (css ++ css2) ∧ GrM b w w' := by
 by_cases hne : css2 = []
 ·subst hne
  rcases id hown2.2.2 with ⟨rfl,_⟩ | ⟨b2,cap2,cur2,rfl,_⟩
  ·obtain ⟨i,hi,hz,hsz,hb⟩ := info_parts hinf
   have hnc : n ≤ cap := by
    rcases hown.2.2 with ⟨e,_⟩ | ⟨b',cap',cur,e,_,_,hnc,_⟩
    ·cases e
    ·cases e; exact hnc
   have := run_append_room_src w t t ty e i ht hi b 0 n cap (.slice none 0 0) 0 [] (Src.ofNil w ht 0) (by omega) (fun j hj => absurd hj (by simp)) (fun j hj => absurd hj (by simp))
   refine ⟨_,_,this,?_,rfl,rfl,rfl,Nat.le_refl _,fun _ _ _ => rfl⟩
   rw [List.append_nil]
   exact hown
  ·obtain ⟨i,hi,hz,hsz,hb⟩ := info_parts hinf
   have hnc : n ≤ cap := by
    rcases hown.2.2 with ⟨e,_⟩ | ⟨b',cap',cur,e,_,_,hnc,_⟩
    ·cases e
    ·cases e; exact hnc
   have := run_append_room_src w t t ty e i ht hi b 0 n cap (.slice (some ⟨b2,0,none⟩) 0 cap2) 0 [] (Src.ofSlice w ht ⟨b2,0,none⟩ 0 cap2 [] (by simp) (by simp) (by simp)) (by omega) (fun j hj => absurd hj (by simp)) (fun j hj => absurd hj (by simp))
   refine ⟨_,_,this,?_,rfl,rfl,rfl,Nat.le_refl _,fun _ _ _ => rfl⟩
   rw [List.append_nil]
   exact hown
 ·obtain ⟨v',w',hr,h2,h3,h4⟩ := run_appN ht hinf hzs hk hby w _ u css css2 hown hown2 hne h1 hl hB (ty := ty)
  exact ⟨v',w',hr,h2,h3.os,h3.tape,h3.output,h3.size,fun j hj hne => h3.block j hj fun e => hne (by cases e; rfl)⟩
theorem wpList_appM {t e : TypeId} {z : Value} {k bytes B : Nat} (ht : Tryz.prog.underlying t = some (.slice e)) (hinf : (Tryz.prog.info? e).map (fun i => (i.zero,i.size,i.bytes)) = some (some z,k,bytes)) (hzs : z.cells.size = k) (hk : 0 < k) (hby : bytes ≤ 1000)
  {w : World} {ops : Array Oper} {rest : List Oper} {o : Oper} {a : Act} {Q : Exit → Act → World → Prop} (hgd : o.guard = none) (s x : Operand)
  (ho : o.op = .call { callee := .builtin .append,args := #[s,x],argTypes := #[t,t] }) (b n cap : Nat) (u : Value) (css css2 : List (List Value)) (hs : a.eval s = .slice (some ⟨b,0,none⟩) n cap) (hx : a.eval x = u)
  (hown : OwnR e k B w (.slice (some ⟨b,0,none⟩) n cap) css) (hown2 : OwnR e k B w u css2) (h1 : ∀ u ∈ css2.flatten,u.oneCell' = true) (hl : css.length + css2.length ≤ 1000) (hB : B ≤ w.heap.size)
  (h : ∀ v' w',OwnR e k B w' v' (css ++ css2) → GrM b w w' → wpList Tryz.prog ops Q rest (a.put o.dst v') w') : wpList Tryz.prog ops Q (o :: rest) a w :=
 wpList_plain hgd fun _ hK => by
  obtain ⟨v',w',hr,h2,h3⟩ := run_appM ht hinf hzs hk hby w b n cap u css css2 hown hown2 h1 hl hB (ty := o.type)
  unfold Oper.wp execOp
  simp only [ho,resolve,invoke,builtin,Sem.run_bind,Sem.run_pure,Result.andThen_ok,List.map_toArray,List.map_cons,List.map_nil,hs,hx,hr]
  exact hK _ _ (h v' w' h2 h3)
theorem set13_size (w : World) (b : Nat) (s : Sv) : (set13 w b s).heap.size = w.heap.size := by simp [set13,World.setCell]
abbrev lT3 : List ByteArray := [⟨#[116]⟩,⟨#[117]⟩,⟨#[119]⟩]
abbrev lN4 : List ByteArray := [⟨#[110]⟩,⟨#[118]⟩,⟨#[107]⟩,⟨#[113]⟩]
abbrev lK4 : List ByteArray := [⟨#[107]⟩,⟨#[118]⟩,⟨#[110]⟩,⟨#[114]⟩]
abbrev oT3 : Obj := .cells #[.string ⟨#[116]⟩,.string ⟨#[117]⟩,.string ⟨#[119]⟩] 9 (0,0)
abbrev oN4 : Obj := .cells #[.string ⟨#[110]⟩,.string ⟨#[118]⟩,.string ⟨#[107]⟩,.string ⟨#[113]⟩] 9 (0,0)
abbrev oK4 : Obj := .cells #[.string ⟨#[107]⟩,.string ⟨#[118]⟩,.string ⟨#[110]⟩,.string ⟨#[114]⟩] 9 (0,0)
abbrev oZC : Obj := .cells #[.string ⟨#[]⟩,.int .i64 0,.string ⟨#[]⟩] 70 (0,0)
abbrev sIx (tb nm : ByteArray) : Sv := ⟨2,tb,nm,(none,0,0),(none,0,0),(none,0,0),(none,0,0),⟨#[]⟩,(none,0,0),(none,0,0),(none,0,0),false,(none,0,0)⟩
theorem tkH {P : Program} {md : Region.Mode} {ops : Array Oper} {Q : Exit → Act → World → Prop} {S : World → Prop} (i : Nat) {oi : Oper} (v : Value) {fuel : Nat} {listed : Array Bool} {a : Act} {w : World} (hi : ops[i]? = some oi)
  (hs : Region.noSelect ops = true) (hf : Region.free md ops listed i = true) (hr : (Region.ready md ops listed).contains i = true) (hQ : ∀ c a w,Q (.panic c) (a.put oi.dst v) w → Q (.panic c) a w)
  (hg : Region.wanted oi (yielded ops a.tmps) = true) (hy : ∀ w',S w' → (execOp a.eval oi).run P w' = .ok (.value v) w') (hS : S w)
  (h : wpAnyH P md ops Q S fuel (listed.setIfInBounds i true) (a.put oi.dst v) w) : wpAnyH P md ops Q S (fuel + 1) listed a w :=
 wpAnyH_take hi hs hf hr hQ (Or.inl ⟨hg,hy⟩) hS h
theorem wpAnyH_str {P : Program} {md : Region.Mode} {ops : Array Oper} {Q : Exit → Act → World → Prop} {S S' : World → Prop} (h : ∀ w,S' w → S w) : ∀ (fuel : Nat) (listed : Array Bool) (a : Act) (w : World),wpAnyH P md ops Q S' fuel listed a w → wpAnyH P md ops Q S fuel listed a w
 | 0,_,_,_,k => k
 | fuel + 1,_,_,_,k => ⟨k.1,fun i hi => wpOp_mono (fun _ _ y => ⟨h _ y.1,wpAnyH_str h fuel _ _ _ y.2⟩) (k.2 i hi)⟩
def txN (L : List ByteArray) (j : Nat) : ByteArray := L.getD j ⟨#[]⟩
theorem txN_mem {L : List ByteArray} {j : Nat} (h : j < L.length) : txN L j ∈ L := by
 unfold txN
 rw [List.getD_eq_getElem?_getD,List.getElem?_eq_getElem h]
 exact List.getElem_mem _
structure Txt (w : World) (b : Nat) (L : List ByteArray) : Prop where
 lt : b < w.heap.size
 cell : ∀ j,j < L.length → w.cell? ⟨b,j,none⟩ = some (.string (txN L j))
theorem Txt.keep {w w' : World} {b : Nat} {L : List ByteArray} (h : Txt w b L) (hs : w.heap.size ≤ w'.heap.size) (hk : w'.heap[b]? = w.heap[b]?) : Txt w' b L :=
 ⟨Nat.lt_of_lt_of_le h.lt hs,fun j hj => (World.cell?_of_block (a := ⟨b,j,none⟩) hk).trans (h.cell j hj)⟩
theorem Txt.but {w w' : World} {g b : Nat} {L : List ByteArray} (h : Txt w b L) (hb : But g w w') (hg : b ≠ g) : Txt w' b L := h.keep hb.size (hb.block b h.lt hg)
theorem Txt.later {w w' : World} {b : Nat} {L : List ByteArray} (h : Txt w b L) (hb : Below w.heap.size w w') : Txt w' b L := h.keep hb.size (hb.block b h.lt)
theorem Txt.other {w : World} {b : Nat} {L : List ByteArray} (h : Txt w b L) {q : Nat} (hq : b ≠ q) (i : Nat) (v : Value) : Txt (w.setCell ⟨q,i,none⟩ v) b L := h.keep (by rw [size_set]; exact Nat.le_refl _) (Below.heap_setCell _ _ _ _ hq)
theorem Txt.new3 (w : World) (x y v : ByteArray) : Txt (w.alloc (.cells #[.string x,.string y,.string v] 9 (0,0))) w.heap.size [x,y,v] :=
 ⟨by rw [World.size_alloc]; omega,fun j hj => by
  have hj' : j < 3 := hj
  rw [cell_new w]
  match j,hj' with
  | 0,_ => rfl
  | 1,_ => rfl
  | 2,_ => rfl⟩
theorem Txt.new4 (w : World) (x y v u : ByteArray) : Txt (w.alloc (.cells #[.string x,.string y,.string v,.string u] 9 (0,0))) w.heap.size [x,y,v,u] :=
 ⟨by rw [World.size_alloc]; omega,fun j hj => by
  have hj' : j < 4 := hj
  rw [cell_new w]
  match j,hj' with
  | 0,_ => rfl
  | 1,_ => rfl
  | 2,_ => rfl
  | 3,_ => rfl⟩
structure CloR (g r z q : Nat) (w wr : World) (s : Sv) (m : Sm) (r' : Nat) : Prop where
 box : Bs wr q s
 is : IsS (fun b => z < b ∧ b ≠ q) wr m s
 inn : s.inn = (none,0,0)
 ok : DataOK m
 less : r' ≤ r
 pk : Pk wr g r'
 but : But g w wr
 res : Bs wr z (zS 0)
 far : z < q
 new : w.heap.size ≤ q
def mesK (q g : Nat) (w : World) : Nat := match w.cell? ⟨q,0,none⟩ with
 | some (.int _ 6) => left g w + 1
 | _ => 0
theorem CloR.mes6 {g r z q : Nat} {w wr : World} {s : Sv} {m : Sm} {r' : Nat} (h : CloR g r z q w wr s m r') (h6 : s.k = 6 := by rfl) : mesK q g wr = r' + 1 := by
 unfold mesK
 rw [h.box.cells.1,h6]
 show left g wr + 1 = _
 rw [h.pk.left]
theorem CloR.mesLe {g r z q : Nat} {w wr : World} {s : Sv} {m : Sm} {r' : Nat} (h : CloR g r z q w wr s m r') : mesK q g wr ≤ r' + 1 := by
 unfold mesK
 split
 ·rw [h.pk.left]; exact Nat.le_refl _
 ·exact Nat.zero_le _
theorem CloR.mes0 {g r z q : Nat} {w wr : World} {s : Sv} {m : Sm} {r' : Nat} (h : CloR g r z q w wr s m r') (h6 : s.k ≠ 6) : mesK q g wr = 0 := by
 unfold mesK
 rw [h.box.cells.1]
 split
 ·rename_i k heq
  simp at heq
  exact absurd heq.2 h6
 ·rfl
theorem CloR.next {g r z q : Nat} {w wr u : World} {s : Sv} {m : Sm} {r' r2 : Nat} (h : CloR g r z q w wr s m r') (hb : But g wr u) (hp : Pk u g r2) (hr : r2 ≤ r') (hg : g < z) (hq : q ≠ g) : CloR g r z q w u s m r2 :=
 ⟨h.box.but hb hq,h.is.keep fun b hB hl => hb.block b hl (by omega),h.inn,h.ok,Nat.le_trans hr h.less,hp,h.but.trans hb,h.res.but hb (by omega),h.far,h.new⟩
theorem CloR.put {g r z q : Nat} {w wr u : World} {s s5 : Sv} {m m5 : Sm} {r' r5 : Nat} (h : CloR g r z q w wr s m r') (hb : But g wr u) (hm : DataOK m5) (hl : r5 ≤ r') (hp : Pk u g r5) (hI : IsS (fun b => wr.heap.size ≤ b) u m5 s5) (hn : s5.inn = (none,0,0)) (hg : g < z) : CloR g r z q w (set13 u q s5) s5 m5 r5 := by
 have hql := h.box.lt
 have hzl := h.res.lt
 have hfar := h.far
 exact ⟨(h.box.but hb (by omega)).set13 s5,((hI.mono fun b hB _ => (by constructor <;> omega : z < b ∧ b ≠ q)).keep fun b hB _ => set13_heap _ _ _ hB.2),hn,hm,Nat.le_trans hl h.less,hp.set13 (by omega) s5,(h.but.trans hb).set13 h.new s5,(h.res.but hb (by omega)).keep (set13_heap _ _ _ (by omega)),h.far,h.new⟩
theorem CloR.del {g r z q : Nat} {w wr : World} {s : Sv} {m : Sm} {r' : Nat} (h : CloR g r z q w wr s m r') (hg : g < z) : CloR g r z q w (set13 wr q (⟨8,⟨#[117]⟩,⟨#[]⟩,(none,0,0),(none,0,0),(none,0,0),(none,0,0),⟨#[]⟩,(none,0,0),(none,0,0),(none,0,0),false,(none,0,0)⟩ : Sv)) (⟨8,⟨#[117]⟩,⟨#[]⟩,(none,0,0),(none,0,0),(none,0,0),(none,0,0),⟨#[]⟩,(none,0,0),(none,0,0),(none,0,0),false,(none,0,0)⟩ : Sv) ⟨8,⟨#[117]⟩,⟨#[]⟩,[],[],[],[],⟨#[]⟩,[],[],[],false⟩ r' :=
 h.put (But.refl g wr) ⟨tabU,.inr rfl,.inr (.inr (.inl ⟨[],.inl rfl,rfl⟩))⟩ (Nat.le_refl _) h.pk { IsS.zero _ _ 8 with tb := rfl } rfl hg
abbrev sTab (nm : ByteArray) (v : Sl) : Sv := ⟨1,⟨#[]⟩,nm,v,(none,0,0),(none,0,0),(none,0,0),⟨#[]⟩,(none,0,0),(none,0,0),(none,0,0),false,(none,0,0)⟩
abbrev coO (n : ByteArray) (k : Int) (f : ByteArray) : Obj := .cells #[.string n,.int .i64 k,.string f] 70 (0,0)
theorem idx7 {i ka kb : Nat} (hi : i ≤ 3) (ha : ka < 2) (hb : kb < 3) : ∃ ab jx : Nat,(ka : Int) * (kb : Int) = (ab : Int) ∧ IntKind.i64.wrap (ab : Int) = (ab : Int) ∧ IntKind.i64.wrap (3 - (i : Int) + (ab : Int)) = 3 - (i : Int) + (ab : Int) ∧ jx < 4 ∧ (3 - (i : Int) + (ab : Int)).tmod 4 = (jx : Int) ∧ (0 : Int) ≤ (jx : Int) ∧ (jx : Int) < 4 := by
 obtain ⟨ab,hab,hab2⟩ : ∃ ab : Nat,(ka : Int) * (kb : Int) = (ab : Int) ∧ ab ≤ 2 := by
  rcases (show ka = 0 ∨ ka = 1 by omega) with rfl | rfl
  ·exact ⟨0,by simp,by omega⟩
  ·exact ⟨kb,by simp,by omega⟩
 exact ⟨ab,(3 - i + ab) % 4,hab,by rw [IntKind.wrap_i64]; omega,by rw [IntKind.wrap_i64]; omega,Nat.mod_lt _ (by decide),by rw [Int.tmod_eq_emod_of_nonneg (by omega)]; omega,by omega,by omega⟩
abbrev st3 (w : World) (b : Nat) (n : ByteArray) (k : Int) : World := ((w.setCell ⟨b,0,none⟩ (.string n)).setCell ⟨b,1,none⟩ (.int .i64 k)).setCell ⟨b,2,none⟩ (.string ⟨#[]⟩)
theorem Txt.st3 {w : World} {b : Nat} {L : List ByteArray} (h : Txt w b L) {q : Nat} (hq : b ≠ q) (n : ByteArray) (k : Int) : Txt (Go.Proofs.YtfopfhlohihihaaGreat.st3 w q n k) b L := ((h.other hq 0 _).other hq 1 _).other hq 2 _
def ColI (g r5 : Nat) (wr : World) (v5 : Value) (w' : World) : Prop := ∃ bc nm kd r6,v5 = .pointer (some ⟨bc,0,none⟩) ∧ Blk w' bc (coO nm kd ⟨#[]⟩) ∧ nm ∈ lK4 ∧ (kd = 1 ∨ kd = 2) ∧ wr.heap.size ≤ bc ∧ But g wr w' ∧ Pk w' g r6 ∧ r6 ≤ r5
theorem ColI.of {g r5 r6 b kc : Nat} {wr U : World} {n : ByteArray} (hC : Blk U b oZC) (hn : n ∈ lK4) (hk : kc < 2) (hb : wr.heap.size ≤ b) (hE : But g wr U) (hp : Pk U g r6) (hg : g < b) (hr : r6 ≤ r5) : ColI g r5 wr (.pointer (some ⟨b,0,none⟩)) (st3 U b n (1 + (kc : Int))) :=
 ⟨b,n,1 + (kc : Int),r6,rfl,hC.set3 _ _ _,hn,by omega,hb,hE.new3 hb _ _ _,hp.new3 hg _ _ _,hr⟩
theorem Blk.set2c {w : World} {b : Nat} {n : ByteArray} {k : Int} {f : ByteArray} (h : Blk w b (coO n k f)) (x : ByteArray) : Blk (w.setCell ⟨b,2,none⟩ (.string x)) b (coO n k x) := ⟨by simp [World.setCell,Array.getElem?_modify,h.row]⟩
structure TabI (g r z q : Nat) (w wr : World) (nm : ByteArray) (cs : List Co) (v : Sl) (r5 : Nat) : Prop where
 ok : ∀ c ∈ cs,ColP c
 own : OwnR 70 3 (q + 1) wr (slV v) (cs.map fun c => [.string c.1,.int .i64 c.2.1,.string c.2.2])
 box : Bs wr q (sTab nm v)
 less : r5 ≤ r
 pk : Pk wr g r5
 but : But g w wr
 res : Bs wr z (zS 0)
theorem TabI.next {g r z q : Nat} {w wr u w6 : World} {nm : ByteArray} {cs : List Co} {v v' : Sl} {r5 r6 : Nat} {c : Co} (h : TabI g r z q w wr nm cs v r5) (hc : ColP c)
  (hr : r6 ≤ r5) (hp : Pk u g r6) (hb : But g wr u) (hgz : g < z) (hzq : z < q) (hwq : w.heap.size ≤ q) (hg6 : u.grownBy w6 (slV v).ownBlock) (hO : OwnR 70 3 (q + 1) w6 (slV v') (cs.map (fun c => [.string c.1,.int .i64 c.2.1,.string c.2.2]) ++ [[.string c.1,.int .i64 c.2.1,.string c.2.2]])) :
  TabI g r z q w (w6.setCell ⟨q,3,none⟩ (.slice v'.1 v'.2.1 v'.2.2)) nm (cs ++ [c]) v' r6 := by
 have hblk := h.own.blk
 have far : ∀ b,b ≤ q → b < u.heap.size → w6.heap[b]? = u.heap[b]? := fun b hb hl => hg6.block b hl fun e => by have := (hblk b e.symm).1; omega
 have hql := h.box.lt
 have hzl := h.res.lt
 have hs := hb.size
 refine ⟨fun x hx => ?_,?_,?_,Nat.le_trans hr h.less,?_,?_,?_⟩
 ·rcases List.mem_append.1 hx with hx | hx
  ·exact h.ok x hx
  ·rw [List.mem_singleton] at hx; subst hx; exact hc
 ·have := hO.set (b := q) (by omega) 3 (.slice v'.1 v'.2.1 v'.2.2)
  rw [List.map_append]
  exact this
 ·have b1 : Bs w6 q (sTab nm v) := (h.box.but hb (by omega)).keep (far q (Nat.le_refl _) (by omega))
  exact b1.set3 v'
 ·exact (hp.grown hg6 (fun k e => by have := (hblk k e).1; omega)).other (by omega) _ _
 ·have b1 : But g w w6 := (h.but.trans hb).grown hg6 (fun k e => by have := (hblk k e).1; omega)
  exact b1.new (r := q) hwq _ _
 ·exact ((h.res.but hb (by omega)).keep (far z (by omega) (by omega))).keep (Below.heap_setCell _ _ _ _ (by show z ≠ q; omega))
theorem TabI.fin {g r z q : Nat} {w wr : World} {nm : ByteArray} {cs : List Co} {v : Sl} {r5 : Nat} (h : TabI g r z q w wr nm cs v r5) (hn : nm ∈ [⟨#[116]⟩,⟨#[117]⟩,⟨#[119]⟩,⟨#[120]⟩]) (h0 : cs ≠ []) (h4 : cs.length ≤ 4) (hg : g < z) (hz : z = w.heap.size) (hzq : z < q) : TeSf g r w StOK (.returned (stV (sTab nm v))) (set13 wr z (sTab nm v)) :=
 TeSf.fin (m := (⟨1,⟨#[]⟩,nm,cs,[],[],[],⟨#[]⟩,[],[],[],false⟩,[])) h.but { IsS.zero _ _ 1 with nm := rfl,co := cols_row h.own (by omega) } (RowIs.nil _ _ _) (.inl ⟨nm,cs,hn,h0,h4,h.ok,rfl⟩) h.less h.pk hg hz
end Go.Proofs.YtfopfhlohihihaaGreat
