import Derived.Test.YtljmlacnfnmjbaaGreatTmah
import Derived.Test.YtljmlacnfnmjbaaGreatTmab
namespace Go.Proofs.YtljmlacnfnmjbaaGreat
open Go.RowKit
set_option linter.unusedVariables false
set_option linter.unusedSimpArgs false

/-- A block as it is. -/
structure Blk (w : World) (b : Nat) (o : Obj) : Prop where
 row : w.heap[b]? = some o
theorem Blk.new (w : World) (o : Obj) : Blk (w.alloc o) w.heap.size o := ⟨heap_alloc_new w o⟩
theorem Blk.lt {w : World} {b : Nat} {o : Obj} (h : Blk w b o) : b < w.heap.size := (Array.getElem?_eq_some_iff.1 h.row).1
theorem Blk.keep {w w' : World} {b : Nat} {o : Obj} (h : Blk w b o) (hk : w'.heap[b]? = w.heap[b]?) : Blk w' b o := ⟨hk.trans h.row⟩
theorem Blk.but {w w' : World} {g b : Nat} {o : Obj} (h : Blk w b o) (hb : But g w w') (hg : b ≠ g) : Blk w' b o := h.keep (hb.block b h.lt hg)
theorem Blk.later {w w' : World} {b : Nat} {o : Obj} (h : Blk w b o) (hb : Below w.heap.size w w') : Blk w' b o := h.keep (hb.block b h.lt)
theorem Blk.other {w : World} {b : Nat} {o : Obj} (h : Blk w b o) {r : Nat} (hr : b ≠ r) (i : Nat) (v : Value) : Blk (w.setCell ⟨r,i,none⟩ v) b o := h.keep (Below.heap_setCell _ _ _ _ hr)
theorem Blk.cell {w : World} {b : Nat} {arr : Array Value} {t : TypeId} {mk : Nat × Nat} (h : Blk w b (.cells arr t mk)) (j : Nat) : w.cell? ⟨b,j,none⟩ = arr[j]? := by
 unfold World.cell?; rw [h.row]; rfl
theorem Blk.free {w : World} {b : Nat} {arr : Array Value} {t : TypeId} (h : Blk w b (.cells arr t (0,0))) (j : Nat) : w.frozen? ⟨b,j,none⟩ = false := by
 unfold World.frozen?; rw [h.row]; rfl
/-- Three cells are stored. -/
theorem Blk.set3 {w : World} {b : Nat} {x y z : Value} {t : TypeId} (h : Blk w b (.cells #[x,y,z] t (0,0))) (x' y' z' : Value) : Blk (((w.setCell ⟨b,0,none⟩ x').setCell ⟨b,1,none⟩ y').setCell ⟨b,2,none⟩ z') b (.cells #[x',y',z'] t (0,0)) := ⟨by simp [World.setCell,Array.getElem?_modify,h.row]⟩
/-- The statements that the play makes of its tables. -/
def InsOK (tb : Tab) (m : Sm) : Prop := ∃ vs : List Tr,vs.length = tb.2.length ∧ (∀ i (h : i < vs.length) (h2 : i < tb.2.length),∃ k s,vs[i] = .node 0 1 (tb.2[i].2.1,k,s,⟨#[]⟩,⟨#[]⟩) .nil .nil ∧ VaOK tb.2[i].2.1 k s) ∧ m = ⟨5,tb.1,⟨#[]⟩,[],[],vs,[],⟨#[]⟩,[],[],[],false⟩
def UpdOK (tb : Tab) (m : Sm) : Prop := ∃ nm t wh,((nm = ⟨#[110]⟩ ∧ Pl (colsOf tb) 4 1 t) ∨ (nm = ⟨#[118]⟩ ∧ tb = tabT ∧ Pl (colsOf tb) 4 2 t)) ∧ WhOK (colsOf tb) wh ∧ m = ⟨7,tb.1,nm,[],[],[t],[],⟨#[]⟩,[],wh,[],false⟩
def DelOK (tb : Tab) (m : Sm) : Prop := ∃ wh,WhOK (colsOf tb) wh ∧ m = ⟨8,tb.1,⟨#[]⟩,[],[],[],[],⟨#[]⟩,[],wh,[],false⟩
def DataOK (m : Sm) : Prop := ∃ tb,(tb = tabT ∨ tb = tabU) ∧ (InsOK tb m ∨ UpdOK tb m ∨ DelOK tb m ∨ SelOK tb m)
abbrev scO (bt : Nat) : Obj := .cells #[.slice (some ⟨bt,0,none⟩) 2 2,.slice none 0 0] 38 (0,0)
abbrev tbO (nm : ByteArray) (a : Option Addr) (n c : Nat) (a' : Option Addr) (n' c' : Nat) : Obj := .cells #[.string nm,.slice a n c,.slice a' n' c'] 58 (0,0)
abbrev zTb : Obj := .cells #[.string ⟨#[]⟩,.slice none 0 0,.slice none 0 0] 58 (0,0)
/-- The relation behind the choice of a table: result z,schema y,table x. -/
def TabR (g r : Nat) (w : World) (z y bt : Nat) (v4 : Value) (w' : World) : Prop :=
 ∃ (tb : Tab) (x : Nat) (a : Option Addr) (n c : Nat) (a' : Option Addr) (n' c' r' : Nat),v4 = .pointer (some ⟨x,0,none⟩) ∧ (tb = tabT ∨ tb = tabU) ∧ z < x ∧ y ≠ x ∧ Blk w' x (tbO tb.1 a n c a' n' c') ∧ RowIs eCol (fun b => b ≠ g ∧ z < b) w' (.slice a n c) tb.2 ∧ RowIs eTab (fun b => b ≠ g ∧ z < b) w' (.slice (some ⟨bt,0,none⟩) 2 2) [tabT,tabU] ∧ Blk w' y (scO bt) ∧ Bs w' z (zS 0) ∧ Pk w' g r' ∧ Less r r' ∧ But g w w'

theorem TeSt.fin2 {g r r' B z : Nat} {w w1 : World} {X : Sm → Prop} {m : Sm} {s : Sv} (hU : But g w w1) (hI : IsS (fun b => B ≤ b) w1 m s) (hn : s.inn = (none,0,0)) (hX : X m) (hl : Less r r') (hp : Pk w1 g r') (hg : g < w.heap.size) (hz : w.heap.size ≤ z) (hzB : z < B) : TeSt g r w X (.returned (stV s)) (set13 w1 z s) :=
 ⟨s,m,r',rfl,hX,hl,hp.set13 (by omega) s,hU.set13 hz s,(hI.keep fun b hb _ => set13_heap _ _ _ (by omega)).mono fun b hb _ => by omega,hn⟩
/-- Literals in a row of the call's own. -/
theorem lits_row {B2 B : Nat} {w : World} {ao : Option Addr} {n c : Nat} {ps : List Pay} (h : OwnR 28 7 B2 w (.slice ao n c) (ps.map fun p => exC 1 p (.slice none 0 0))) (hne : ps ≠ []) (hB : B ≤ B2) : RowIs eExpr (fun b => B ≤ b) w (.slice ao n c) (ps.map fun p => .node 0 1 p .nil .nil) :=
 OwnR.row (e := eExpr) h (by simp) (by simpa using hne) (fun b hb _ => by omega) fun i hi hj => by
  rw [List.getElem_map,List.getElem_map]
  exact ⟨1,_,none,0,0,rfl,Ex.leaf 0 1 _⟩

/-- A row of one expression that was just built. -/
abbrev exO (o : Int) (p : Pay) (a : Option Addr) (n c : Nat) : Obj := .cells #[.int .i64 o,.int .i64 p.1,.int .i64 p.2.1,.string p.2.2.1,.string p.2.2.2.1,.string p.2.2.2.2,.slice a n c] 28 (0,0)
theorem row_onE {Q : Nat → Prop} {w4 : World} {o1 : Int} {p1 : Pay} {a1 : Option Addr} {n1 c1 : Nat} {t1 : Tr} (hq : Q w4.heap.size) (hx1 : Ex Q w4 t1 (exV o1 p1 (.slice a1 n1 c1))) : RowIs eExpr Q (w4.alloc (exO o1 p1 a1 n1 c1)) (.slice (some ⟨w4.heap.size,0,none⟩) 1 1) [t1] := by
 have hb6 := bal (Below.refl _ w4) (exO o1 p1 a1 n1 c1)
 refine ⟨_,1,1,rfl,rfl,Nat.le_refl _,by omega,fun _ => ⟨w4.heap.size,0,rfl,hq,fun i hi => ?_⟩⟩
 have hi' : i < 1 := hi
 obtain rfl : i = 0 := by omega
 refine ⟨_,⟨o1,p1,a1,n1,c1,rfl,hx1.later hb6⟩,rfl,fun j hj => ?_⟩
 rw [show 0 + 0 * eExpr.k + j = j from by omega]
 exact new7 w4 _ _ _ _ _ _ _ _ j hj
/-- A statement in a box of its own,its rows anywhere past z but there. -/
structure Sk (g z q : Nat) (w w1 : World) (m : Sm) (s : Sv) : Prop where
 but : But g w w1
 box : Bs w1 q s
 is : IsS (fun b => z < b ∧ b ≠ q ∧ b ≠ g) w1 m s
 inn : s.inn = (none,0,0)
theorem Sk.next {g z q : Nat} {w w1 w2 : World} {m : Sm} {s : Sv} (h : Sk g z q w w1 m s) (hb : But g w1 w2) (hq : q ≠ g) : Sk g z q w w2 m s :=
 ⟨h.but.trans hb,h.box.but hb hq,h.is.keep fun b hB hl => hb.block b hl hB.2.2,h.inn⟩
theorem Sk.fill {g z q : Nat} {w w1 : World} {m m' : Sm} {s s' : Sv} (h : Sk g z q w w1 m s) {i : Nat} {v : Value} (hq : w.heap.size ≤ q) (hx : Bs w1 q s → Bs (w1.setCell ⟨q,i,none⟩ v) q s') (hi : IsS (fun b => z < b ∧ b ≠ q ∧ b ≠ g) w1 m s → IsS (fun b => z < b ∧ b ≠ q ∧ b ≠ g) w1 m' s') (hn : s'.inn = (none,0,0)) :
  Sk g z q w (w1.setCell ⟨q,i,none⟩ v) m' s' :=
 ⟨h.but.new hq _ _,hx h.box,(hi h.is).keep fun b hB _ => Below.heap_setCell _ _ _ _ (by show b ≠ q; exact hB.2.1),hn⟩
theorem Sk.wh {g z q : Nat} {w w1 : World} {m : Sm} {s : Sv} (h : Sk g z q w w1 m s) (hq : w.heap.size ≤ q) {v : Sl} {l : List Tr} (hr : RowIs eExpr (fun b => z < b ∧ b ≠ q ∧ b ≠ g) w1 (slV v) l) : Sk g z q w (w1.setCell ⟨q,9,none⟩ (.slice v.1 v.2.1 v.2.2)) { m with wh := l } { s with wh := v } :=
 h.fill hq (fun k => k.set9 v) (fun k => { k with wh := hr }) h.inn
theorem Sk.va {g z q : Nat} {w w1 : World} {m : Sm} {s : Sv} (h : Sk g z q w w1 m s) (hq : w.heap.size ≤ q) {v : Sl} {l : List Tr} (hr : RowIs eExpr (fun b => z < b ∧ b ≠ q ∧ b ≠ g) w1 (slV v) l) : Sk g z q w (w1.setCell ⟨q,5,none⟩ (.slice v.1 v.2.1 v.2.2)) { m with values := l } { s with va := v } :=
 h.fill hq (fun k => k.set5 v) (fun k => { k with va := hr }) h.inn
theorem Sk.nm {g z q : Nat} {w w1 : World} {m : Sm} {s : Sv} (h : Sk g z q w w1 m s) (hq : w.heap.size ≤ q) (x : ByteArray) : Sk g z q w (w1.setCell ⟨q,2,none⟩ (.string x)) { m with name := x } { s with nm := x } :=
 h.fill hq (fun k => k.set2 x) (fun k => { k with nm := rfl }) h.inn
theorem TeSt.fin3 {g r r' q z : Nat} {w w1 : World} {X : Sm → Prop} {m : Sm} {s : Sv} (h : Sk g z q w w1 m s) (hX : X m) (hl : Less r r') (hp : Pk w1 g r') (hg : g < w.heap.size) (hz : w.heap.size ≤ z) : TeSt g r w X (.returned (stV s)) (set13 w1 z s) :=
 TeSt.fin2 (B := z + 1) h.but (h.is.mono fun b hb _ => by have := hb.1; omega) h.inn hX hl hp hg hz (by omega)
/-- The columns,their rows neither in block g nor in block q. -/
structure Cols3 (w : World) (g q : Nat) (C : Cl2) (a : Option Addr) (c : Nat) (a2 : Option Addr) (c2 : Nat) : Prop where
 its : RowIs eItem (fun b => b ≠ g ∧ b ≠ q) w (.slice a C.length c) (C.map Prod.fst)
 kds : RowIs eInt (fun b => b ≠ g ∧ b ≠ q) w (.slice a2 C.length c2) (C.map Prod.snd)
 few : C.length ≤ 100
 one : ∃ x ∈ C,x.2 = 1
 two : ∃ x ∈ C,x.2 = 2
theorem Cols3.keep {w w' : World} {g q : Nat} {C : Cl2} {a : Option Addr} {c : Nat} {a2 : Option Addr} {c2 : Nat} (h : Cols3 w g q C a c a2 c2) (hk : ∀ b,b ≠ g → b ≠ q → b < w.heap.size → w'.heap[b]? = w.heap[b]?) : Cols3 w' g q C a c a2 c2 :=
 ⟨h.its.keep (by decide) fun b hq hl => hk b hq.1 hq.2 hl,h.kds.keep (by decide) fun b hq hl => hk b hq.1 hq.2 hl,h.few,h.one,h.two⟩
theorem Cols3.but {w w' : World} {g q : Nat} {C : Cl2} {a : Option Addr} {c : Nat} {a2 : Option Addr} {c2 : Nat} (h : Cols3 w g q C a c a2 c2) (hb : But g w w') : Cols3 w' g q C a c a2 c2 := h.keep fun b hg _ hl => hb.block b hl hg
theorem Cols3.set {w : World} {g q : Nat} {C : Cl2} {a : Option Addr} {c : Nat} {a2 : Option Addr} {c2 : Nat} (h : Cols3 w g q C a c a2 c2) (i : Nat) (v : Value) : Cols3 (w.setCell ⟨q,i,none⟩ v) g q C a c a2 c2 := h.keep fun b _ hq _ => Below.heap_setCell _ _ _ _ hq
theorem Cols3.cols {w : World} {g q : Nat} {C : Cl2} {a : Option Addr} {c : Nat} {a2 : Option Addr} {c2 : Nat} (h : Cols3 w g q C a c a2 c2) : Cols w g C a c a2 c2 :=
 ⟨h.its.mono (by decide) fun b hb _ => hb.1,h.kds.mono (by decide) fun b hb _ => hb.1,h.few,h.one,h.two⟩
theorem Cols.three {w : World} {g q : Nat} {C : Cl2} {a : Option Addr} {c : Nat} {a2 : Option Addr} {c2 : Nat} (h : Cols w g C a c a2 c2) (hq : w.heap.size ≤ q) : Cols3 w g q C a c a2 c2 :=
 ⟨h.its.mono (by decide) fun b hb hl => ⟨hb,by omega⟩,h.kds.mono (by decide) fun b hb hl => ⟨hb,by omega⟩,h.few,h.one,h.two⟩
/-- The relation behind the first part of an update. -/
def UpR (g r : Nat) (w : World) (z x : Nat) (tb : Tab) (o : Obj) (i1 : Option Addr) (j1 : Nat) (i2 : Option Addr) (j2 : Nat) (nm : ByteArray → Int → Prop) (v9 : Value) (w' : World) : Prop :=
 ∃ (q r' : Nat) (s : Sv) (t : Tr) (c : ByteArray) (k : Int),v9 = .pointer (some ⟨q,0,none⟩) ∧ Sk g z q w w' ⟨7,tb.1,c,[],[],[t],[],⟨#[]⟩,[],[],[],false⟩ s ∧ nm c k ∧ Pl (colsOf tb) 4 k t ∧ q ≠ z ∧ q ≠ x ∧ q ≠ g ∧ w.heap.size ≤ q ∧ Blk w' x o ∧ Bs w' z (zS 0) ∧ Cols3 w' g q (colsOf tb) i1 j1 i2 j2 ∧ Pk w' g r' ∧ Less r r'

theorem Bs.set13 {w : World} {b : Nat} {s0 : Sv} (h : Bs w b s0) (s : Sv) : Bs (set13 w b s) b s :=
 ((((((((((((((⟨by simp [World.setCell,Array.getElem?_modify,h.row]⟩ : Bs (w.setCell ⟨b,0,none⟩ (.int .i64 s.k)) b { s0 with k := s.k }).set1 s.tb).set2 s.nm).set3 s.co).set4 s.ta).set5 s.va).set6 s.it).set7 s.jn).set8 s.on).set9 s.wh).set10 s.od).set11 s.ds).set12 s.inn))
abbrev sUp (tb nm : ByteArray) (b : Nat) : Sv := ⟨7,tb,nm,(none,0,0),(none,0,0),(some ⟨b,0,none⟩,1,1),(none,0,0),⟨#[]⟩,(none,0,0),(none,0,0),(none,0,0),false,(none,0,0)⟩
theorem UpR.box {g r : Nat} {w : World} {z x : Nat} {tb : Tab} {o : Obj} {i1 : Option Addr} {j1 : Nat} {i2 : Option Addr} {j2 : Nat} {nm : ByteArray → Int → Prop} {W : World} {q r' b : Nat} {t : Tr} {c : ByteArray} {k : Int} {s0 : Sv}
  (hU : But g w W) (hq : Bs W q s0) (hr : RowIs eExpr (fun b => z < b ∧ b ≠ q ∧ b ≠ g) W (.slice (some ⟨b,0,none⟩) 1 1) [t]) (hn : nm c k) (hP : Pl (colsOf tb) 4 k t) (h1 : q ≠ z) (h2 : q ≠ x) (h3 : q ≠ g) (h3' : g < q) (h4 : w.heap.size ≤ q) (hX : Blk W x o) (hZ : Bs W z (zS 0)) (hCc : Cols3 W g q (colsOf tb) i1 j1 i2 j2) (hp : Pk W g r') (hl : Less r r') :
  UpR g r w z x tb o i1 j1 i2 j2 nm (.pointer (some ⟨q,0,none⟩)) (set13 W q (sUp tb.1 c b)) :=
 ⟨q,r',sUp tb.1 c b,t,c,k,rfl,⟨hU.set13 h4 _,hq.set13 _,{ IsS.zero _ _ 7 with tb := rfl,nm := rfl,va := hr.keep (by decide) fun b hb _ => set13_heap _ _ _ hb.2.1 },rfl⟩,hn,hP,h1,h2,h3,h4,hX.keep (set13_heap _ _ _ (Ne.symm h2)),hZ.keep (set13_heap _ _ _ (Ne.symm h1)),hCc.keep (fun b _ hq _ => set13_heap _ _ _ hq),hp.set13 h3' _,hl⟩
theorem UpR.new {g r : Nat} {w : World} {z x : Nat} {tb : Tab} {o : Obj} {i1 : Option Addr} {j1 : Nat} {i2 : Option Addr} {j2 : Nat} {nm : ByteArray → Int → Prop} {W : World} {r' b : Nat} {t : Tr} {c : ByteArray} {k : Int}
  (hU : But g w W) (hr : RowIs eExpr (fun b => z < b ∧ b ≠ g) W (.slice (some ⟨b,0,none⟩) 1 1) [t]) (hn : nm c k) (hP : Pl (colsOf tb) 4 k t) (hX : Blk W x o) (hZ : Bs W z (zS 0)) (hC : Cols W g (colsOf tb) i1 j1 i2 j2) (hp : Pk W g r') (hl : Less r r') :
  UpR g r w z x tb o i1 j1 i2 j2 nm (.pointer (some ⟨W.heap.size,0,none⟩)) (W.alloc (.cells #[.int .i64 7,.string tb.1,.string c,.slice none 0 0,.slice none 0 0,.slice (some ⟨b,0,none⟩) 1 1,.slice none 0 0,.string ⟨#[]⟩,.slice none 0 0,.slice none 0 0,.slice none 0 0,.bool false,.slice none 0 0] 43)) := by
 have hb := bal (Below.refl _ W) (.cells #[.int .i64 7,.string tb.1,.string c,.slice none 0 0,.slice none 0 0,.slice (some ⟨b,0,none⟩) 1 1,.slice none 0 0,.string ⟨#[]⟩,.slice none 0 0,.slice none 0 0,.slice none 0 0,.bool false,.slice none 0 0] 43)
 have hpl := hp.lt
 have hXl := hX.lt
 have hZl := hZ.lt
 exact ⟨W.heap.size,r',sUp tb.1 c b,t,c,k,rfl,⟨hU.trans (But.of hb),Bs.new W (sUp tb.1 c b),{ IsS.zero _ _ 7 with tb := rfl,nm := rfl,va := (hr.mono (by decide) fun b hb hl => ⟨hb.1,by omega,hb.2⟩).keep (by decide) fun b _ hl => hb.block b hl },rfl⟩,hn,hP,by omega,by omega,by omega,hU.size,hX.later hb,hZ.later hb,(hC.three (Nat.le_refl _)).but (But.of hb),hp.later hb,hl⟩

end Go.Proofs.YtljmlacnfnmjbaaGreat
namespace Go.Proofs.YtljmlacnfnmjbaaGreat
open Go.RowKit
set_option linter.unusedVariables false

theorem RowIs.inb {α : Type} {e : Ek α} {Q : Nat → Prop} {w : World} {b o n c : Nat} {l : List α} (h : RowIs e Q w (.slice (some ⟨b,o,none⟩) n c) l) {k : Nat} (hk : k < l.length) : Q b := by
 obtain ⟨ao,n',c',hv,hl,hn,hc,hx⟩ := h
 cases hv
 obtain ⟨b',o',ha,hq,hi⟩ := hx (by omega)
 cases ha
 exact hq
theorem frozen_of_block {w w' : World} {a : Addr} (h : w'.heap[a.block]? = w.heap[a.block]?) : w'.frozen? a = w.frozen? a := by unfold World.frozen?; rw [h]
abbrev sIns (tb : ByteArray) (v : Sl) : Sv := ⟨5,tb,⟨#[]⟩,(none,0,0),(none,0,0),v,(none,0,0),⟨#[]⟩,(none,0,0),(none,0,0),(none,0,0),false,(none,0,0)⟩
/-- Values of the first columns' kinds. -/
def LitOK (tb : Tab) (ps : List Pay) : Prop := ps.length ≤ tb.2.length ∧ ∀ j (h : j < ps.length) (h2 : j < tb.2.length),∃ k s,ps[j] = (tb.2[j].2.1,k,s,⟨#[]⟩,⟨#[]⟩) ∧ VaOK tb.2[j].2.1 k s
theorem LitOK.snoc {tb : Tab} {ps : List Pay} (h : LitOK tb ps) (hl : ps.length < tb.2.length) {kd k : Int} {s : ByteArray} (hk : tb.2[ps.length].2.1 = kd) (hv : VaOK kd k s) : LitOK tb (ps ++ [(kd,k,s,⟨#[]⟩,⟨#[]⟩)]) := by
 subst hk
 refine ⟨by simp; omega,fun j hj h2 => ?_⟩
 rw [List.length_append,List.length_singleton] at hj
 by_cases hlt : j < ps.length
 ·obtain ⟨k',s',e,hv'⟩ := h.2 j hlt h2
  exact ⟨k',s',by rw [List.getElem_append_left hlt]; exact e,hv'⟩
 ·obtain rfl : j = ps.length := by omega
  exact ⟨k,s,by rw [List.getElem_append_right (Nat.le_refl _)]; simp,hv⟩
/-- What holds ahead of each round. -/
structure InsR (g r z q x : Nat) (w : World) (tb : Tab) (o : Obj) (a : Option Addr) (n c : Nat) (ps : List Pay) (v : Sl) (r5 : Nat) (wr : World) : Prop where
 ok : LitOK tb ps
 own : OwnR 28 7 (q + 1) wr (slV v) (ps.map fun p => exC 1 p (.slice none 0 0))
 box : Bs wr q (sIns tb.1 v)
 less : Less r r5
 pk : Pk wr g r5
 but : But g w wr
 blk : Blk wr x o
 row : RowIs eCol (fun b => b ≠ g ∧ z < b ∧ b < q) wr (.slice a n c) tb.2
 res : Bs wr z (zS 0)
theorem InsR.zero {g r z q x : Nat} {w wr : World} {tb : Tab} {o : Obj} {a : Option Addr} {n c r5 : Nat} (hbox : Bs wr q (sIns tb.1 (none,0,0))) (hl : Less r r5) (hp : Pk wr g r5) (hb : But g w wr) (hx : Blk wr x o) (hr : RowIs eCol (fun b => b ≠ g ∧ z < b ∧ b < q) wr (.slice a n c) tb.2) (hz : Bs wr z (zS 0)) : InsR g r z q x w tb o a n c [] (none,0,0) r5 wr :=
 ⟨⟨Nat.zero_le _,fun j h => absurd h (by simp)⟩,OwnR.nil _ _ _ _,hbox,hl,hp,hb,hx,hr,hz⟩
/-- A round. -/
theorem InsR.next {g r z q x : Nat} {w wr u w6 : World} {tb : Tab} {o : Obj} {a : Option Addr} {n c : Nat} {ps : List Pay} {v v' : Sl} {r5 r6 : Nat} {kd k : Int} {s : ByteArray} (h : InsR g r z q x w tb o a n c ps v r5 wr) (hl : ps.length < tb.2.length) (hk : tb.2[ps.length].2.1 = kd) (hv : VaOK kd k s)
  (hr : r6 ≤ r5) (hp : Pk u g r6) (hb : But g wr u) (hgz : g < z) (hzx : z < x) (hxq : x < q) (hwq : w.heap.size ≤ q) (hg6 : u.grownBy w6 (slV v).ownBlock) (hO : OwnR 28 7 (q + 1) w6 (slV v') (ps.map (fun p => exC 1 p (.slice none 0 0)) ++ [exC 1 (kd,k,s,⟨#[]⟩,⟨#[]⟩) (.slice none 0 0)])) :
  InsR g r z q x w tb o a n c (ps ++ [(kd,k,s,⟨#[]⟩,⟨#[]⟩)]) v' r6 (w6.setCell ⟨q,5,none⟩ (.slice v'.1 v'.2.1 v'.2.2)) := by
 have hblk := h.own.blk
 have far : ∀ b,b ≤ q → b < u.heap.size → w6.heap[b]? = u.heap[b]? := fun b hb hl => hg6.block b hl fun e => by have := (hblk b e.symm).1; omega
 have hql := h.box.lt
 have hzl := h.res.lt
 have hxl := h.blk.lt
 have hs := hb.size
 have set : ∀ b,b ≠ q → (w6.setCell ⟨q,5,none⟩ (.slice v'.1 v'.2.1 v'.2.2)).heap[b]? = w6.heap[b]? := fun b hb => Below.heap_setCell _ _ _ _ hb
 refine ⟨h.ok.snoc hl hk hv,?_,?_,h.less.on hr,?_,?_,?_,?_,?_⟩
 ·have := hO.set (b := q) (by omega) 5 (.slice v'.1 v'.2.1 v'.2.2)
  rw [List.map_append]
  exact this
 ·have b1 : Bs w6 q (sIns tb.1 v) := (h.box.but hb (by omega)).keep (far q (Nat.le_refl _) (by omega))
  exact b1.set5 v'
 ·exact (hp.grown hg6 (fun k e => by have := (hblk k e).1; omega)).other (by omega) _ _
 ·have b1 : But g w w6 := (h.but.trans hb).grown hg6 (fun k e => by have := (hblk k e).1; omega)
  exact b1.new (r := q) hwq _ _
 ·exact ((h.blk.but hb (by omega)).keep (far x (by omega) (by omega))).keep (set x (by omega))
 ·exact ((h.row.keep (by decide) fun b hq hl => hb.block b hl hq.1).keep (by decide) fun b hq hl => far b (by omega) hl).keep (by decide) fun b hq _ => set b (by omega)
 ·exact ((h.res.but hb (by omega)).keep (far z (by omega) (by omega))).keep (set z (by omega))
/-- The end. -/
theorem InsR.fin {g r z q x : Nat} {w wr : World} {tb : Tab} {o : Obj} {a : Option Addr} {n c : Nat} {ps : List Pay} {v : Sl} {r5 : Nat} (h : InsR g r z q x w tb o a n c ps v r5 wr) (htb : tb = tabT ∨ tb = tabU) (hl : ps.length = tb.2.length) (hg : g < w.heap.size) (hz : z = w.heap.size) (hzq : z < q) : TeSt g r w DataOK (.returned (stV (sIns tb.1 v))) (set13 wr z (sIns tb.1 v)) := by
 have hne : ps ≠ [] := by
  rintro rfl
  rcases htb with rfl | rfl <;> cases hl
 have hrow := lits_row (B := z + 1) h.own hne (by omega)
 refine TeSt.fin2 (B := z + 1) (m := ⟨5,tb.1,⟨#[]⟩,[],[],ps.map fun p => .node 0 1 p .nil .nil,[],⟨#[]⟩,[],[],[],false⟩) h.but ?_ rfl ⟨tb,htb,.inl ⟨_,by rw [List.length_map]; exact hl,fun i hi h2 => ?_,rfl⟩⟩ h.less h.pk hg (by omega) (by omega)
 ·exact { IsS.zero _ _ 5 with tb := rfl,va := hrow }
 ·rw [List.length_map] at hi
  obtain ⟨k,s,e,hv⟩ := h.ok.2 i hi h2
  exact ⟨k,s,by rw [List.getElem_map,e],hv⟩

end Go.Proofs.YtljmlacnfnmjbaaGreat
