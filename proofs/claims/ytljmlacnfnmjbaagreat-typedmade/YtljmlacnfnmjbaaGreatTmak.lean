import Derived.Test.YtljmlacnfnmjbaaGreatTmai
import Derived.Test.YtljmlacnfnmjbaaGreatTmad
import Derived.Test.YtljmlacnfnmjbaaGreatTmaa
import Derived.Deep.MidRow
namespace Go.Proofs.YtljmlacnfnmjbaaGreat
open Go.RowKit
set_option linter.unusedVariables false

/-- A column that the play makes. -/
def ColP (c : Co) : Prop := c.1 ∈ [⟨#[107]⟩,⟨#[118]⟩,⟨#[110]⟩,⟨#[114]⟩] ∧ (c.2.1 = 1 ∨ c.2.1 = 2) ∧ c.2.2 ∈ [⟨#[]⟩,⟨#[116]⟩,⟨#[117]⟩,⟨#[113]⟩]
abbrev viewN : List ByteArray := [⟨#[100]⟩,⟨#[101]⟩,⟨#[102]⟩,⟨#[103]⟩]
/-- A statement as the play makes it. -/
def StOK (m : Sf) : Prop :=
 (∃ n cs,n ∈ [⟨#[116]⟩,⟨#[117]⟩,⟨#[119]⟩,⟨#[120]⟩] ∧ cs ≠ [] ∧ cs.length ≤ 4 ∧ (∀ c ∈ cs,ColP c) ∧ m = (⟨1,⟨#[]⟩,n,cs,[],[],[],⟨#[]⟩,[],[],[],false⟩,[])) ∨
 (∃ tb n,tb ∈ [⟨#[116]⟩,⟨#[117]⟩,⟨#[119]⟩] ∧ n ∈ [⟨#[110]⟩,⟨#[118]⟩,⟨#[107]⟩,⟨#[113]⟩] ∧ m = (⟨2,tb,n,[],[],[],[],⟨#[]⟩,[],[],[],false⟩,[])) ∨
 (∃ n tg x tb,n ∈ viewN ∧ TgOK tg ∧ (tb = tabT ∨ tb = tabU) ∧ SelOK tb x ∧ m = (⟨3,⟨#[]⟩,n,[],tg,[],[],⟨#[]⟩,[],[],[],false⟩,[x])) ∨
 (∃ n tg x,n ∈ viewN ∧ TgOK tg ∧ DataOK x ∧ x.kind ≠ 6 ∧ m = (⟨4,⟨#[]⟩,n,[],tg,[],[],⟨#[]⟩,[],[],[],false⟩,[x])) ∨
 (∃ k : Int,(k = 9 ∨ k = 10 ∨ k = 11) ∧ m = (sm k,[])) ∨
 (∃ tg,tg ≠ [] ∧ tg.length ≤ 3 ∧ (∀ z ∈ tg,1 ≤ z ∧ z ≤ 3) ∧ m = (⟨12,⟨#[]⟩,⟨#[]⟩,[],tg,[],[],⟨#[]⟩,[],[],[],false⟩,[])) ∨
 (∃ n,n ∈ viewN ∧ m = (⟨13,⟨#[]⟩,n,[],[],[],[],⟨#[]⟩,[],[],[],false⟩,[])) ∨
 (∃ x,DataOK x ∧ m = (x,[]))
/-- What Stmt tells. -/
def TeSf (g r : Nat) (w : World) (X : Sf → Prop) (e : Ending) (w' : World) : Prop :=
 ∃ s m r',e = .returned (stV s) ∧ X m ∧ r' ≤ r ∧ Pk w' g r' ∧ But g w w' ∧ IsS (fun b => w.heap.size ≤ b) w' m.1 s ∧ RowIs eStmt (fun b => w.heap.size ≤ b) w' (slV s.inn) m.2
theorem TeSf.fin {g r r' z : Nat} {w w1 : World} {X : Sf → Prop} {m : Sf} {s : Sv} (hU : But g w w1) (hI : IsS (fun b => z < b) w1 m.1 s) (hn : RowIs eStmt (fun b => z < b) w1 (slV s.inn) m.2) (hX : X m) (hl : r' ≤ r) (hp : Pk w1 g r') (hg : g < z) (hz : z = w.heap.size) : TeSf g r w X (.returned (stV s)) (set13 w1 z s) :=
 ⟨s,m,r',rfl,hX,hl,hp.set13 hg s,hU.set13 (by omega) s,(hI.keep fun b hb _ => set13_heap _ _ _ (by omega)).mono fun b hb _ => by omega,(hn.keep (by decide) fun b hb _ => set13_heap _ _ _ (by omega)).mono (by decide) fun b hb _ => by omega⟩
/-- A row of the call's own,read,be it empty or not. -/
theorem OwnR.row' {α : Type} {e : Ek α} {ty B : Nat} {w : World} {v : Value} {css : List (List Value)} {l : List α} {Q : Nat → Prop} (h : OwnR ty e.k B w v css) (hl : l.length = css.length) (hq : ∀ b,B ≤ b → b < w.heap.size → Q b)
  (hE : ∀ i (h1 : i < l.length) (h2 : i < css.length),e.E Q w l[i] css[i]) : RowIs e Q w v l := by
 by_cases hn : css = []
 ·subst hn
  obtain rfl : l = [] := List.eq_nil_of_length_eq_zero hl
  rcases h.2.2 with ⟨rfl,_⟩ | ⟨b,cap,cur,rfl,_,_,h1,h2,_⟩
  ·exact RowIs.nil _ _ _
  ·exact ⟨_,_,cap,rfl,rfl,Nat.zero_le _,Nat.le_trans h2 (by decide),fun h => absurd h (by simp)⟩
 ·exact OwnR.row h hl hn hq hE
theorem tags_row {B z : Nat} {w : World} {v : Value} {l : List Int} (h : OwnR 91 1 B w v (l.map fun z => [.int .u16 z])) (hB : z < B) : RowIs eTag (fun b => z < b) w v l :=
 OwnR.row' (e := eTag) h (by simp) (fun b hb _ => by omega) fun i h1 h2 => by
  show (l.map fun z => [Value.int .u16 z])[i] = [.int .u16 l[i]]
  rw [List.getElem_map]
theorem cols_row {B z : Nat} {w : World} {v : Value} {l : List Co} (h : OwnR 84 3 B w v (l.map fun c => [.string c.1,.int .i64 c.2.1,.string c.2.2])) (hB : z < B) : RowIs eCol (fun b => z < b) w v l :=
 OwnR.row' (e := eCol) h (by simp) (fun b hb _ => by omega) fun i h1 h2 => by
  show (l.map fun c => [Value.string c.1,.int .i64 c.2.1,.string c.2.2])[i] = [.string l[i].1,.int .i64 l[i].2.1,.string l[i].2.2]
  rw [List.getElem_map]
/-- A row of one statement that was just built. -/
theorem row_onS {Q : Nat → Prop} {w : World} {x : Sm} {s : Sv} (hq : Q w.heap.size) (hI : IsS Q w x s) (hn : s.inn = (none,0,0)) : RowIs eStmt Q (w.alloc (svO s)) (.slice (some ⟨w.heap.size,0,none⟩) 1 1) [x] := by
 have hb := bal (Below.refl _ w) (svO s)
 refine ⟨_,1,1,rfl,rfl,Nat.le_refl _,by omega,fun _ => ⟨w.heap.size,0,rfl,hq,fun i hi => ?_⟩⟩
 have hi' : i < 1 := hi
 obtain rfl : i = 0 := by omega
 refine ⟨svC s,⟨s,rfl,hI.keep fun b _ hl => hb.block b hl,hn⟩,rfl,fun j hj => ?_⟩
 rw [show 0 + 0 * eStmt.k + j = j from by omega]
 rw [cell_new w]
 have hj' : j < 13 := hj
 match j,hj' with
 | 0,_ => rfl
 | 1,_ => rfl
 | 2,_ => rfl
 | 3,_ => rfl
 | 4,_ => rfl
 | 5,_ => rfl
 | 6,_ => rfl
 | 7,_ => rfl
 | 8,_ => rfl
 | 9,_ => rfl
 | 10,_ => rfl
 | 11,_ => rfl
 | 12,_ => rfl
/-- Only block b of the old ones may have changed. -/
structure GrM (b : Nat) (w w' : World) : Prop where
 os : w'.os = w.os
 tape : w'.tape = w.tape
 output : w'.output = w.output
 size : w.heap.size ≤ w'.heap.size
 block : ∀ j,j < w.heap.size → j ≠ b → w'.heap[j]? = w.heap[j]?
/-- A row,be it empty,appended to a row of the call's own that is not nil. -/
theorem run_appM {t ty e : TypeId} {z : Value} {k bytes B : Nat} (ht : Tryz.prog.underlying t = some (.slice e)) (hinf : (Tryz.prog.info? e).map (fun i => (i.zero,i.size,i.bytes)) = some (some z,k,bytes)) (hzs : z.cells.size = k) (hk : 0 < k) (hby : bytes ≤ 1000)
  (w : World) (b n cap : Nat) (u : Value) (css css2 : List (List Value)) (hown : OwnR e k B w (.slice (some ⟨b,0,none⟩) n cap) css) (hown2 : OwnR e k B w u css2) (h1 : ∀ u ∈ css2.flatten,u.oneCell' = true) (hl : css.length + css2.length ≤ 1000) (hB : B ≤ w.heap.size) :
  ∃ v' w',(Builtin.append_ #[t,t] ty #[.slice (some ⟨b,0,none⟩) n cap,u]).run Tryz.prog w = .ok v' w' ∧ OwnR e k B w' v' (css ++ css2) ∧ GrM b w w' := by
 by_cases hne : css2 = []
 ·subst hne
  rcases id hown2.2.2 with ⟨rfl,_⟩ | ⟨b2,cap2,cur2,rfl,_⟩
  ·obtain ⟨i,hi,hz,hsz,hb⟩ := info_parts hinf
   have hnc : n ≤ cap := by
    rcases hown.2.2 with ⟨e,_⟩ | ⟨b',cap',cur,e,_,_,hnc,_⟩
    ·cases e
    ·cases e; exact hnc
   have := run_append_room_src w t t ty e i ht hi b 0 n cap (.slice none 0 0) 0 [] (Src.ofNil w ht 0) (by omega) (fun j hj => absurd hj (by simp)) (fun j hj => absurd hj (by simp))
   refine ⟨_,_,this,?_,rfl,rfl,rfl,Nat.le_refl _,fun _ _ _ => rfl⟩
   rw [List.append_nil]
   exact hown
  ·obtain ⟨i,hi,hz,hsz,hb⟩ := info_parts hinf
   have hnc : n ≤ cap := by
    rcases hown.2.2 with ⟨e,_⟩ | ⟨b',cap',cur,e,_,_,hnc,_⟩
    ·cases e
    ·cases e; exact hnc
   have := run_append_room_src w t t ty e i ht hi b 0 n cap (.slice (some ⟨b2,0,none⟩) 0 cap2) 0 [] (Src.ofSlice w ht ⟨b2,0,none⟩ 0 cap2 [] (by simp) (by simp) (by simp)) (by omega) (fun j hj => absurd hj (by simp)) (fun j hj => absurd hj (by simp))
   refine ⟨_,_,this,?_,rfl,rfl,rfl,Nat.le_refl _,fun _ _ _ => rfl⟩
   rw [List.append_nil]
   exact hown
 ·obtain ⟨v',w',hr,h2,h3,h4⟩ := run_appN ht hinf hzs hk hby w _ u css css2 hown hown2 hne h1 hl hB (ty := ty)
  exact ⟨v',w',hr,h2,h3.os,h3.tape,h3.output,h3.size,fun j hj hne => h3.block j hj fun e => hne (by cases e; rfl)⟩
theorem wpList_appM {t e : TypeId} {z : Value} {k bytes B : Nat} (ht : Tryz.prog.underlying t = some (.slice e)) (hinf : (Tryz.prog.info? e).map (fun i => (i.zero,i.size,i.bytes)) = some (some z,k,bytes)) (hzs : z.cells.size = k) (hk : 0 < k) (hby : bytes ≤ 1000)
  {w : World} {ops : Array Oper} {rest : List Oper} {o : Oper} {a : Act} {Q : Exit → Act → World → Prop} (hgd : o.guard = none) (s x : Operand)
  (ho : o.op = .call { callee := .builtin .append,args := #[s,x],argTypes := #[t,t] }) (b n cap : Nat) (u : Value) (css css2 : List (List Value)) (hs : a.eval s = .slice (some ⟨b,0,none⟩) n cap) (hx : a.eval x = u)
  (hown : OwnR e k B w (.slice (some ⟨b,0,none⟩) n cap) css) (hown2 : OwnR e k B w u css2) (h1 : ∀ u ∈ css2.flatten,u.oneCell' = true) (hl : css.length + css2.length ≤ 1000) (hB : B ≤ w.heap.size)
  (h : ∀ v' w',OwnR e k B w' v' (css ++ css2) → GrM b w w' → wpList Tryz.prog ops Q rest (a.put o.dst v') w') : wpList Tryz.prog ops Q (o :: rest) a w :=
 wpList_plain hgd fun _ hK => by
  obtain ⟨v',w',hr,h2,h3⟩ := run_appM ht hinf hzs hk hby w b n cap u css css2 hown hown2 h1 hl hB (ty := o.type)
  unfold Oper.wp execOp
  simp only [ho,resolve,invoke,builtin,Sem.run_bind,Sem.run_pure,Result.andThen_ok,List.map_toArray,List.map_cons,List.map_nil,hs,hx,hr]
  exact hK _ _ (h v' w' h2 h3)

theorem set13_size (w : World) (b : Nat) (s : Sv) : (set13 w b s).heap.size = w.heap.size := by simp [set13,World.setCell]
abbrev lT3 : List ByteArray := [⟨#[116]⟩,⟨#[117]⟩,⟨#[119]⟩]
abbrev lN4 : List ByteArray := [⟨#[110]⟩,⟨#[118]⟩,⟨#[107]⟩,⟨#[113]⟩]
abbrev lK4 : List ByteArray := [⟨#[107]⟩,⟨#[118]⟩,⟨#[110]⟩,⟨#[114]⟩]
abbrev oT3 : Obj := .cells #[.string ⟨#[116]⟩,.string ⟨#[117]⟩,.string ⟨#[119]⟩] 9 (0,0)
abbrev oN4 : Obj := .cells #[.string ⟨#[110]⟩,.string ⟨#[118]⟩,.string ⟨#[107]⟩,.string ⟨#[113]⟩] 9 (0,0)
abbrev oK4 : Obj := .cells #[.string ⟨#[107]⟩,.string ⟨#[118]⟩,.string ⟨#[110]⟩,.string ⟨#[114]⟩] 9 (0,0)
abbrev oZC : Obj := .cells #[.string ⟨#[]⟩,.int .i64 0,.string ⟨#[]⟩] 84 (0,0)
abbrev sIx (tb nm : ByteArray) : Sv := ⟨2,tb,nm,(none,0,0),(none,0,0),(none,0,0),(none,0,0),⟨#[]⟩,(none,0,0),(none,0,0),(none,0,0),false,(none,0,0)⟩
theorem s1 {α : Type} (l : List α) (i : Nat) (x : α) : l.toArray.setIfInBounds i x = (l.set i x).toArray := by simp
theorem s2 {α : Type} (a b : α) (l : List α) : (a :: l).set 0 b = b :: l := rfl
theorem s3 {α : Type} (a b : α) (l : List α) (i : Nat) : (a :: l).set (i + 1) b = a :: l.set i b := rfl
theorem tkH {P : Program} {md : Region.Mode} {ops : Array Oper} {Q : Exit → Act → World → Prop} {S : World → Prop} (i : Nat) {oi : Oper} (v : Value) {fuel : Nat} {listed : Array Bool} {a : Act} {w : World} (hi : ops[i]? = some oi)
  (hs : Region.noSelect ops = true) (hf : Region.free md ops listed i = true) (hr : (Region.ready md ops listed).contains i = true) (hQ : ∀ c a w,Q (.panic c) (a.put oi.dst v) w → Q (.panic c) a w)
  (hg : Region.wanted oi (yielded ops a.tmps) = true) (hy : ∀ w',S w' → (execOp a.eval oi).run P w' = .ok (.value v) w') (hS : S w)
  (h : wpAnyH P md ops Q S fuel (listed.setIfInBounds i true) (a.put oi.dst v) w) : wpAnyH P md ops Q S (fuel + 1) listed a w :=
 wpAnyH_take hi hs hf hr hQ (Or.inl ⟨hg,hy⟩) hS h
/-- S may be made stronger on the way. -/
theorem wpAnyH_str {P : Program} {md : Region.Mode} {ops : Array Oper} {Q : Exit → Act → World → Prop} {S S' : World → Prop} (h : ∀ w,S' w → S w) : ∀ (fuel : Nat) (listed : Array Bool) (a : Act) (w : World),wpAnyH P md ops Q S' fuel listed a w → wpAnyH P md ops Q S fuel listed a w
 | 0,_,_,_,k => k
 | fuel + 1,_,_,_,k => ⟨k.1,fun i hi => wpOp_mono (fun _ _ y => ⟨h _ y.1,wpAnyH_str h fuel _ _ _ y.2⟩) (k.2 i hi)⟩
/-- One of some texts. -/
def txN (L : List ByteArray) (j : Nat) : ByteArray := L.getD j ⟨#[]⟩
theorem txN_mem {L : List ByteArray} {j : Nat} (h : j < L.length) : txN L j ∈ L := by
 unfold txN
 rw [List.getD_eq_getElem?_getD,List.getElem?_eq_getElem h]
 exact List.getElem_mem _
/-- Texts in a block. -/
structure Txt (w : World) (b : Nat) (L : List ByteArray) : Prop where
 lt : b < w.heap.size
 cell : ∀ j,j < L.length → w.cell? ⟨b,j,none⟩ = some (.string (txN L j))
theorem Txt.keep {w w' : World} {b : Nat} {L : List ByteArray} (h : Txt w b L) (hs : w.heap.size ≤ w'.heap.size) (hk : w'.heap[b]? = w.heap[b]?) : Txt w' b L :=
 ⟨Nat.lt_of_lt_of_le h.lt hs,fun j hj => (World.cell?_of_block (a := ⟨b,j,none⟩) hk).trans (h.cell j hj)⟩
theorem Txt.but {w w' : World} {g b : Nat} {L : List ByteArray} (h : Txt w b L) (hb : But g w w') (hg : b ≠ g) : Txt w' b L := h.keep hb.size (hb.block b h.lt hg)
theorem Txt.later {w w' : World} {b : Nat} {L : List ByteArray} (h : Txt w b L) (hb : Below w.heap.size w w') : Txt w' b L := h.keep hb.size (hb.block b h.lt)
theorem Txt.other {w : World} {b : Nat} {L : List ByteArray} (h : Txt w b L) {q : Nat} (hq : b ≠ q) (i : Nat) (v : Value) : Txt (w.setCell ⟨q,i,none⟩ v) b L := h.keep (by rw [size_set]; exact Nat.le_refl _) (Below.heap_setCell _ _ _ _ hq)
theorem Txt.new3 (w : World) (x y v : ByteArray) : Txt (w.alloc (.cells #[.string x,.string y,.string v] 9 (0,0))) w.heap.size [x,y,v] :=
 ⟨by rw [World.size_alloc]; omega,fun j hj => by
  have hj' : j < 3 := hj
  rw [cell_new w]
  match j,hj' with
  | 0,_ => rfl
  | 1,_ => rfl
  | 2,_ => rfl⟩
theorem Txt.new4 (w : World) (x y v u : ByteArray) : Txt (w.alloc (.cells #[.string x,.string y,.string v,.string u] 9 (0,0))) w.heap.size [x,y,v,u] :=
 ⟨by rw [World.size_alloc]; omega,fun j hj => by
  have hj' : j < 4 := hj
  rw [cell_new w]
  match j,hj' with
  | 0,_ => rfl
  | 1,_ => rfl
  | 2,_ => rfl
  | 3,_ => rfl⟩
/-- What holds ahead of each round of a closure's loop: the statement m in block q. -/
structure CloR (g r z q : Nat) (w wr : World) (s : Sv) (m : Sm) (r' : Nat) : Prop where
 box : Bs wr q s
 is : IsS (fun b => z < b ∧ b ≠ q) wr m s
 inn : s.inn = (none,0,0)
 ok : DataOK m
 less : r' ≤ r
 pk : Pk wr g r'
 but : But g w wr
 res : Bs wr z (zS 0)
 far : z < q
 new : w.heap.size ≤ q
/-- How many rounds there may be. -/
def mesK (q g : Nat) (w : World) : Nat := match w.cell? ⟨q,0,none⟩ with
 | some (.int _ 6) => left g w + 1
 | _ => 0
theorem CloR.mes6 {g r z q : Nat} {w wr : World} {s : Sv} {m : Sm} {r' : Nat} (h : CloR g r z q w wr s m r') (h6 : s.k = 6 := by rfl) : mesK q g wr = r' + 1 := by
 unfold mesK
 rw [h.box.cells.1,h6]
 show left g wr + 1 = _
 rw [h.pk.left]
theorem CloR.mesLe {g r z q : Nat} {w wr : World} {s : Sv} {m : Sm} {r' : Nat} (h : CloR g r z q w wr s m r') : mesK q g wr ≤ r' + 1 := by
 unfold mesK
 split
 ·rw [h.pk.left]; exact Nat.le_refl _
 ·exact Nat.zero_le _
theorem CloR.mes0 {g r z q : Nat} {w wr : World} {s : Sv} {m : Sm} {r' : Nat} (h : CloR g r z q w wr s m r') (h6 : s.k ≠ 6) : mesK q g wr = 0 := by
 unfold mesK
 rw [h.box.cells.1]
 split
 ·rename_i k heq
  simp at heq
  exact absurd heq.2 h6
 ·rfl
theorem CloR.next {g r z q : Nat} {w wr u : World} {s : Sv} {m : Sm} {r' r2 : Nat} (h : CloR g r z q w wr s m r') (hb : But g wr u) (hp : Pk u g r2) (hr : r2 ≤ r') (hg : g < z) (hq : q ≠ g) : CloR g r z q w u s m r2 :=
 ⟨h.box.but hb hq,h.is.keep fun b hB hl => hb.block b hl (by omega),h.inn,h.ok,Nat.le_trans hr h.less,hp,h.but.trans hb,h.res.but hb (by omega),h.far,h.new⟩
theorem CloR.put {g r z q : Nat} {w wr u : World} {s s5 : Sv} {m m5 : Sm} {r' r5 : Nat} (h : CloR g r z q w wr s m r') (hb : But g wr u) (hm : DataOK m5) (hl : r5 ≤ r') (hp : Pk u g r5) (hI : IsS (fun b => wr.heap.size ≤ b) u m5 s5) (hn : s5.inn = (none,0,0)) (hg : g < z) : CloR g r z q w (set13 u q s5) s5 m5 r5 := by
 have hql := h.box.lt
 have hzl := h.res.lt
 have hfar := h.far
 exact ⟨(h.box.but hb (by omega)).set13 s5,((hI.mono fun b hB _ => (by constructor <;> omega : z < b ∧ b ≠ q)).keep fun b hB _ => set13_heap _ _ _ hB.2),hn,hm,Nat.le_trans hl h.less,hp.set13 (by omega) s5,(h.but.trans hb).set13 h.new s5,(h.res.but hb (by omega)).keep (set13_heap _ _ _ (by omega)),h.far,h.new⟩
theorem CloR.del {g r z q : Nat} {w wr : World} {s : Sv} {m : Sm} {r' : Nat} (h : CloR g r z q w wr s m r') (hg : g < z) : CloR g r z q w (set13 wr q (⟨8,⟨#[117]⟩,⟨#[]⟩,(none,0,0),(none,0,0),(none,0,0),(none,0,0),⟨#[]⟩,(none,0,0),(none,0,0),(none,0,0),false,(none,0,0)⟩ : Sv)) (⟨8,⟨#[117]⟩,⟨#[]⟩,(none,0,0),(none,0,0),(none,0,0),(none,0,0),⟨#[]⟩,(none,0,0),(none,0,0),(none,0,0),false,(none,0,0)⟩ : Sv) ⟨8,⟨#[117]⟩,⟨#[]⟩,[],[],[],[],⟨#[]⟩,[],[],[],false⟩ r' :=
 h.put (But.refl g wr) ⟨tabU,.inr rfl,.inr (.inr (.inl ⟨[],.inl rfl,rfl⟩))⟩ (Nat.le_refl _) h.pk { IsS.zero _ _ 8 with tb := rfl } rfl hg

abbrev sTab (nm : ByteArray) (v : Sl) : Sv := ⟨1,⟨#[]⟩,nm,v,(none,0,0),(none,0,0),(none,0,0),⟨#[]⟩,(none,0,0),(none,0,0),(none,0,0),false,(none,0,0)⟩
abbrev coO (n : ByteArray) (k : Int) (f : ByteArray) : Obj := .cells #[.string n,.int .i64 k,.string f] 84 (0,0)
theorem idx7 {i ka kb : Nat} (hi : i ≤ 3) (ha : ka < 2) (hb : kb < 3) : ∃ ab jx : Nat,(ka : Int) * (kb : Int) = (ab : Int) ∧ IntKind.i64.wrap (ab : Int) = (ab : Int) ∧ IntKind.i64.wrap (3 - (i : Int) + (ab : Int)) = 3 - (i : Int) + (ab : Int) ∧ jx < 4 ∧ (3 - (i : Int) + (ab : Int)).tmod 4 = (jx : Int) ∧ (0 : Int) ≤ (jx : Int) ∧ (jx : Int) < 4 := by
 obtain ⟨ab,hab,hab2⟩ : ∃ ab : Nat,(ka : Int) * (kb : Int) = (ab : Int) ∧ ab ≤ 2 := by
  rcases (show ka = 0 ∨ ka = 1 by omega) with rfl | rfl
  ·exact ⟨0,by simp,by omega⟩
  ·exact ⟨kb,by simp,by omega⟩
 exact ⟨ab,(3 - i + ab) % 4,hab,by rw [IntKind.wrap_i64]; omega,by rw [IntKind.wrap_i64]; omega,Nat.mod_lt _ (by decide),by rw [Int.tmod_eq_emod_of_nonneg (by omega)]; omega,by omega,by omega⟩
abbrev st3 (w : World) (b : Nat) (n : ByteArray) (k : Int) : World := ((w.setCell ⟨b,0,none⟩ (.string n)).setCell ⟨b,1,none⟩ (.int .i64 k)).setCell ⟨b,2,none⟩ (.string ⟨#[]⟩)
theorem Txt.st3 {w : World} {b : Nat} {L : List ByteArray} (h : Txt w b L) {q : Nat} (hq : b ≠ q) (n : ByteArray) (k : Int) : Txt (Go.Proofs.YtljmlacnfnmjbaaGreat.st3 w q n k) b L := ((h.other hq 0 _).other hq 1 _).other hq 2 _
/-- What a table's loop has behind its first part: a new column. -/
def ColI (g r5 : Nat) (wr : World) (v5 : Value) (w' : World) : Prop := ∃ bc nm kd r6,v5 = .pointer (some ⟨bc,0,none⟩) ∧ Blk w' bc (coO nm kd ⟨#[]⟩) ∧ nm ∈ lK4 ∧ (kd = 1 ∨ kd = 2) ∧ wr.heap.size ≤ bc ∧ But g wr w' ∧ Pk w' g r6 ∧ r6 ≤ r5
theorem ColI.of {g r5 r6 b kc : Nat} {wr U : World} {n : ByteArray} (hC : Blk U b oZC) (hn : n ∈ lK4) (hk : kc < 2) (hb : wr.heap.size ≤ b) (hE : But g wr U) (hp : Pk U g r6) (hg : g < b) (hr : r6 ≤ r5) : ColI g r5 wr (.pointer (some ⟨b,0,none⟩)) (st3 U b n (1 + (kc : Int))) :=
 ⟨b,n,1 + (kc : Int),r6,rfl,hC.set3 _ _ _,hn,by omega,hb,hE.new3 hb _ _ _,hp.new3 hg _ _ _,hr⟩
theorem Blk.set2c {w : World} {b : Nat} {n : ByteArray} {k : Int} {f : ByteArray} (h : Blk w b (coO n k f)) (x : ByteArray) : Blk (w.setCell ⟨b,2,none⟩ (.string x)) b (coO n k x) := ⟨by simp [World.setCell,Array.getElem?_modify,h.row]⟩
/-- What holds ahead of each round of a table's loop. -/
structure TabI (g r z q : Nat) (w wr : World) (nm : ByteArray) (cs : List Co) (v : Sl) (r5 : Nat) : Prop where
 ok : ∀ c ∈ cs,ColP c
 own : OwnR 84 3 (q + 1) wr (slV v) (cs.map fun c => [.string c.1,.int .i64 c.2.1,.string c.2.2])
 box : Bs wr q (sTab nm v)
 less : r5 ≤ r
 pk : Pk wr g r5
 but : But g w wr
 res : Bs wr z (zS 0)
theorem TabI.next {g r z q : Nat} {w wr u w6 : World} {nm : ByteArray} {cs : List Co} {v v' : Sl} {r5 r6 : Nat} {c : Co} (h : TabI g r z q w wr nm cs v r5) (hc : ColP c)
  (hr : r6 ≤ r5) (hp : Pk u g r6) (hb : But g wr u) (hgz : g < z) (hzq : z < q) (hwq : w.heap.size ≤ q) (hg6 : u.grownBy w6 (slV v).ownBlock) (hO : OwnR 84 3 (q + 1) w6 (slV v') (cs.map (fun c => [.string c.1,.int .i64 c.2.1,.string c.2.2]) ++ [[.string c.1,.int .i64 c.2.1,.string c.2.2]])) :
  TabI g r z q w (w6.setCell ⟨q,3,none⟩ (.slice v'.1 v'.2.1 v'.2.2)) nm (cs ++ [c]) v' r6 := by
 have hblk := h.own.blk
 have far : ∀ b,b ≤ q → b < u.heap.size → w6.heap[b]? = u.heap[b]? := fun b hb hl => hg6.block b hl fun e => by have := (hblk b e.symm).1; omega
 have hql := h.box.lt
 have hzl := h.res.lt
 have hs := hb.size
 refine ⟨fun x hx => ?_,?_,?_,Nat.le_trans hr h.less,?_,?_,?_⟩
 ·rcases List.mem_append.1 hx with hx | hx
  ·exact h.ok x hx
  ·rw [List.mem_singleton] at hx; subst hx; exact hc
 ·have := hO.set (b := q) (by omega) 3 (.slice v'.1 v'.2.1 v'.2.2)
  rw [List.map_append]
  exact this
 ·have b1 : Bs w6 q (sTab nm v) := (h.box.but hb (by omega)).keep (far q (Nat.le_refl _) (by omega))
  exact b1.set3 v'
 ·exact (hp.grown hg6 (fun k e => by have := (hblk k e).1; omega)).other (by omega) _ _
 ·have b1 : But g w w6 := (h.but.trans hb).grown hg6 (fun k e => by have := (hblk k e).1; omega)
  exact b1.new (r := q) hwq _ _
 ·exact ((h.res.but hb (by omega)).keep (far z (by omega) (by omega))).keep (Below.heap_setCell _ _ _ _ (by show z ≠ q; omega))
theorem TabI.fin {g r z q : Nat} {w wr : World} {nm : ByteArray} {cs : List Co} {v : Sl} {r5 : Nat} (h : TabI g r z q w wr nm cs v r5) (hn : nm ∈ [⟨#[116]⟩,⟨#[117]⟩,⟨#[119]⟩,⟨#[120]⟩]) (h0 : cs ≠ []) (h4 : cs.length ≤ 4) (hg : g < z) (hz : z = w.heap.size) (hzq : z < q) : TeSf g r w StOK (.returned (stV (sTab nm v))) (set13 wr z (sTab nm v)) :=
 TeSf.fin (m := (⟨1,⟨#[]⟩,nm,cs,[],[],[],⟨#[]⟩,[],[],[],false⟩,[])) h.but { IsS.zero _ _ 1 with nm := rfl,co := cols_row h.own (by omega) } (RowIs.nil _ _ _) (.inl ⟨nm,cs,hn,h0,h4,h.ok,rfl⟩) h.less h.pk hg hz

end Go.Proofs.YtljmlacnfnmjbaaGreat
namespace Go.Proofs.YtljmlacnfnmjbaaGreat
open Go.RowKit
set_option linter.unusedVariables false
set_option linter.unusedSimpArgs false

def eStr : Ek ByteArray := ⟨1,fun _ _ s cs => cs = [.string s],fun _ h => h,fun _ h => h⟩
structure Tbl where
 name : ByteArray
 cols : List Co
 index : List ByteArray
def eTbl : Ek Tbl := ⟨3,fun Q w t cs => ∃ a n c a' n' c',cs = [.string t.name,.slice a n c,.slice a' n' c'] ∧ RowIs eCol Q w (.slice a n c) t.cols ∧ RowIs eStr Q w (.slice a' n' c') t.index,
 fun hk ⟨a,n,c,a',n',c',h1,h2,h3⟩ => ⟨a,n,c,a',n',c',h1,h2.keep (by decide) hk,h3.keep (by decide) hk⟩,fun hk ⟨a,n,c,a',n',c',h1,h2,h3⟩ => ⟨a,n,c,a',n',c',h1,h2.mono (by decide) hk,h3.mono (by decide) hk⟩⟩
structure Vw where
 name : ByteArray
 strip : List Int
 act : Sm
def eVw : Ek Vw := ⟨15,fun Q w t cs => ∃ a n c s,cs = .string t.name :: .slice a n c :: svC s ∧ RowIs eTag Q w (.slice a n c) t.strip ∧ IsS Q w t.act s ∧ s.inn = (none,0,0),
 fun hk ⟨a,n,c,s,h1,h2,h3,h4⟩ => ⟨a,n,c,s,h1,h2.keep (by decide) hk,h3.keep hk,h4⟩,fun hk ⟨a,n,c,s,h1,h2,h3,h4⟩ => ⟨a,n,c,s,h1,h2.mono (by decide) hk,h3.mono hk,h4⟩⟩
/-- Texts that are not too long. -/
def StrB (s : ByteArray) : Prop := s.size ≤ 500
def ColB (c : Co) : Prop := c.1.size ≤ 500 ∧ c.2.2.size ≤ 500
/-- A list of such ones. -/
def AllB {α : Type} (P : α → Prop) (l : List α) : Prop := l.length ≤ 500 ∧ ∀ x ∈ l,P x
def TblB (t : Tbl) : Prop := StrB t.name ∧ AllB ColB t.cols ∧ AllB StrB t.index
/-- What a call that tells a row tells. -/
def TeR {α : Type} (e : Ek α) (w : World) (l : List α) (en : Ending) (w' : World) : Prop :=
 ∃ a m d,en = .returned (.slice a m d) ∧ RowIs e (fun b => w.heap.size ≤ b) w' (.slice a m d) l ∧ Below w.heap.size w w'
/-- What a call that tells a row of its own tells. -/
def TeO {α : Type} (e : Ek α) (ty : TypeId) (w : World) (l : List α) (en : Ending) (w' : World) : Prop :=
 ∃ a m d css,en = .returned (.slice a m d) ∧ OwnR ty e.k w.heap.size w' (.slice a m d) css ∧ css.length = l.length ∧ (∀ i (h1 : i < l.length) (h2 : i < css.length),e.E (fun b => w.heap.size ≤ b ∧ some b ≠ (Value.slice a m d).ownBlock) w' l[i] css[i]) ∧ Below w.heap.size w w'
/-- A function that copies one thing. -/
def Cp {α : Type} (e : Ek α) (N : Nat) (x : α) : Prop := ∀ (Q : Nat → Prop) (w : World) (cs : List Value),e.E Q w x cs → Calls Tryz.prog N #[.agg cs.toArray] w fun en w' => ∃ cs',en = .returned (.agg cs'.toArray) ∧ e.E (fun b => w.heap.size ≤ b) w' x cs' ∧ Below w.heap.size w w'

/-- A block as it is. -/
structure Bk (w : World) (b : Nat) (o : Obj) : Prop where
 row : w.heap[b]? = some o
theorem Bk.new (w : World) (o : Obj) : Bk (w.alloc o) w.heap.size o := ⟨heap_alloc_new w o⟩
theorem Bk.lt {w : World} {b : Nat} {o : Obj} (h : Bk w b o) : b < w.heap.size := (Array.getElem?_eq_some_iff.1 h.row).1
theorem Bk.later {w w' : World} {b : Nat} {o : Obj} (h : Bk w b o) (hb : Below w.heap.size w w') : Bk w' b o := ⟨(hb.block b h.lt).trans h.row⟩
theorem Bk.cell {w : World} {b : Nat} {arr : Array Value} {t : TypeId} {mk : Nat × Nat} (h : Bk w b (.cells arr t mk)) (j : Nat) : w.cell? ⟨b,j,none⟩ = arr[j]? := by
 unfold World.cell?; rw [h.row]; rfl
theorem Bk.free {w : World} {b : Nat} {arr : Array Value} {t : TypeId} (h : Bk w b (.cells arr t (0,0))) (j : Nat) : w.frozen? ⟨b,j,none⟩ = false := by
 unfold World.frozen?; rw [h.row]; rfl

theorem Below.grownR {B : Nat} {a w w' : World} {row : Option Nat} (h : Below B a w) (hB : B ≤ w.heap.size) (hg : w.grownBy w' row) (hrow : ∀ k,row = some k → B ≤ k) : Below B a w' :=
 h.trans ⟨hg.os,hg.tape,hg.output,hg.size,fun k hk => hg.block k (by omega) fun e => by have := hrow k e.symm; omega⟩

/-- A row of the call's own,read,be it empty or not. -/
theorem OwnR.rowE {α : Type} {e : Ek α} {ty B : Nat} {w : World} {v : Value} {css : List (List Value)} {l : List α} {Q : Nat → Prop} (h : OwnR ty e.k B w v css) (hl : l.length = css.length) (hq : ∀ b,B ≤ b → b < w.heap.size → Q b)
  (hE : ∀ i (h1 : i < l.length) (h2 : i < css.length),e.E Q w l[i] css[i]) : RowIs e Q w v l := by
 by_cases hn : css = []
 ·subst hn
  obtain rfl : l = [] := List.eq_nil_of_length_eq_zero hl
  rcases h.2.2 with ⟨rfl,_⟩ | ⟨b,cap,cur,rfl,_,_,h1,h2,_⟩
  ·exact RowIs.nil _ _ _
  ·exact ⟨_,_,cap,rfl,rfl,Nat.zero_le _,Nat.le_trans h2 (by decide),fun h => absurd h (by simp)⟩
 ·exact OwnR.row h hl hn hq hE

theorem heapK3 {y : World} {b r : Nat} {x0 x1 x2 : Value} (hr : b ≠ r) : (((y.setCell ⟨r,0,none⟩ x0).setCell ⟨r,1,none⟩ x1).setCell ⟨r,2,none⟩ x2).heap[b]? = y.heap[b]? := by
 rw [Below.heap_setCell _ _ _ _ hr,Below.heap_setCell _ _ _ _ hr,Below.heap_setCell _ _ _ _ hr]
/-- Block b is stored into,cell by cell,from its first on. -/
def stW (w : World) (b : Nat) (l : List Value) : World := w.setCells b 0 l
theorem Bk.there {w : World} {b : Nat} {arr : Array Value} {t : TypeId} (h : Bk w b (.cells arr t (0,0))) {n : Nat} (hn : n = arr.size) : w.there b 0 n := fun j hj => by
 subst hn
 rw [Nat.zero_add,h.cell j,Array.getElem?_eq_getElem hj]
 exact ⟨rfl,h.free j⟩
theorem setCells_heap {b k : Nat} (hk : k ≠ b) : ∀ (l : List Value) (o : Nat) (w : World),(w.setCells b o l).heap[k]? = w.heap[k]?
 | [],_,_ => rfl
 | v :: r,o,w => by rw [World.setCells,setCells_heap hk r,Below.heap_setCell _ _ _ _ hk]
theorem setCells_below {B b : Nat} (hb : B ≤ b) {a : World} : ∀ (l : List Value) (o : Nat) (w : World),Below B a w → Below B a (w.setCells b o l)
 | [],_,_,h => h
 | v :: r,o,w,h => setCells_below hb r (o + 1) _ (h.setCell hb _)
theorem stW_heap {w : World} {b k : Nat} {l : List Value} (hk : k ≠ b) : (stW w b l).heap[k]? = w.heap[k]? := setCells_heap hk l 0 w
theorem stW_below {B b : Nat} {a w : World} {l : List Value} (h : Below B a w) (hb : B ≤ b) : Below B a (stW w b l) := setCells_below hb l 0 w h
theorem stW_far {w : World} {b k j : Nat} {l : List Value} {v : Value} (hk : k ≠ b) (h : w.cell? ⟨k,j,none⟩ = some v) : (stW w b l).cell? ⟨k,j,none⟩ = some v := (World.cell?_of_block (a := ⟨k,j,none⟩) (stW_heap hk)).trans h
theorem stW_cell {w : World} {b : Nat} {l : List Value} (ht : w.there b 0 l.length) {j : Nat} {v : Value} (hj : l[j]? = some v) : (stW w b l).cell? ⟨b,j,none⟩ = some v := by
 obtain ⟨hj1,hj2⟩ := List.getElem?_eq_some_iff.1 hj
 have := World.cell?_setCells_in b l 0 w (fun i hi => (ht i hi).1) j hj1
 rw [Nat.zero_add] at this
 unfold stW
 rw [this,hj2]
theorem TeO.row {α : Type} {e : Ek α} {ty : TypeId} {w : World} {l : List α} {en : Ending} {w' : World} (h : TeO e ty w l en w') : TeR e w l en w' := by
 obtain ⟨a,m,d,css,h1,h2,h3,h4,h5⟩ := h
 exact ⟨a,m,d,h1,OwnR.rowE h2 h3.symm (fun b hb _ => hb) fun i a b => e.mono (fun b hb _ => hb.1) (h4 i a b),h5⟩

set_option maxRecDepth 100000 in
set_option maxHeartbeats 2000000 in
theorem copyCol_any (c : Co) (hB : ColB c) (w : World) : Calls Tryz.prog 127 #[.agg #[.string c.1,.int .i64 c.2.1,.string c.2.2]] w fun e w' => e = .returned (.agg #[.string c.1,.int .i64 c.2.1,.string c.2.2]) ∧ Below w.heap.size w w' := by
 obtain ⟨a,k,f⟩ := c
 have H1 : Hid (∀ w,_) := hid fun w => clone_any a hB.1 w
 have H2 : Hid (∀ w,_) := hid fun w => clone_any f hB.2 w
 clear hB
 go_enter Tryz.func127,Tryz.ntmps127
 go_upto_region 1 with fail
 generalize hU : (w.alloc (.cells #[.string a,.int .i64 k,.string f] 84)).alloc (.cells #[.string ⟨#[]⟩,.int .i64 0,.string ⟨#[]⟩] 84) = U
 have b0 : Bk U w.heap.size (.cells #[.string a,.int .i64 k,.string f] 84) := hU ▸ (Bk.new w _).later (bal (Below.refl _ _) _)
 have bx : Bk U (w.heap.size + 1) (.cells #[.string ⟨#[]⟩,.int .i64 0,.string ⟨#[]⟩] 84) := by
  have := Bk.new (w.alloc (.cells #[.string a,.int .i64 k,.string f] 84)) (.cells #[.string ⟨#[]⟩,.int .i64 0,.string ⟨#[]⟩] 84)
  rw [World.size_alloc] at this
  exact hU ▸ this
 have hw : Below w.heap.size w U := hU ▸ bal (bal (Below.refl _ _) _) _
 have hs : U.heap.size = w.heap.size + 2 := by rw [← hU]; simp
 have hY : Below U.heap.size U U.drew := (Below.refl _ _).drew
 have c0 := b0.cell 0
 have c1 := b0.cell 1
 have c2 := b0.cell 2
 simp only [List.getElem?_toArray,List.getElem?_cons_zero,List.getElem?_cons_succ] at c0 c1 c2
 replace bx := bx.later hY
 clear  b0
 replace hs : Hid _ := hid hs
 clear hU
 generalize hz : w.heap.size + 1 = z at bx ⊢
 have hzw : w.heap.size < z := by omega
 replace hz : Hid _ := hid hz
 go_wp2
 refine wp_region_held_drew (S := fun w' => w'.cell? ⟨w.heap.size,0,none⟩ = some (.string a) ∧ w'.cell? ⟨w.heap.size,1,none⟩ = some (.int .i64 k) ∧ w'.cell? ⟨w.heap.size,2,none⟩ = some (.string f)) (by kernel_rfl) (⟨cell_later hY c0,cell_later hY c1,cell_later hY c2⟩) (fun hHeld => ?_)
 refine wpAnyH_take (i := 0) (v := ?tv1) rfl (by kernel_rfl) (by kernel_rfl) (by kernel_rfl) (fun _ _ _ h => h) (Or.inl ⟨by rfl,?hy1⟩) (by assumption) ?rs1
 case hy1 => (intro w9 hSw; (try dsimp only at hSw); go_simp; (try with_reducible rfl))
 (try simp only [Act.put,List.getElem_toArray,List.getElem_cons_zero,List.getElem_cons_succ,List.setIfInBounds_toArray,List.set_cons_zero,List.set_cons_succ])
 refine wpAnyH_take (i := 1) (v := ?tv2) rfl (by kernel_rfl) (by kernel_rfl) (by kernel_rfl) (fun _ _ _ h => h) (Or.inl ⟨by rfl,?hy2⟩) (by assumption) ?rs2
 case hy2 => (intro w9 hSw; (try dsimp only at hSw); go_simp; (try with_reducible rfl))
 (try simp only [Act.put,List.getElem_toArray,List.getElem_cons_zero,List.getElem_cons_succ,List.setIfInBounds_toArray,List.set_cons_zero,List.set_cons_succ])
 refine wpAnyH_take (i := 3) (v := ?tv3) rfl (by kernel_rfl) (by kernel_rfl) (by kernel_rfl) (fun _ _ _ h => h) (Or.inl ⟨by rfl,?hy3⟩) (by assumption) ?rs3
 case hy3 => (intro w9 hSw; (try dsimp only at hSw); go_simp; (try with_reducible rfl))
 (try simp only [Act.put,List.getElem_toArray,List.getElem_cons_zero,List.getElem_cons_succ,List.setIfInBounds_toArray,List.set_cons_zero,List.set_cons_succ])
 refine wpAnyH_take (i := 4) (v := ?tv4) rfl (by kernel_rfl) (by kernel_rfl) (by kernel_rfl) (fun _ _ _ h => h) (Or.inl ⟨by rfl,?hy4⟩) (by assumption) ?rs4
 case hy4 => (intro w9 hSw; (try dsimp only at hSw); go_simp; (try with_reducible rfl))
 (try simp only [Act.put,List.getElem_toArray,List.getElem_cons_zero,List.getElem_cons_succ,List.setIfInBounds_toArray,List.set_cons_zero,List.set_cons_succ])
 refine wpAnyH_take (i := 5) (v := ?tv5) rfl (by kernel_rfl) (by kernel_rfl) (by kernel_rfl) (fun _ _ _ h => h) (Or.inl ⟨by rfl,?hy5⟩) (by assumption) ?rs5
 case hy5 => (intro w9 hSw; (try dsimp only at hSw); go_simp; (try with_reducible rfl))
 (try simp only [Act.put,List.getElem_toArray,List.getElem_cons_zero,List.getElem_cons_succ,List.setIfInBounds_toArray,List.set_cons_zero,List.set_cons_succ])
 refine wpAnyH_take (i := 6) (v := ?tv6) rfl (by kernel_rfl) (by kernel_rfl) (by kernel_rfl) (fun _ _ _ h => h) (Or.inl ⟨by rfl,?hy6⟩) (by assumption) ?rs6
 case hy6 => (intro w9 hSw; (try dsimp only at hSw); go_simp; (try with_reducible rfl))
 (try simp only [Act.put,List.getElem_toArray,List.getElem_cons_zero,List.getElem_cons_succ,List.setIfInBounds_toArray,List.set_cons_zero,List.set_cons_succ])
 refine wpAnyH_ready (rs := [2]) (by kernel_rfl) (by simp) ?_
 refine AllReadyH.cons rfl (fun K hK => ?_) AllReadyH.nil
 go_simp
 go_wp2_with (first | (go_at_call 125; (refine Calls.mono (H1.out _) ?_); rintro e y ⟨rfl,hby⟩; replace bx := bx.later hby; replace hY := Below.on hY hby))
 refine hK.out _ _ (⟨cell_later hY c0,cell_later hY c1,cell_later hY c2⟩) (fun hHeld => ?_)
 clear hK K
 (try simp only [Act.put,List.getElem_toArray,List.getElem_cons_zero,List.getElem_cons_succ,List.setIfInBounds_toArray,List.set_cons_zero,List.set_cons_succ])
 refine wpAnyH_ready (rs := [7]) (by kernel_rfl) (by simp) ?_
 refine AllReadyH.cons rfl (fun K hK => ?_) AllReadyH.nil
 go_simp
 go_wp2_with (first | (go_at_call 125; (refine Calls.mono (H2.out _) ?_); rintro e y ⟨rfl,hby⟩; replace bx := bx.later hby; replace hY := Below.on hY hby))
 refine hK.out _ _ (⟨cell_later hY c0,cell_later hY c1,cell_later hY c2⟩) (fun hHeld => ?_)
 clear hK K
 (try simp only [Act.put,List.getElem_toArray,List.getElem_cons_zero,List.getElem_cons_succ,List.setIfInBounds_toArray,List.set_cons_zero,List.set_cons_succ])
 refine wpAnyH_take (i := 8) (v := ?tv7) rfl (by kernel_rfl) (by kernel_rfl) (by kernel_rfl) (fun _ _ _ h => h) (Or.inl ⟨by rfl,?hy7⟩) (by assumption) ?rs7
 case hy7 => (intro w9 hSw; (try dsimp only at hSw); go_simp; (try with_reducible rfl))
 (try simp only [Act.put,List.getElem_toArray,List.getElem_cons_zero,List.getElem_cons_succ,List.setIfInBounds_toArray,List.set_cons_zero,List.set_cons_succ])
 refine wpAnyH_ready (rs := [9]) (by kernel_rfl) (by simp) ?_
 refine AllReadyH.cons rfl (fun K hK => ?_) AllReadyH.nil
 have hth : y.there z 0 3 := bx.there rfl
 have z0 := stW_cell (l := [.string a,.int .i64 k,.string f]) hth (j := 0) rfl
 have z1 := stW_cell (l := [.string a,.int .i64 k,.string f]) hth (j := 1) rfl
 have z2 := stW_cell (l := [.string a,.int .i64 k,.string f]) hth (j := 2) rfl
 rw [if_pos (by rfl)]
 refine wp_store_mid _ _ _ rfl z 0 (List.toArray [.string a,.int .i64 k,.string f]) rfl rfl hth (by kernel_rfl) (by simp [Value.oneCell']) ?_
 show K _ (stW y z [.string a,.int .i64 k,.string f])
 refine hK.out _ _ (⟨stW_far (by omega) (cell_later hY c0),stW_far (by omega) (cell_later hY c1),stW_far (by omega) (cell_later hY c2)⟩) (fun hHeld => ?_)
 clear hK K hth
 (try simp only [Act.put,List.getElem_toArray,List.getElem_cons_zero,List.getElem_cons_succ,List.setIfInBounds_toArray,List.set_cons_zero,List.set_cons_succ])
 refine wpAnyH_done (by kernel_rfl) ?_ _
 ·
  have hW := Below.trans hw (hY.mono (by have := hw.size; omega))
  clear hY bx
  go_wp2
  refine bodyPost_ret (v := .agg #[.string a,.int .i64 k,.string f]) (by simp [results,Tryz.results127,go_sem,z0,z1,z2]) rfl ?_
  exact ⟨rfl,stW_below hW (by omega)⟩

theorem copyCol_cp (c : Co) (hB : ColB c) : Cp eCol 127 c := fun Q w cs h => by
 obtain rfl : cs = [.string c.1,.int .i64 c.2.1,.string c.2.2] := h
 exact ((copyCol_any c hB w).mono fun en w' ⟨h1,h2⟩ => ⟨_,h1,rfl,h2⟩)

end Go.Proofs.YtljmlacnfnmjbaaGreat
