import Derived.Test.YtfopfhlohihihaaGreatSai
import Derived.Maps.AppendAt
namespace Go.Proofs.YtfopfhlohihihaaGreat
open Go.RowKit
set_option linter.unusedVariables false
set_option linter.unusedSimpArgs false
structure Ek (α : Type) where
 k : Nat
 E : (Nat → Prop) → World → α → List Value → Prop
 keep : ∀ {Q : Nat → Prop} {w w' : World} {t : α} {cs : List Value},(∀ b,Q b → b < w.heap.size → w'.heap[b]? = w.heap[b]?) → E Q w t cs → E Q w' t cs
 mono : ∀ {Q Q' : Nat → Prop} {w : World} {t : α} {cs : List Value},(∀ b,Q b → b < w.heap.size → Q' b) → E Q w t cs → E Q' w t cs
def eTag : Ek Int := ⟨1,fun _ _ z cs => cs = [.int .u16 z],fun _ h => h,fun _ h => h⟩
abbrev Co := ByteArray × Int × ByteArray
def eCol : Ek Co := ⟨3,fun _ _ c cs => cs = [.string c.1,.int .i64 c.2.1,.string c.2.2],fun _ h => h,fun _ h => h⟩
abbrev It := Int × ByteArray × ByteArray
def eItem : Ek It := ⟨3,fun _ _ c cs => cs = [.int .i64 c.1,.string c.2.1,.string c.2.2],fun _ h => h,fun _ h => h⟩
def exC (o : Int) (p : Pay) (sl : Value) : List Value := [.int .i64 o,.int .i64 p.1,.int .i64 p.2.1,.string p.2.2.1,.string p.2.2.2.1,.string p.2.2.2.2,sl]
def eExpr : Ek Tr := ⟨7,fun Q w t cs => ∃ op p a n c,cs = exC op p (.slice a n c) ∧ Ex Q w t (exV op p (.slice a n c)),
 fun hk ⟨op,p,a,n,c,h1,h2⟩ => ⟨op,p,a,n,c,h1,h2.keep hk⟩,fun hk ⟨op,p,a,n,c,h1,h2⟩ => ⟨op,p,a,n,c,h1,h2.mono hk⟩⟩
def RowIs {α : Type} (e : Ek α) (Q : Nat → Prop) (w : World) (v : Value) (l : List α) : Prop :=
 ∃ ao n c,v = .slice ao n c ∧ l.length = n ∧ n ≤ c ∧ c ≤ 9223372036854775807 ∧ (0 < n → ∃ b o,ao = some ⟨b,o,none⟩ ∧ Q b ∧ ∀ i (h : i < l.length),∃ cs,e.E Q w l[i] cs ∧ cs.length = e.k ∧ ∀ j (hj : j < cs.length),w.cell? ⟨b,o + i * e.k + j,none⟩ = some cs[j])
theorem RowIs.nil {α : Type} (e : Ek α) (Q : Nat → Prop) (w : World) : RowIs e Q w (.slice none 0 0) [] := ⟨none,0,0,rfl,rfl,Nat.le_refl _,by omega,fun h => absurd h (Nat.lt_irrefl _)⟩
theorem RowIs.keep {α : Type} {e : Ek α} (he : 0 < e.k) {Q : Nat → Prop} {w w' : World} {v : Value} {l : List α} (hk : ∀ b,Q b → b < w.heap.size → w'.heap[b]? = w.heap[b]?) (h : RowIs e Q w v l) : RowIs e Q w' v l := by
 obtain ⟨ao,n,c,hv,hl,hn,hc,hx⟩ := h
 refine ⟨ao,n,c,hv,hl,hn,hc,fun hp => ?_⟩
 obtain ⟨b,o,ha,hq,hi⟩ := hx hp
 refine ⟨b,o,ha,hq,fun i h => ?_⟩
 obtain ⟨cs,h1,h2,h3⟩ := hi i h
 have hb : b < w.heap.size := World.block_lt_of_cell? _ _ (h3 0 (by omega))
 exact ⟨cs,e.keep hk h1,h2,fun j hj => (World.cell?_of_block (a := ⟨b,_,none⟩) (hk b hq hb)).trans (h3 j hj)⟩
theorem RowIs.mono {α : Type} {e : Ek α} (he : 0 < e.k) {Q Q' : Nat → Prop} {w : World} {v : Value} {l : List α} (hk : ∀ b,Q b → b < w.heap.size → Q' b) (h : RowIs e Q w v l) : RowIs e Q' w v l := by
 obtain ⟨ao,n,c,hv,hl,hn,hc,hx⟩ := h
 refine ⟨ao,n,c,hv,hl,hn,hc,fun hp => ?_⟩
 obtain ⟨b,o,ha,hq,hi⟩ := hx hp
 have hb : b < w.heap.size := by
  obtain ⟨cs,h1,h2,h3⟩ := hi 0 (by omega)
  exact World.block_lt_of_cell? _ _ (h3 0 (by omega))
 exact ⟨b,o,ha,hk b hq hb,fun i h => by
  obtain ⟨cs,h1,h2,h3⟩ := hi i h
  exact ⟨cs,e.mono hk h1,h2,h3⟩⟩
def OwnR (ty k B : Nat) (w : World) (v : Value) (css : List (List Value)) : Prop := (∀ cs ∈ css,cs.length = k) ∧ w.ownsRow B ty k v css.length css.flatten
theorem flat_at {k : Nat} : ∀ {css : List (List Value)},(∀ cs ∈ css,cs.length = k) → ∀ {i j : Nat} (hi : i < css.length) (hj : j < k),css.flatten[i * k + j]? = (css[i])[j]? := by
 intro css
 induction css with
 | nil => intro _ i j hi; simp at hi
 | cons c l ih =>
  intro h i j hi hj
  have hc := h c (by simp)
  cases i with
  | zero => rw [List.flatten_cons,List.getElem?_append_left (by omega)]; simp
  | succ i =>
   rw [List.flatten_cons,List.getElem?_append_right (by rw [hc,Nat.succ_mul]; omega),show (i + 1) * k + j - c.length = i * k + j from by rw [hc,Nat.succ_mul]; omega]
   exact ih (fun x hx => h x (by simp [hx])) (by simpa using hi) hj
theorem OwnR.row {α : Type} {e : Ek α} {ty B : Nat} {w : World} {v : Value} {css : List (List Value)} {l : List α} {Q : Nat → Prop} (h : OwnR ty e.k B w v css) (hl : l.length = css.length) (hn : css ≠ []) (hq : ∀ b,B ≤ b → b < w.heap.size → Q b)
  (hE : ∀ i (h1 : i < l.length) (h2 : i < css.length),e.E Q w l[i] css[i]) : RowIs e Q w v l := by
 rcases h.2.2 with ⟨rfl,h0⟩ | ⟨g,cap,cur,rfl,hb,hg,hnc,hc,hs,ht⟩
 ·exact absurd (List.eq_nil_of_length_eq_zero h0) hn
 ·have hgl : g < w.heap.size := (Array.getElem?_eq_some_iff.1 hg).1
  refine ⟨_,css.length,cap,rfl,hl,hnc,by simpa [maxLen] using hc,fun hp => ⟨g,0,rfl,hq g hb hgl,fun i hi => ⟨css[i]'(by omega),hE i hi (by omega),h.1 _ (List.getElem_mem _),fun j hj => ?_⟩⟩⟩
  have hk := h.1 _ (List.getElem_mem (l := css) (n := i) (by omega))
  have hlt : i * e.k + j < css.length * e.k := by
   have : (i + 1) * e.k ≤ css.length * e.k := Nat.mul_le_mul_right _ (by omega)
   rw [Nat.succ_mul] at this
   omega
  have c0 := World.ownsRow.cellAt h.2 (i * e.k + j) hlt
  rw [Nat.zero_add,c0,flat_at h.1 (by omega) (by omega)]
  exact List.getElem?_eq_getElem hj
theorem OwnR.but {ty k B g : Nat} {w w' : World} {v : Value} {css : List (List Value)} (h : OwnR ty k B w v css) (hb : But g w w') (hg : g < B) : OwnR ty k B w' v css := by
 refine ⟨h.1,h.2.1,?_⟩
 rcases h.2.2 with k | ⟨b,cap,cur,hv,hg',hh,r⟩
 ·exact .inl k
 ·exact .inr ⟨b,cap,cur,hv,hg',by rw [hb.block b (Array.getElem?_eq_some_iff.1 hh).1 (by omega)]; exact hh,r⟩
theorem OwnR.alloc {ty k B : Nat} {w : World} {v : Value} {css : List (List Value)} (h : OwnR ty k B w v css) (o : Obj) : OwnR ty k B (w.alloc o) v css := ⟨h.1,World.ownsRow.alloc h.2 o⟩
theorem OwnR.lit (ty k B : Nat) (w : World) (cs : List Value) (hk : cs.length = k) (hB : B ≤ w.heap.size) : OwnR ty k B (w.alloc (.cells cs.toArray ty)) (.slice (some ⟨w.heap.size,0,none⟩) 1 1) [cs] := by
 subst hk
 refine ⟨fun c hc => by simp at hc; rw [hc],by simp,.inr ⟨w.heap.size,1,cs.toArray,rfl,hB,heap_alloc_new w _,Nat.le_refl _,by simp [maxLen],by simp,by simp⟩⟩
theorem run_appR {t ty e : TypeId} {z : Value} {k bytes B : Nat} (ht : Tryz.prog.underlying t = some (.slice e)) (hinf : (Tryz.prog.info? e).map (fun i => (i.zero,i.size,i.bytes)) = some (some z,k,bytes)) (hzs : z.cells.size = k) (hk : 0 < k) (hby : bytes ≤ 1000)
  (w : World) (v : Value) (css : List (List Value)) (g : Nat) (cs : List Value) (hown : OwnR e k B w v css) (hcs : cs.length = k) (h1 : ∀ u ∈ cs,u.oneCell' = true) (hx : ∀ j (hj : j < cs.length),w.cell? ⟨g,j,none⟩ = some cs[j]) (hl : css.length ≤ 1000) (hB : B ≤ w.heap.size) :
  ∃ v' w',(Builtin.append_ #[t,t] ty #[v,.slice (some ⟨g,0,none⟩) 1 1]).run Tryz.prog w = .ok v' w' ∧ OwnR e k B w' v' (css ++ [cs]) ∧ w.grownBy w' v.ownBlock ∧ (v'.ownBlock = v.ownBlock ∨ v'.ownBlock = some w.heap.size) := by
 obtain ⟨i,hi,hz,hsz,hb⟩ := info_parts hinf
 obtain ⟨v',w',hr,h2,h3,_,h5⟩ := run_append_own_at (P := Tryz.prog) w B t ty e i z k bytes ht hi hz hsz hb hzs hk v css.length _ hown.2 ⟨g,0,none⟩ 1 1 cs (by omega)
  (by
   intro j u hj
   obtain ⟨hj1,hj2⟩ := List.getElem?_eq_some_iff.1 hj
   have := hx j hj1
   rw [hj2] at this
   have e : (⟨g,0,none⟩ : Addr).add j = ⟨g,j,none⟩ := by unfold Addr.add; split <;> simp_all
   rw [e]
   exact this)
  h1 (by unfold maxLen; omega) (by have : (css.length + 1) * bytes ≤ 1001 * 1000 := Nat.mul_le_mul (by omega) hby; omega) hB
 refine ⟨v',w',hr,⟨?_,?_⟩,h3,h5⟩
 ·intro c hc
  rw [List.mem_append,List.mem_singleton] at hc
  rcases hc with hc | rfl
  ·exact hown.1 c hc
  ·exact hcs
 ·simpa using h2
theorem wpList_appR {t e : TypeId} {z : Value} {k bytes B : Nat} (ht : Tryz.prog.underlying t = some (.slice e)) (hinf : (Tryz.prog.info? e).map (fun i => (i.zero,i.size,i.bytes)) = some (some z,k,bytes)) (hzs : z.cells.size = k) (hk : 0 < k) (hby : bytes ≤ 1000)
  {w : World} {ops : Array Oper} {rest : List Oper} {o : Oper} {a : Act} {Q : Exit → Act → World → Prop} (hgd : o.guard = none) (s x : Operand)
  (ho : o.op = .call { callee := .builtin .append,args := #[s,x],argTypes := #[t,t] }) (v : Value) (css : List (List Value)) (g : Nat) (cs : List Value) (hs : a.eval s = v) (hx : a.eval x = .slice (some ⟨g,0,none⟩) 1 1)
  (hown : OwnR e k B w v css) (hcs : cs.length = k) (h1 : ∀ u ∈ cs,u.oneCell' = true) (hcell : ∀ j (hj : j < cs.length),w.cell? ⟨g,j,none⟩ = some cs[j]) (hl : css.length ≤ 1000) (hB : B ≤ w.heap.size)
  (h : ∀ v' w',OwnR e k B w' v' (css ++ [cs]) → w.grownBy w' v.ownBlock → (v'.ownBlock = v.ownBlock ∨ v'.ownBlock = some w.heap.size) → wpList Tryz.prog ops Q rest (a.put o.dst v') w') : wpList Tryz.prog ops Q (o :: rest) a w :=
 wpList_plain hgd fun _ hK => by
  obtain ⟨v',w',hr,h2,h3,h4⟩ := run_appR ht hinf hzs hk hby w v css g cs hown hcs h1 hcell hl hB (ty := o.type)
  unfold Oper.wp execOp
  simp only [ho,resolve,invoke,builtin,Sem.run_bind,Sem.run_pure,Result.andThen_ok,List.map_toArray,List.map_cons,List.map_nil,hs,hx,hr]
  exact hK _ _ (h v' w' h2 h3 h4)
structure Sm where
 kind : Int
 table : ByteArray
 name : ByteArray
 cols : List Co
 tags : List Int
 values : List Tr
 items : List It
 join : ByteArray
 on : List Tr
 wh : List Tr
 order : List Tr
 desc : Bool
def sm (k : Int) : Sm := ⟨k,⟨#[]⟩,⟨#[]⟩,[],[],[],[],⟨#[]⟩,[],[],[],false⟩
def tagP (ts : List Tk) : Re Int :=
 match ts with
 | [] => .inl (0,5)
 | t :: r => if t.1 = 3 then (if 65535 < t.2.2.1 then .inl (t.2.2.2,3) else .inr (IntKind.u16.wrap t.2.2.1,r)) else .inl (t.2.2.2,5)
def opsKind : List (ByteArray × Int) := [(⟨#[105,110,116]⟩,1),(⟨#[116,101,120,116]⟩,2)]
def opsAgg : List (ByteArray × Int) := [(⟨#[115,117,109]⟩,2),(⟨#[109,105,110]⟩,3),(⟨#[109,97,120]⟩,4)]
def wantU (s : ByteArray) (ts : List Tk) : Re Unit := if isTk s ts then .inr ((),ts.tail) else .inl (atOf ts,5)
def seqP {α β γ : Type} (f : α → β → γ) (P : List Tk → Re α) (P' : List Tk → Re β) (ts : List Tk) : Re γ := thenR (P ts) fun a r => mapR (f a) (P' r)
def optP {α : Type} (s : ByteArray) (z : α) (P : List Tk → Re α) (ts : List Tk) : Re α := if isTk s ts then P ts.tail else .inr (z,ts)
def choiceP (l : List (ByteArray × Int)) (ts : List Tk) : Re Int := if oneOf l ts = 0 then .inl (atOf ts,5) else .inr (oneOf l ts,ts.tail)
def colP : List Tk → Re Co := seqP (fun n x => (n,x.1,x.2)) nameP (seqP Prod.mk (choiceP opsKind) (optP ⟨#[114,101,102]⟩ ⟨#[]⟩ nameP))
def itemC (g : Int) : Tr → It
 | .nil => (g,⟨#[]⟩,⟨#[]⟩)
 | .node _ _ p _ _ => (g,p.2.2.2.1,p.2.2.2.2)
def itemP (ts : List Tk) : Re It :=
 if isTk ⟨#[99,111,117,110,116]⟩ ts then seqP (fun _ _ => (1,⟨#[]⟩,⟨#[]⟩)) (wantU ⟨#[40]⟩) (seqP (fun _ _ => ()) (wantU ⟨#[42]⟩) (wantU ⟨#[41]⟩)) ts.tail
 else if oneOf opsAgg ts = 0 then mapR (itemC 0) (columnP ts)
 else seqP (fun _ x => itemC (oneOf opsAgg ts) x) (wantU ⟨#[40]⟩) (seqP (fun x _ => x) columnP (wantU ⟨#[41]⟩)) ts.tail
def brP {α : Type} (P : List Tk → Re α) : List Tk → Re (List α) := seqP (fun _ l => l) (wantU ⟨#[40]⟩) (seqP (fun l _ => l) (listP P) (wantU ⟨#[41]⟩))
def behindP (ts : List Tk) : Re (List Tr) := optP ⟨#[119,104,101,114,101]⟩ [] (fun r => mapR (fun x => [x]) (exprP 64 r)) ts
def onP : List Tk → Re (List Tr) := seqP (fun _ l => l) (wantU ⟨#[111,110]⟩) (seqP (fun a b => [a,b]) columnP (seqP (fun _ b => b) (wantU ⟨#[61]⟩) columnP))
def orderP : List Tk → Re (List Tr) := seqP (fun _ l => l) (wantU ⟨#[98,121]⟩) (fun r => mapR (fun x => [x]) (columnP r))
def TeTag (g : Nat) (w : World) (R : Re Int) (e : Ending) (w' : World) : Prop := ∃ z,e = .returned (.int .u16 z) ∧ But g w w' ∧ Rp w' g (stO R) 0 ∧ ∀ t r,R = .inr (t,r) → z = t
def TeCol (g : Nat) (w : World) (R : Re Co) (e : Ending) (w' : World) : Prop := ∃ a k f,e = .returned (.agg #[.string a,.int .i64 k,.string f]) ∧ But g w w' ∧ Rp w' g (stO R) 0 ∧ ∀ t r,R = .inr (t,r) → (a,k,f) = t
def TeItem (g : Nat) (w : World) (R : Re It) (e : Ending) (w' : World) : Prop := ∃ k a f,e = .returned (.agg #[.int .i64 k,.string a,.string f]) ∧ But g w w' ∧ Rp w' g (stO R) 0 ∧ ∀ t r,R = .inr (t,r) → (k,a,f) = t
def TeL {α : Type} (e : Ek α) (g : Nat) (w : World) (R : Re (List α)) (en : Ending) (w' : World) : Prop :=
 ∃ ao n c,en = .returned (.slice ao n c) ∧ But g w w' ∧ Rp w' g (stO R) 0 ∧ ∀ l r,R = .inr (l,r) → RowIs e (fun b => w.heap.size ≤ b) w' (.slice ao n c) l
def PartV {α : Type} (g : Nat) (T : World → Re α → Ending → World → Prop) (P : List Tk → Re α) (v : Value) : Prop :=
 ∃ N,v = .func (.func N) #[.pointer (some ⟨g,0,none⟩)] #[] ∧ (∀ args w',(callFunc N args).run Tryz.prog w' = .ok (.enter N args) w') ∧
  ∀ S w,Rp w g S 0 → Calls Tryz.prog N #[.pointer (some ⟨g,0,none⟩)] w (T w (runP P S))
def LiR {α : Type} (P : List Tk → Re α) (R : Re (List α)) (S : Sa) (css : List (List Value)) (E : α → List Value → Prop) : Prop :=
 (∃ e,S = .inl e ∧ R = .inl e) ∨ ∃ ts l k,S = .inr ts ∧ ts.length ≤ k ∧ R = listL P k l ts ∧ l.length = css.length ∧ ∀ i (h1 : i < l.length) (h2 : i < css.length),E l[i] css[i]
theorem LiR.start {α : Type} {P : List Tk → Re α} {S : Sa} {cs : List Value} {E : α → List Value → Prop} (h : ∀ t r,runP P S = .inr (t,r) → E t cs) : LiR P (runP (listP P) S) (stO (runP P S)) [cs] E := by
 match S with
 | .inl x => exact .inl ⟨x,rfl,rfl⟩
 | .inr ts =>
  have e1 : runP P (.inr ts) = P ts := rfl
  have e2 : runP (listP P) (.inr ts) = thenR (P ts) fun x r => listL P r.length [x] r := rfl
  rw [e1] at h
  rw [e1,e2]
  cases hp : P ts with
  | inl x => exact .inl ⟨x,rfl,rfl⟩
  | inr x =>
   refine .inr ⟨x.2,[x.1],x.2.length,rfl,Nat.le_refl _,rfl,rfl,fun i h1 h2 => ?_⟩
   have : i = 0 := by simp at h1; omega
   subst this
   exact h x.1 x.2 hp
theorem LiR.stop {α : Type} {P : List Tk → Re α} {R : Re (List α)} {S : Sa} {css : List (List Value)} {E : α → List Value → Prop} (h : LiR P R S css E) (hz : takeB ⟨#[44]⟩ S = false) : stO R = S ∧ ∀ l r,R = .inr (l,r) → l.length = css.length ∧ ∀ i (h1 : i < l.length) (h2 : i < css.length),E l[i] css[i] := by
 rcases h with ⟨e,rfl,rfl⟩ | ⟨ts,l,k,rfl,hk,hR,hl,hE⟩
 ·exact ⟨rfl,fun t r e => by cases e⟩
 ·have hz' : isTk ⟨#[44]⟩ ts = false := hz
  have e : listL P k l ts = .inr (l,ts) := by
   cases k with
   | zero => rfl
   | succ k => rw [listL,if_neg (by rw [hz']; simp)]
  rw [hR,e]
  exact ⟨rfl,fun t' r e => by cases e; exact ⟨hl,hE⟩⟩
theorem LiR.go {α : Type} {P : List Tk → Re α} {R : Re (List α)} {t : Tk} {ts : List Tk} {css : List (List Value)} {E : α → List Value → Prop} (hP : Shr P) (h : LiR P R (.inr (t :: ts)) css E) (hz : takeB ⟨#[44]⟩ (.inr (t :: ts)) = true) : szS (stO (P ts)) ≤ ts.length ∧
  ∀ (cs : List Value) (E' : α → List Value → Prop),(∀ u ds,E u ds → E' u ds) → (∀ u r,P ts = .inr (u,r) → E' u cs) → LiR P R (stO (P ts)) (css ++ [cs]) E' := by
 rcases h with ⟨e,he,_⟩ | ⟨ts',l,k,he,hk,hR,hl,hE⟩
 ·cases he
 ·cases he
  have hz' : isTk ⟨#[44]⟩ (t :: ts) = true := hz
  refine ⟨?_,fun cs E' hm hn => ?_⟩
  ·cases hp : P ts with
   | inl y => exact Nat.zero_le _
   | inr y => exact hP ts y.1 y.2 hp
  ·cases k with
   | zero => simp at hk
   | succ k =>
    rw [listL,if_pos hz'] at hR
    have hR2 : R = thenR (P ts) fun y r' => listL P k (l ++ [y]) r' := hR
    rw [hR2]
    cases hp : P ts with
    | inl y => exact .inl ⟨y,rfl,rfl⟩
    | inr y =>
     have := hP ts y.1 y.2 hp
     refine .inr ⟨y.2,l ++ [y.1],k,rfl,by simp at hk; omega,rfl,by simp [hl],fun i h1 h2 => ?_⟩
     by_cases hi : i < l.length
     ·rw [List.getElem_append_left hi,List.getElem_append_left (by omega)]
      exact hm _ _ (hE i hi (by omega))
     ·rw [List.length_append,List.length_singleton] at h1
      obtain rfl : i = l.length := by omega
      rw [List.getElem_append_right (Nat.le_refl _),List.getElem_append_right (by omega)]
      simpa [hl] using hn y.1 y.2 hp
theorem But.grown {g : Nat} {w w3 w4 : World} {row : Option Nat} (h : But g w w3) (hg : w3.grownBy w4 row) (hrow : ∀ k,row = some k → w.heap.size ≤ k) : But g w w4 :=
 ⟨hg.os.trans h.os,hg.tape.trans h.tape,hg.output.trans h.output,Nat.le_trans h.size hg.size,fun k hk hgk => (hg.block k (Nat.lt_of_lt_of_le hk h.size) (fun e => by have := hrow k e.symm; omega)).trans (h.block k hk hgk)⟩
theorem Rp.grown {g d : Nat} {S : Sa} {w3 w4 : World} {row : Option Nat} (h : Rp w3 g S d) (hg : w3.grownBy w4 row) (hrow : ∀ k,row = some k → g < k) : Rp w4 g S d :=
 h.keep fun k hk => hg.block k (Nat.lt_of_le_of_lt hk h.lt) (fun e => by have := hrow k e.symm; omega)
theorem Ek.grow {α : Type} (e : Ek α) {w5 w6 : World} {B : Nat} {row own : Option Nat} {u : α} {ds : List Value} (hE : e.E (fun b => B ≤ b ∧ some b ≠ row) w5 u ds) (hg : w5.grownBy w6 row) (hown : own = row ∨ own = some w5.heap.size) : e.E (fun b => B ≤ b ∧ some b ≠ own) w6 u ds :=
 e.mono (fun b hq _ => ⟨hq.1,hq.2.2⟩) (e.keep (w := w5) (fun b hq hlt => hg.block b hlt hq.2.1) (e.mono (Q' := fun b => B ≤ b ∧ some b ≠ row ∧ some b ≠ own) (fun b hq hlt => ⟨hq.1,hq.2,by
  rcases hown with h | h
  ·rw [h]; exact hq.2
  ·rw [h]; simp; omega⟩) hE))
theorem OwnR.blk {ty k B : Nat} {w : World} {v : Value} {css : List (List Value)} (h : OwnR ty k B w v css) : ∀ b,v.ownBlock = some b → B ≤ b ∧ b < w.heap.size := fun b e => World.ownsRow.lt h.2 b e
theorem Tryz.infoTExpr : (Tryz.prog.info? 60).map (fun i => (i.zero,i.size,i.bytes)) = some (some (.agg #[.int .i64 0,.int .i64 0,.int .i64 0,.string ⟨#[]⟩,.string ⟨#[]⟩,.string ⟨#[]⟩,.slice none 0 0]),7,96) := by kernel_rfl
set_option maxRecDepth 100000 in
set_option maxHeartbeats 2000000 in
theorem pListExpr_any {g : Nat} {P : List Tk → Re Tr} {v : Value} {S : Sa} {w : World} (h : Rp w g S 0) (hv : PartV g (TeE g 0) P v) (hP : Shr P) :
  Calls Tryz.prog 112 #[.pointer (some ⟨g,0,none⟩),v] w (TeL eExpr g w (runP (listP P) S)) := by
 have hgl := h.lt
 obtain ⟨N,rfl,hN,hc⟩ := hv
 have H1 : Hid _ := hid (hc S w h)
 have HP : Hid (∀ S w,Rp w g S 0 → _) := hid hc
 have hf := h.few
 generalize hR : runP (listP P) S = R at *
 have HR : Hid (∀ (cs : List Value) (E : Tr → List Value → Prop),(∀ t r,runP P S = .inr (t,r) → E t cs) → LiR P R (stO (runP P S)) [cs] E) := hid fun cs E k => hR ▸ LiR.start k
 clear h hc hR
 go_enter Tryz.func112,Tryz.ntmps112
 go_wp2_with fail
 refine Calls.mono H1.out ?_
 rintro e w1 ⟨o1,p1,a1,l1,c1,rfl,hb1,hr1,hx1⟩
 have hsz1 := hb1.size
 have hr2 := hr1.alloc (.cells #[.int .i64 o1,.int .i64 p1.1,.int .i64 p1.2.1,.string p1.2.2.1,.string p1.2.2.2.1,.string p1.2.2.2.2,.slice a1 l1 c1] 60)
 have hB2 := hb1.alloc (.cells #[.int .i64 o1,.int .i64 p1.1,.int .i64 p1.2.1,.string p1.2.2.1,.string p1.2.2.2.1,.string p1.2.2.2.2,.slice a1 l1 c1] 60)
 have ho2 := OwnR.lit 60 7 w.heap.size w1 [.int .i64 o1,.int .i64 p1.1,.int .i64 p1.2.1,.string p1.2.2.1,.string p1.2.2.2.1,.string p1.2.2.2.2,.slice a1 l1 c1] rfl hsz1
 have HE : Hid (LiR P R (stO (runP P S)) [[.int .i64 o1,.int .i64 p1.1,.int .i64 p1.2.1,.string p1.2.2.1,.string p1.2.2.2.1,.string p1.2.2.2.2,.slice a1 l1 c1]] fun t cs => eExpr.E (fun b => w.heap.size ≤ b ∧ some b ≠ some w1.heap.size) (w1.alloc (.cells #[.int .i64 o1,.int .i64 p1.1,.int .i64 p1.2.1,.string p1.2.2.1,.string p1.2.2.2.1,.string p1.2.2.2.2,.slice a1 l1 c1] 60)) t cs) := hid (HR.out _ _ fun t r e => ⟨o1,p1,a1,l1,c1,rfl,((hx1 t r e).mono fun k hk hk2 => ⟨hk,by simp; omega⟩).later (bal (Below.refl _ w1) _)⟩)
 have hf1 : ([[.int .i64 o1,.int .i64 p1.1,.int .i64 p1.2.1,.string p1.2.2.1,.string p1.2.2.2.1,.string p1.2.2.2.2,.slice a1 l1 c1]] : List (List Value)).length + szS (stO (runP P S)) ≤ 501 := by
  have := hr1.few
  simp only [List.length_singleton]
  omega
 generalize stO (runP P S) = S1 at *
 clear H1 HR hx1 hb1 hr1
 unfold exV
 go_wp2
 go_loopw [5] (fun v5 wr => ∃ (S1 : Sa) (css : List (List Value)),Rp wr g S1 0 ∧ But g w wr ∧ OwnR 60 7 w.heap.size wr v5 css ∧ css ≠ [] ∧ css.length + szS S1 ≤ 501 ∧ css.length ≤ 501 ∧ Hid (LiR P R S1 css fun t cs => eExpr.E (fun b => w.heap.size ≤ b ∧ some b ≠ v5.ownBlock) wr t cs)) (fun _ wr => szW g wr)
 case atStart => exact ⟨S1,[[.int .i64 o1,.int .i64 p1.1,.int .i64 p1.2.1,.string p1.2.2.1,.string p1.2.2.2.1,.string p1.2.2.2.2,.slice a1 l1 c1]],hr2,hB2,ho2,by simp,hf1,by simp,HE⟩
 case round =>
  clear hr2 hB2 ho2 HE hf1
  obtain ⟨S2,css,hr,hB,ho,hne,hcs,hcl,HE⟩ := hrel
  have hm := hr.sz
  have HT := pTake_any hr ⟨#[44]⟩
  cases hb : takeB ⟨#[44]⟩ S2 with
  | false =>
   obtain ⟨e1,e2⟩ := HE.out.stop hb
   rw [hb,takeB_false hb] at HT
   replace HT : Hid _ := hid HT
   have E1 : Hid _ := hid e1
   have E2 : Hid _ := hid e2
   have hblk := ho.blk
   clear hb e1 e2 HE hm hr
   go_wp2_with fail
   refine Calls.mono HT.out ?_
   rintro e w3 ⟨rfl,hr3,hb3⟩
   have hB3 := hB.trans hb3
   have ho3 := ho.but hb3 (by omega)
   rcases ho3.2.2 with ⟨rfl,h0⟩ | ⟨gg,cap,cur,rfl,hrest⟩
   ·exact absurd (List.eq_nil_of_length_eq_zero h0) hne
   ·clear HT
    go_wp2
    go_ret
    refine ⟨_,_,_,rfl,hB3,by rw [E1.out]; exact hr3,fun l r e => ?_⟩
    obtain ⟨h1,h2⟩ := E2.out l r e
    exact OwnR.row (e := eExpr) ho3 h1 hne (fun b hb _ => hb) fun i a b => eExpr.keep (fun b hb hlt => hb3.block b hlt (by omega)) (eExpr.mono (fun b hb _ => hb.1) (h2 i a b))
  | true =>
   obtain ⟨t,ts,rfl,ht,hT⟩ := takeB_true hb
   obtain ⟨hle,hgo⟩ := HE.out.go hP hb
   rw [hb,hT] at HT
   replace HT : Hid _ := hid HT
   have HG : Hid _ := hid hgo
   have HS : Hid _ := hid hle
   have hm' : szW g wr = ts.length + 1 := hm
   have hcs' : css.length + (ts.length + 1) ≤ 501 := hcs
   clear hb hle hgo HE hT hr hm hcs
   go_wp2_with fail
   refine Calls.mono HT.out ?_
   rintro e w3 ⟨rfl,hr3,hb3⟩
   have hB3 := hB.trans hb3
   have ho3 := ho.but hb3 (by omega)
   have HC : Hid _ := hid (HP.out _ _ hr3)
   clear HT
   go_wp2_with fail
   refine Calls.mono HC.out ?_
   rintro e w4 ⟨o1,p1,a1,l1,c1,rfl,hb4,hr4,hx4⟩
   have hB4 := hB3.trans hb4
   have ho4 := ho3.but hb4 (by omega)
   have hr5 := hr4.alloc (.cells #[.int .i64 o1,.int .i64 p1.1,.int .i64 p1.2.1,.string p1.2.2.1,.string p1.2.2.2.1,.string p1.2.2.2.2,.slice a1 l1 c1] 60)
   have hB5 := hB4.alloc (.cells #[.int .i64 o1,.int .i64 p1.1,.int .i64 p1.2.1,.string p1.2.2.1,.string p1.2.2.2.1,.string p1.2.2.2.2,.slice a1 l1 c1] 60)
   have ho5 := ho4.alloc (.cells #[.int .i64 o1,.int .i64 p1.1,.int .i64 p1.2.1,.string p1.2.2.1,.string p1.2.2.2.1,.string p1.2.2.2.2,.slice a1 l1 c1] 60)
   have hblk := ho3.blk
   have hsz4 := hb4.size
   have hwr := hB.size
   unfold exV
   clear hr3 hr4 ho ho3 ho4 hB hB3 hB4
   go_wp2_with (first | (at_builtin; refine wpList_appR Tryz.underlying26 Tryz.infoTExpr rfl (by decide) (by decide) rfl (.tmp 11) (.tmp 14) rfl _ css w4.heap.size [.int .i64 o1,.int .i64 p1.1,.int .i64 p1.2.1,.string p1.2.2.1,.string p1.2.2.2.1,.string p1.2.2.2.2,.slice a1 l1 c1] rfl rfl ho5 rfl (by simp [Value.oneCell']) ?_ (by omega) hB5.size ?_) | fail)
   ·intro j hj
    have hj' : j < 7 := hj
    match j,hj' with
    | 0,_ => exact cell_new w4 _ _ _ 0
    | 1,_ => exact cell_new w4 _ _ _ 1
    | 2,_ => exact cell_new w4 _ _ _ 2
    | 3,_ => exact cell_new w4 _ _ _ 3
    | 4,_ => exact cell_new w4 _ _ _ 4
    | 5,_ => exact cell_new w4 _ _ _ 5
    | 6,_ => exact cell_new w4 _ _ _ 6
   ·intro v' w6 hO6 hg6 hown
    have hB6 := hB5.grown hg6 fun k e => (hblk k e).1
    have hr6 := hr5.grown hg6 fun k e => by have := (hblk k e).1; omega
    have HN : Hid _ := hid (HG.out [.int .i64 o1,.int .i64 p1.1,.int .i64 p1.2.1,.string p1.2.2.1,.string p1.2.2.2.1,.string p1.2.2.2.2,.slice a1 l1 c1] (fun t cs => eExpr.E (fun b => w.heap.size ≤ b ∧ some b ≠ v'.ownBlock) w6 t cs)
     (fun u ds hE => eExpr.grow (eExpr.keep (w' := w4.alloc (.cells #[.int .i64 o1,.int .i64 p1.1,.int .i64 p1.2.1,.string p1.2.2.1,.string p1.2.2.2.1,.string p1.2.2.2.2,.slice a1 l1 c1] 60)) (fun b hq hlt => (bal (Below.refl _ w4) _).block b hlt) (eExpr.keep (w' := w4) (fun b hq hlt => hb4.block b hlt (by omega)) (eExpr.keep (w' := w3) (fun b hq hlt => hb3.block b hlt (by omega)) hE))) hg6 (by simpa using hown))
     (fun u r e => eExpr.grow (eExpr.keep (w' := w4.alloc (.cells #[.int .i64 o1,.int .i64 p1.1,.int .i64 p1.2.1,.string p1.2.2.1,.string p1.2.2.2.1,.string p1.2.2.2.2,.slice a1 l1 c1] 60)) (fun b hq hlt => (bal (Below.refl _ w4) _).block b hlt) (eExpr.mono (Q := fun b => w3.heap.size ≤ b) (fun b hq _ => ⟨by have := hb3.size; have := hwr; omega,fun k => by have := (hblk b k.symm).2; omega⟩) (⟨o1,p1,a1,l1,c1,rfl,hx4 u r e⟩))) hg6 (by simpa using hown)))
    have hm6 := hr6.sz
    have hs6 : szS (stO (P ts)) ≤ ts.length := HS.out
    clear HG HC hg6 hown hr5 hB5 ho5 hx4 hb4 hb3 hblk
    go_wp2
    go_roundw
    case rel => exact ⟨stO (P ts),css ++ [[.int .i64 o1,.int .i64 p1.1,.int .i64 p1.2.1,.string p1.2.2.1,.string p1.2.2.2.1,.string p1.2.2.2.2,.slice a1 l1 c1]],hr6,hB6,hO6,by simp,by simp only [List.length_append,List.length_singleton]; omega,by simp only [List.length_append,List.length_singleton]; omega,HN⟩
    case measure =>
     have hm7 : szW g w6 = szS (stO (P ts)) := hm6
     omega
theorem Tryz.infoTTag : (Tryz.prog.info? 74).map (fun i => (i.zero,i.size,i.bytes)) = some (some (.int .u16 0),1,2) := by kernel_rfl
set_option maxRecDepth 100000 in
set_option maxHeartbeats 2000000 in
theorem pListTag_any {g : Nat} {P : List Tk → Re Int} {v : Value} {S : Sa} {w : World} (h : Rp w g S 0) (hv : PartV g (TeTag g) P v) (hP : Shr P) :
  Calls Tryz.prog 48 #[.pointer (some ⟨g,0,none⟩),v] w (TeL eTag g w (runP (listP P) S)) := by
 have hgl := h.lt
 obtain ⟨N,rfl,hN,hc⟩ := hv
 have H1 : Hid _ := hid (hc S w h)
 have HP : Hid (∀ S w,Rp w g S 0 → _) := hid hc
 have hf := h.few
 generalize hR : runP (listP P) S = R at *
 have HR : Hid (∀ (cs : List Value) (E : Int → List Value → Prop),(∀ t r,runP P S = .inr (t,r) → E t cs) → LiR P R (stO (runP P S)) [cs] E) := hid fun cs E k => hR ▸ LiR.start k
 clear h hc hR
 go_enter Tryz.func48,Tryz.ntmps48
 go_wp2_with fail
 refine Calls.mono H1.out ?_
 rintro e w1 ⟨z1,rfl,hb1,hr1,hx1⟩
 have hsz1 := hb1.size
 have hr2 := hr1.alloc (.cells #[.int .u16 z1] 74)
 have hB2 := hb1.alloc (.cells #[.int .u16 z1] 74)
 have ho2 := OwnR.lit 74 1 w.heap.size w1 [.int .u16 z1] rfl hsz1
 have HE : Hid (LiR P R (stO (runP P S)) [[.int .u16 z1]] fun t cs => eTag.E (fun b => w.heap.size ≤ b ∧ some b ≠ some w1.heap.size) (w1.alloc (.cells #[.int .u16 z1] 74)) t cs) := hid (HR.out _ _ fun t r e => by rw [hx1 t r e]; rfl)
 have hf1 : ([[.int .u16 z1]] : List (List Value)).length + szS (stO (runP P S)) ≤ 501 := by
  have := hr1.few
  simp only [List.length_singleton]
  omega
 generalize stO (runP P S) = S1 at *
 clear H1 HR hx1 hb1 hr1
 go_wp2
 go_loopw [5] (fun v5 wr => ∃ (S1 : Sa) (css : List (List Value)),Rp wr g S1 0 ∧ But g w wr ∧ OwnR 74 1 w.heap.size wr v5 css ∧ css ≠ [] ∧ css.length + szS S1 ≤ 501 ∧ css.length ≤ 501 ∧ Hid (LiR P R S1 css fun t cs => eTag.E (fun b => w.heap.size ≤ b ∧ some b ≠ v5.ownBlock) wr t cs)) (fun _ wr => szW g wr)
 case atStart => exact ⟨S1,[[.int .u16 z1]],hr2,hB2,ho2,by simp,hf1,by simp,HE⟩
 case round =>
  clear hr2 hB2 ho2 HE hf1
  obtain ⟨S2,css,hr,hB,ho,hne,hcs,hcl,HE⟩ := hrel
  have hm := hr.sz
  have HT := pTake_any hr ⟨#[44]⟩
  cases hb : takeB ⟨#[44]⟩ S2 with
  | false =>
   obtain ⟨e1,e2⟩ := HE.out.stop hb
   rw [hb,takeB_false hb] at HT
   replace HT : Hid _ := hid HT
   have E1 : Hid _ := hid e1
   have E2 : Hid _ := hid e2
   have hblk := ho.blk
   clear hb e1 e2 HE hm hr
   go_wp2_with fail
   refine Calls.mono HT.out ?_
   rintro e w3 ⟨rfl,hr3,hb3⟩
   have hB3 := hB.trans hb3
   have ho3 := ho.but hb3 (by omega)
   rcases ho3.2.2 with ⟨rfl,h0⟩ | ⟨gg,cap,cur,rfl,hrest⟩
   ·exact absurd (List.eq_nil_of_length_eq_zero h0) hne
   ·clear HT
    go_wp2
    go_ret
    refine ⟨_,_,_,rfl,hB3,by rw [E1.out]; exact hr3,fun l r e => ?_⟩
    obtain ⟨h1,h2⟩ := E2.out l r e
    exact OwnR.row (e := eTag) ho3 h1 hne (fun b hb _ => hb) fun i a b => eTag.keep (fun b hb hlt => hb3.block b hlt (by omega)) (eTag.mono (fun b hb _ => hb.1) (h2 i a b))
  | true =>
   obtain ⟨t,ts,rfl,ht,hT⟩ := takeB_true hb
   obtain ⟨hle,hgo⟩ := HE.out.go hP hb
   rw [hb,hT] at HT
   replace HT : Hid _ := hid HT
   have HG : Hid _ := hid hgo
   have HS : Hid _ := hid hle
   have hm' : szW g wr = ts.length + 1 := hm
   have hcs' : css.length + (ts.length + 1) ≤ 501 := hcs
   clear hb hle hgo HE hT hr hm hcs
   go_wp2_with fail
   refine Calls.mono HT.out ?_
   rintro e w3 ⟨rfl,hr3,hb3⟩
   have hB3 := hB.trans hb3
   have ho3 := ho.but hb3 (by omega)
   have HC : Hid _ := hid (HP.out _ _ hr3)
   clear HT
   go_wp2_with fail
   refine Calls.mono HC.out ?_
   rintro e w4 ⟨z1,rfl,hb4,hr4,hx4⟩
   have hB4 := hB3.trans hb4
   have ho4 := ho3.but hb4 (by omega)
   have hr5 := hr4.alloc (.cells #[.int .u16 z1] 74)
   have hB5 := hB4.alloc (.cells #[.int .u16 z1] 74)
   have ho5 := ho4.alloc (.cells #[.int .u16 z1] 74)
   have hblk := ho3.blk
   have hsz4 := hb4.size
   have hwr := hB.size
   clear hr3 hr4 ho ho3 ho4 hB hB3 hB4
   go_wp2_with (first | (at_builtin; refine wpList_appR Tryz.underlying25 Tryz.infoTTag rfl (by decide) (by decide) rfl (.tmp 11) (.tmp 14) rfl _ css w4.heap.size [.int .u16 z1] rfl rfl ho5 rfl (by simp [Value.oneCell']) ?_ (by omega) hB5.size ?_) | fail)
   ·intro j hj
    have hj' : j < 1 := hj
    match j,hj' with
    | 0,_ => exact cell_new w4 _ _ _ 0
   ·intro v' w6 hO6 hg6 hown
    have hB6 := hB5.grown hg6 fun k e => (hblk k e).1
    have hr6 := hr5.grown hg6 fun k e => by have := (hblk k e).1; omega
    have HN : Hid _ := hid (HG.out [.int .u16 z1] (fun t cs => eTag.E (fun b => w.heap.size ≤ b ∧ some b ≠ v'.ownBlock) w6 t cs)
     (fun u ds hE => eTag.grow (eTag.keep (w' := w4.alloc (.cells #[.int .u16 z1] 74)) (fun b hq hlt => (bal (Below.refl _ w4) _).block b hlt) (eTag.keep (w' := w4) (fun b hq hlt => hb4.block b hlt (by omega)) (eTag.keep (w' := w3) (fun b hq hlt => hb3.block b hlt (by omega)) hE))) hg6 (by simpa using hown))
     (fun u r e => eTag.grow (eTag.keep (w' := w4.alloc (.cells #[.int .u16 z1] 74)) (fun b hq hlt => (bal (Below.refl _ w4) _).block b hlt) (eTag.mono (Q := fun b => w3.heap.size ≤ b) (fun b hq _ => ⟨by have := hb3.size; have := hwr; omega,fun k => by have := (hblk b k.symm).2; omega⟩) (by rw [hx4 u r e]; rfl))) hg6 (by simpa using hown)))
    have hm6 := hr6.sz
    have hs6 : szS (stO (P ts)) ≤ ts.length := HS.out
    clear HG HC hg6 hown hr5 hB5 ho5 hx4 hb4 hb3 hblk
    go_wp2
    go_roundw
    case rel => exact ⟨stO (P ts),css ++ [[.int .u16 z1]],hr6,hB6,hO6,by simp,by simp only [List.length_append,List.length_singleton]; omega,by simp only [List.length_append,List.length_singleton]; omega,HN⟩
    case measure =>
     have hm7 : szW g w6 = szS (stO (P ts)) := hm6
     omega
end Go.Proofs.YtfopfhlohihihaaGreat
