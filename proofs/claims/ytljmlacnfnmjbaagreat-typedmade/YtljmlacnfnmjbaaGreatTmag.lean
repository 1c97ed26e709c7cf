import Derived.Test.YtljmlacnfnmjbaaGreatTmaf
namespace Go.Proofs.YtljmlacnfnmjbaaGreat
open Go.RowKit
set_option linter.unusedVariables false

/-- A row of the call's own,read. -/
theorem OwnR.cell {ty k B : Nat} {w : World} {b cap n : Nat} {css : List (List Value)} (h : OwnR ty k B w (.slice (some ⟨b,0,none⟩) n cap) css) {j : Nat} {u : Value} (hj : css.flatten[j]? = some u) : w.cell? ⟨b,j,none⟩ = some u := by
 rcases h.2.2 with ⟨e,_⟩ | ⟨b',cap',cur,e,_⟩
 ·cases e
 ·cases e
  have hlt : j < css.length * k := by
   have := (List.getElem?_eq_some_iff.1 hj).1
   rwa [h.2.1] at this
  rw [World.ownsRow.cellAt h.2 j hlt,hj]
theorem run_appN {t ty e : TypeId} {z : Value} {k bytes B : Nat} (ht : Tryz.prog.underlying t = some (.slice e)) (hinf : (Tryz.prog.info? e).map (fun i => (i.zero,i.size,i.bytes)) = some (some z,k,bytes)) (hzs : z.cells.size = k) (hk : 0 < k) (hby : bytes ≤ 1000)
  (w : World) (v u : Value) (css css2 : List (List Value)) (hown : OwnR e k B w v css) (hown2 : OwnR e k B w u css2) (hne : css2 ≠ []) (h1 : ∀ u ∈ css2.flatten,u.oneCell' = true) (hl : css.length + css2.length ≤ 1000) (hB : B ≤ w.heap.size) :
  ∃ v' w',(Builtin.append_ #[t,t] ty #[v,u]).run Tryz.prog w = .ok v' w' ∧ OwnR e k B w' v' (css ++ css2) ∧ w.grownBy w' v.ownBlock ∧ (v'.ownBlock = v.ownBlock ∨ v'.ownBlock = some w.heap.size) := by
 obtain ⟨i,hi,hz,hsz,hb⟩ := info_parts hinf
 rcases id hown2.2.2 with ⟨rfl,h0⟩ | ⟨b,cap,cur,rfl,hrest⟩
 ·exact absurd (List.eq_nil_of_length_eq_zero h0) hne
 obtain ⟨v',w',hr,h2,h3,_,h5⟩ := run_append_own_at (P := Tryz.prog) w B t ty e i z k bytes ht hi hz hsz hb hzs hk v css.length _ hown.2 ⟨b,0,none⟩ css2.length cap css2.flatten hown2.2.1
  (by
   intro j u hj
   have e : (⟨b,0,none⟩ : Addr).add j = ⟨b,j,none⟩ := by unfold Addr.add; split <;> simp_all
   rw [e]
   exact hown2.cell hj)
  h1 (by unfold maxLen; omega) (by have : (css.length + css2.length) * bytes ≤ 1000 * 1000 := Nat.mul_le_mul hl hby; omega) hB
 refine ⟨v',w',hr,⟨?_,?_⟩,h3,h5⟩
 ·intro c hc
  rw [List.mem_append] at hc
  rcases hc with hc | hc
  ·exact hown.1 c hc
  ·exact hown2.1 c hc
 ·rw [List.length_append,List.flatten_append]; exact h2
theorem wpList_appN {t e : TypeId} {z : Value} {k bytes B : Nat} (ht : Tryz.prog.underlying t = some (.slice e)) (hinf : (Tryz.prog.info? e).map (fun i => (i.zero,i.size,i.bytes)) = some (some z,k,bytes)) (hzs : z.cells.size = k) (hk : 0 < k) (hby : bytes ≤ 1000)
  {w : World} {ops : Array Oper} {rest : List Oper} {o : Oper} {a : Act} {Q : Exit → Act → World → Prop} (hgd : o.guard = none) (s x : Operand)
  (ho : o.op = .call { callee := .builtin .append,args := #[s,x],argTypes := #[t,t] }) (v u : Value) (css css2 : List (List Value)) (hs : a.eval s = v) (hx : a.eval x = u)
  (hown : OwnR e k B w v css) (hown2 : OwnR e k B w u css2) (hne : css2 ≠ []) (h1 : ∀ u ∈ css2.flatten,u.oneCell' = true) (hl : css.length + css2.length ≤ 1000) (hB : B ≤ w.heap.size)
  (h : ∀ v' w',OwnR e k B w' v' (css ++ css2) → w.grownBy w' v.ownBlock → (v'.ownBlock = v.ownBlock ∨ v'.ownBlock = some w.heap.size) → wpList Tryz.prog ops Q rest (a.put o.dst v') w') : wpList Tryz.prog ops Q (o :: rest) a w :=
 wpList_plain hgd fun _ hK => by
  obtain ⟨v',w',hr,h2,h3,h4⟩ := run_appN ht hinf hzs hk hby w v u css css2 hown hown2 hne h1 hl hB (ty := o.type)
  unfold Oper.wp execOp
  simp only [ho,resolve,invoke,builtin,Sem.run_bind,Sem.run_pure,Result.andThen_ok,List.map_toArray,List.map_cons,List.map_nil,hs,hx,hr]
  exact hK _ _ (h v' w' h2 h3 h4)
/-- Columns out of two rows of the call's own. -/
theorem Cols.of {w : World} {g B : Nat} {C : Cl2} {a a2 : Option Addr} {n c n2 c2 : Nat} (h1 : OwnR 66 3 B w (.slice a n c) (C.map fun x => itC x.1)) (h2 : OwnR 3 1 B w (.slice a2 n2 c2) (C.map fun x => [.int .i64 x.2])) (hg : g < B) (hf : C.length ≤ 100) (ho : ∃ x ∈ C,x.2 = 1) (ht : ∃ x ∈ C,x.2 = 2) :
  n = C.length ∧ n2 = C.length ∧ Cols w g C a c a2 c2 := by
 have hne : C ≠ [] := by obtain ⟨x,hx,_⟩ := ho; rintro rfl; cases hx
 have r1 : RowIs eItem (fun b => b ≠ g) w (.slice a n c) (C.map Prod.fst) := OwnR.row (e := eItem) h1 (by simp) (by simpa using hne) (fun b hb _ => by omega) fun i hi hj => by
  rw [List.getElem_map,List.getElem_map]; rfl
 have r2 : RowIs eInt (fun b => b ≠ g) w (.slice a2 n2 c2) (C.map Prod.snd) := OwnR.row (e := eInt) h2 (by simp) (by simpa using hne) (fun b hb _ => by omega) fun i hi hj => by
  rw [List.getElem_map,List.getElem_map]; rfl
 have e1 : n = C.length := by obtain ⟨ao,n',c',hv,hl,_⟩ := r1; cases hv; rw [← hl,List.length_map]
 have e2 : n2 = C.length := by obtain ⟨ao,n',c',hv,hl,_⟩ := r2; cases hv; rw [← hl,List.length_map]
 subst e1
 subst e2
 exact ⟨rfl,rfl,r1,r2,hf,ho,ht⟩

theorem OwnR.set {ty k B : Nat} {w : World} {v : Value} {css : List (List Value)} (h : OwnR ty k B w v css) {b : Nat} (hb : b < B) (o : Nat) (x : Value) : OwnR ty k B (w.setCell ⟨b,o,none⟩ x) v css := by
 refine ⟨h.1,h.2.1,?_⟩
 rcases h.2.2 with k | ⟨b',cap,cur,hv,hg',hh,r⟩
 ·exact .inl k
 ·exact .inr ⟨b',cap,cur,hv,hg',by rw [Below.heap_setCell _ _ _ _ (by show b' ≠ b; omega)]; exact hh,r⟩
theorem cell_new_at {w : World} {arr : Array Value} {e : TypeId} {mk : Nat × Nat} {b : Nat} (hb : w.heap.size = b) (j : Nat) : (w.alloc (.cells arr e mk)).cell? ⟨b,j,none⟩ = arr[j]? := by subst hb; exact cell_new w arr e mk j
theorem size_set (w : World) (a : Addr) (v : Value) : (w.setCell a v).heap.size = w.heap.size := by simp [World.setCell]
/-- Two columns in a new row. -/
theorem rowC2 (w : World) (t1 n1 t2 n2 : ByteArray) {Q : Nat → Prop} (hq : Q w.heap.size) : RowIs eExpr Q (w.alloc (.cells #[.int .i64 2,.int .i64 0,.int .i64 0,.string ⟨#[]⟩,.string t1,.string n1,.slice none 0 0,.int .i64 2,.int .i64 0,.int .i64 0,.string ⟨#[]⟩,.string t2,.string n2,.slice none 0 0] 28)) (.slice (some ⟨w.heap.size,0,none⟩) 2 2) [tCol t1 n1,tCol t2 n2] := by
 have hc : ∀ j,j < 14 → (w.alloc (.cells #[.int .i64 2,.int .i64 0,.int .i64 0,.string ⟨#[]⟩,.string t1,.string n1,.slice none 0 0,.int .i64 2,.int .i64 0,.int .i64 0,.string ⟨#[]⟩,.string t2,.string n2,.slice none 0 0] 28)).cell? ⟨w.heap.size,j,none⟩ = (#[.int .i64 2,.int .i64 0,.int .i64 0,.string ⟨#[]⟩,.string t1,.string n1,.slice none 0 0,.int .i64 2,.int .i64 0,.int .i64 0,.string ⟨#[]⟩,.string t2,.string n2,.slice none 0 0] : Array Value)[j]? := fun j _ => cell_new w _ _ _ j
 refine ⟨_,2,2,rfl,rfl,Nat.le_refl _,by omega,fun _ => ⟨w.heap.size,0,rfl,hq,fun i hi => ?_⟩⟩
 have hi' : i < 2 := hi
 match i,hi' with
 | 0,_ => exact ⟨exC 2 (0,0,⟨#[]⟩,t1,n1) (.slice none 0 0),⟨2,_,none,0,0,rfl,Ex.leaf 0 2 _⟩,rfl,fun j hj => by
   have hj' : j < 7 := hj
   match j,hj' with
   | 0,_ => exact hc 0 (by decide)
   | 1,_ => exact hc 1 (by decide)
   | 2,_ => exact hc 2 (by decide)
   | 3,_ => exact hc 3 (by decide)
   | 4,_ => exact hc 4 (by decide)
   | 5,_ => exact hc 5 (by decide)
   | 6,_ => exact hc 6 (by decide)⟩
 | 1,_ => exact ⟨exC 2 (0,0,⟨#[]⟩,t2,n2) (.slice none 0 0),⟨2,_,none,0,0,rfl,Ex.leaf 0 2 _⟩,rfl,fun j hj => by
   have hj' : j < 7 := hj
   match j,hj' with
   | 0,_ => exact hc 7 (by decide)
   | 1,_ => exact hc 8 (by decide)
   | 2,_ => exact hc 9 (by decide)
   | 3,_ => exact hc 10 (by decide)
   | 4,_ => exact hc 11 (by decide)
   | 5,_ => exact hc 12 (by decide)
   | 6,_ => exact hc 13 (by decide)⟩
/-- One column in a new row. -/
theorem rowC1 (w : World) (t1 n1 : ByteArray) {Q : Nat → Prop} (hq : Q w.heap.size) : RowIs eExpr Q (w.alloc (.cells #[.int .i64 2,.int .i64 0,.int .i64 0,.string ⟨#[]⟩,.string t1,.string n1,.slice none 0 0] 28)) (.slice (some ⟨w.heap.size,0,none⟩) 1 1) [tCol t1 n1] := by
 refine ⟨_,1,1,rfl,rfl,Nat.le_refl _,by omega,fun _ => ⟨w.heap.size,0,rfl,hq,fun i hi => ?_⟩⟩
 have hi' : i < 1 := hi
 obtain rfl : i = 0 := by omega
 refine ⟨exC 2 (0,0,⟨#[]⟩,t1,n1) (.slice none 0 0),⟨2,_,none,0,0,rfl,Ex.leaf 0 2 _⟩,rfl,fun j hj => ?_⟩
 rw [show 0 + 0 * eExpr.k + j = j from by omega]
 exact new7 w _ _ _ _ _ _ _ _ j hj
theorem bs_grown {w1 w2 : World} {q : Nat} {s : Sv} {row : Option Nat} (h : Bs w1 q s) (hg : w1.grownBy w2 row) (hr : ∀ b,row = some b → q < b) : Bs w2 q s := ⟨(hg.block q h.lt fun e => by have := hr q e.symm; omega).trans h.row⟩
/-- A statement is being filled in block q; its rows lie from block B on. -/
structure Sj (g B q : Nat) (w w1 : World) (m : Sm) (s : Sv) : Prop where
 but : But g w w1
 box : Bs w1 q s
 is : IsS (fun b => B ≤ b) w1 m s
 inn : s.inn = (none,0,0)
theorem Sj.next {g B q : Nat} {w w1 w2 : World} {m : Sm} {s : Sv} (h : Sj g B q w w1 m s) (hb : But g w1 w2) (hq : q ≠ g) (hg : g < B) : Sj g B q w w2 m s :=
 ⟨h.but.trans hb,h.box.but hb hq,h.is.keep fun b hB hl => hb.block b hl (by omega),h.inn⟩
theorem Sj.later {g B q : Nat} {w w1 w2 : World} {m : Sm} {s : Sv} (h : Sj g B q w w1 m s) (hb : Below w1.heap.size w1 w2) : Sj g B q w w2 m s :=
 ⟨h.but.trans (But.of hb),h.box.later hb,h.is.keep fun b hB hl => hb.block b hl,h.inn⟩
/-- One field is filled. -/
theorem Sj.fill {g B q : Nat} {w w1 : World} {m m' : Sm} {s s' : Sv} (h : Sj g B q w w1 m s) {i : Nat} {v : Value} (hq : w.heap.size ≤ q) (hqB : q < B) (hx : Bs w1 q s → Bs (w1.setCell ⟨q,i,none⟩ v) q s') (hi : IsS (fun b => B ≤ b) w1 m s → IsS (fun b => B ≤ b) w1 m' s') (hn : s'.inn = (none,0,0)) :
  Sj g B q w (w1.setCell ⟨q,i,none⟩ v) m' s' :=
 ⟨h.but.new hq _ _,hx h.box,(hi h.is).keep fun b hB _ => Below.heap_setCell _ _ _ _ (by show b ≠ q; omega),hn⟩
theorem Sj.on {g B q : Nat} {w w1 : World} {m : Sm} {s : Sv} (h : Sj g B q w w1 m s) (hq : w.heap.size ≤ q) (hqB : q < B) {v : Sl} {l : List Tr} (hr : RowIs eExpr (fun b => B ≤ b) w1 (slV v) l) : Sj g B q w (w1.setCell ⟨q,8,none⟩ (.slice v.1 v.2.1 v.2.2)) { m with on := l } { s with on := v } :=
 h.fill hq hqB (fun k => k.set8 v) (fun k => { k with on := hr }) h.inn
theorem Sj.wh {g B q : Nat} {w w1 : World} {m : Sm} {s : Sv} (h : Sj g B q w w1 m s) (hq : w.heap.size ≤ q) (hqB : q < B) {v : Sl} {l : List Tr} (hr : RowIs eExpr (fun b => B ≤ b) w1 (slV v) l) : Sj g B q w (w1.setCell ⟨q,9,none⟩ (.slice v.1 v.2.1 v.2.2)) { m with wh := l } { s with wh := v } :=
 h.fill hq hqB (fun k => k.set9 v) (fun k => { k with wh := hr }) h.inn
theorem Sj.oo {g B q : Nat} {w w1 : World} {m : Sm} {s : Sv} (h : Sj g B q w w1 m s) (hq : w.heap.size ≤ q) (hqB : q < B) {v : Sl} {l : List Tr} (hr : RowIs eExpr (fun b => B ≤ b) w1 (slV v) l) (d : Bool) : Sj g B q w ((w1.setCell ⟨q,10,none⟩ (.slice v.1 v.2.1 v.2.2)).setCell ⟨q,11,none⟩ (.bool d)) { m with order := l,desc := d } { s with od := v,ds := d } :=
 (h.fill (m' := { m with order := l }) hq hqB (fun k => k.set10 v) (fun k => { k with od := hr }) h.inn).fill hq hqB (fun k => k.set11 d) (fun k => { k with ds := rfl }) h.inn
/-- What a call tells that makes a statement. -/
def TeSt (g r : Nat) (w : World) (X : Sm → Prop) (e : Ending) (w' : World) : Prop :=
 ∃ s m r',e = .returned (stV s) ∧ X m ∧ Less r r' ∧ Pk w' g r' ∧ But g w w' ∧ IsS (fun b => w.heap.size ≤ b) w' m s ∧ s.inn = (none,0,0)
theorem TeSt.fin {g r r' B q z : Nat} {w w1 : World} {X : Sm → Prop} {m : Sm} {s : Sv} (h : Sj g B q w w1 m s) (hX : X m) (hl : Less r r') (hp : Pk w1 g r') (hg : g < w.heap.size) (hz : w.heap.size ≤ z) (hzB : z < B) : TeSt g r w X (.returned (stV s)) (set13 w1 z s) :=
 ⟨s,m,r',rfl,hX,hl,hp.set13 (by omega) s,h.but.set13 hz s,(h.is.keep fun b hb _ => set13_heap _ _ _ (by omega)).mono fun b hb _ => by omega,h.inn⟩

/-- The other table. -/
def oth (t : Tab) : Tab := if t.1 = ⟨#[116]⟩ then tabU else tabT
/-- What a select shows. -/
def ItsOK (C : Cl2) (l : List It) (folds : Prop) : Prop :=
 (l.length ≤ 3 ∧ (∀ x ∈ l,x.1 = 0 ∧ ∃ k,(k = 1 ∨ k = 2) ∧ ColOK C k x.2.1 x.2.2) ∧ ¬ folds) ∨ ∃ l',l = (1,⟨#[]⟩,⟨#[]⟩) :: l' ∧ l'.length ≤ 2 ∧ (∀ x ∈ l',2 ≤ x.1 ∧ x.1 ≤ 4 ∧ ColOK C 1 x.2.1 x.2.2) ∧ folds
def JnOK (tb : Tab) (C : Cl2) (j : ByteArray) (on : List Tr) : Prop :=
 (C = colsOf tb ∧ j = ⟨#[]⟩ ∧ on = []) ∨ (C = colsOf tb ++ colsOf (oth tb) ∧ j = (oth tb).1 ∧ ∃ k a1 n1 a2 n2,(k = 1 ∨ k = 2) ∧ ColOK C k a1 n1 ∧ ColOK C k a2 n2 ∧ on = [tCol a1 n1,tCol a2 n2])
def WhOK (C : Cl2) (l : List Tr) : Prop := l = [] ∨ ∃ t,l = [t] ∧ Pl C 5 3 t
def OdOK (C : Cl2) (l : List Tr) (d folds : Prop) : Prop := (l = [] ∧ ¬ d) ∨ (¬ folds ∧ ∃ k tb nm,(k = 1 ∨ k = 2) ∧ ColOK C k tb nm ∧ l = [tCol tb nm])
/-- A select of the play's. -/
def SelOK (tb : Tab) (m : Sm) : Prop := ∃ C its j on wh od d folds,JnOK tb C j on ∧ WhOK C wh ∧ ItsOK C its folds ∧ OdOK C od (d = true) folds ∧ m = ⟨6,tb.1,⟨#[]⟩,[],[],[],its,j,on,wh,od,d⟩

end Go.Proofs.YtljmlacnfnmjbaaGreat
