import Derived.Test.YtfopfhlohihihaaGreatSae
import Derived.Deep.Trees
namespace Go.Proofs.YtfopfhlohihihaaGreat
open Go.RowKit
set_option linter.unusedVariables false
set_option linter.unusedSimpArgs false
abbrev Pay := Int × Int × ByteArray × ByteArray × ByteArray
abbrev Tr := Go.Deep.BT Pay
def nilP : Pay := (0,0,⟨#[]⟩,⟨#[]⟩,⟨#[]⟩)
def tInt (n : Int) : Tr := .node 0 1 (1,n,⟨#[]⟩,⟨#[]⟩,⟨#[]⟩) .nil .nil
def tText (s : ByteArray) : Tr := .node 0 1 (2,0,s,⟨#[]⟩,⟨#[]⟩) .nil .nil
def tCol (t n : ByteArray) : Tr := .node 0 2 (0,0,⟨#[]⟩,t,n) .nil .nil
def tOne (op : Nat) (x : Tr) : Tr := .node 0 op nilP x .nil
def tTwo (op : Nat) (x y : Tr) : Tr := .node 0 op nilP x y
abbrev Re (α : Type) := Sum (Int × Int) (α × List Tk)
abbrev Sa := Sum (Int × Int) (List Tk)
def stO {α : Type} : Re α → Sa
 | .inl x => .inl x
 | .inr x => .inr x.2
def runP {α : Type} (P : List Tk → Re α) : Sa → Re α
 | .inl x => .inl x
 | .inr ts => P ts
def thenR {α β : Type} (x : Re α) (f : α → List Tk → Re β) : Re β :=
 match x with
 | .inl e => .inl e
 | .inr y => f y.1 y.2
def szS : Sa → Nat
 | .inl _ => 0
 | .inr ts => ts.length
def Ended : List Tk → Prop
 | [] => False
 | t :: r => t.1 = 6 ∨ Ended r
def isTk (s : ByteArray) : List Tk → Bool
 | [] => false
 | t :: _ => (decide (t.1 = 2) || decide (t.1 = 5)) && decide (t.2.1 = s)
def atOf : List Tk → Int
 | [] => 0
 | t :: _ => t.2.2.2
def kdOf : List Tk → Int
 | [] => 0
 | t :: _ => t.1
def failS (e : Int) : Sa → Sa
 | .inl x => .inl x
 | .inr ts => .inl (atOf ts,e)
def takeB (s : ByteArray) : Sa → Bool
 | .inl _ => false
 | .inr ts => isTk s ts
def takeS (s : ByteArray) : Sa → Sa
 | .inl x => .inl x
 | .inr ts => if isTk s ts then .inr ts.tail else .inr ts
def wantS (s : ByteArray) : Sa → Sa
 | .inl x => .inl x
 | .inr ts => if isTk s ts then .inr ts.tail else .inl (atOf ts,5)
def endS : Sa → Sa
 | .inl x => .inl x
 | .inr ts => if kdOf ts = 6 then .inr ts else .inl (atOf ts,5)
def oneOf : List (ByteArray × Int) → List Tk → Int
 | [],_ => 0
 | c :: l,ts => if isTk c.1 ts then c.2 else oneOf l ts
def oneB (l : List (ByteArray × Int)) : Sa → Int
 | .inl _ => 0
 | .inr ts => oneOf l ts
def oneS (l : List (ByteArray × Int)) : Sa → Sa
 | .inl x => .inl x
 | .inr ts => if l.any (fun c => isTk c.1 ts) then .inr ts.tail else .inr ts
def kindP (k : Int) (ts : List Tk) : Re Tk :=
 match ts with
 | [] => .inl (0,5)
 | t :: r => if t.1 = k then .inr (t,r) else .inl (t.2.2.2,5)
def nameP (ts : List Tk) : Re ByteArray := thenR (kindP 1 ts) fun t r => .inr (t.2.1,r)
def columnP (ts : List Tk) : Re Tr :=
 thenR (nameP ts) fun n r => if isTk ⟨#[46]⟩ r then thenR (nameP r.tail) fun m r' => .inr (tCol n m,r') else .inr (tCol ⟨#[]⟩ n,r)
def chainL (P : List Tk → Re Tr) (l : List (ByteArray × Int)) : Nat → Tr → List Tk → Re Tr
 | 0,x,ts => .inr (x,ts)
 | k + 1,x,ts => if oneOf l ts = 0 then .inr (x,ts) else thenR (P ts.tail) fun y r => chainL P l k (tTwo (oneOf l ts).toNat x y) r
def chainP (P : List Tk → Re Tr) (l : List (ByteArray × Int)) (ts : List Tk) : Re Tr := thenR (P ts) fun x r => chainL P l r.length x r
def opsOr : List (ByteArray × Int) := [(⟨#[111,114]⟩,15)]
def opsAnd : List (ByteArray × Int) := [(⟨#[97,110,100]⟩,14)]
def opsComp : List (ByteArray × Int) := [(⟨#[61]⟩,8),(⟨#[60,62]⟩,9),(⟨#[60]⟩,10),(⟨#[60,61]⟩,11),(⟨#[62]⟩,12),(⟨#[62,61]⟩,13)]
def opsSum : List (ByteArray × Int) := [(⟨#[43]⟩,5),(⟨#[45]⟩,6)]
def opsTerm : List (ByteArray × Int) := [(⟨#[42]⟩,7)]
def leafP (ts : List Tk) : Re Tr :=
 if kdOf ts = 3 then thenR (kindP 3 ts) fun t r => .inr (tInt t.2.2.1,r)
 else if kdOf ts = 4 then thenR (kindP 4 ts) fun t r => .inr (tText t.2.1,r)
 else columnP ts
def termP (U : List Tk → Re Tr) : List Tk → Re Tr := chainP U opsTerm
def sumP (U : List Tk → Re Tr) : List Tk → Re Tr := chainP (termP U) opsSum
def compP (U : List Tk → Re Tr) (ts : List Tk) : Re Tr :=
 thenR (sumP U ts) fun x r => if oneOf opsComp r = 0 then .inr (x,r) else thenR (sumP U r.tail) fun y r' => .inr (tTwo (oneOf opsComp r).toNat x y,r')
def exprOf (N : List Tk → Re Tr) : List Tk → Re Tr := chainP (chainP N opsAnd) opsOr
def inP (P : Option (List Tk → Re Tr)) (ts : List Tk) : Re Tr :=
 match P with
 | none => .inl (atOf ts,6)
 | some p => p ts.tail
def unaryOf (U E : Option (List Tk → Re Tr)) (ts : List Tk) : Re Tr :=
 if isTk ⟨#[45]⟩ ts then thenR (inP U ts) fun x r => .inr (tOne 3 x,r)
 else if isTk ⟨#[40]⟩ ts then thenR (inP E ts) fun x r => if isTk ⟨#[41]⟩ r then .inr (x,r.tail) else .inl (atOf r,5)
 else leafP ts
def notOf (N : Option (List Tk → Re Tr)) (U : List Tk → Re Tr) (ts : List Tk) : Re Tr :=
 if isTk ⟨#[110,111,116]⟩ ts then thenR (inP N ts) fun x r => .inr (tOne 4 x,r)
 else compP U ts
def unP : Nat → (List Tk → Re Tr) × (List Tk → Re Tr)
 | 0 => (unaryOf none none,notOf none (unaryOf none none))
 | n + 1 => (unaryOf (some (unP n).1) (some (exprOf (unP n).2)),notOf (some (unP n).2) (unaryOf (some (unP n).1) (some (exprOf (unP n).2))))
def unaryP (n : Nat) : List Tk → Re Tr := (unP n).1
def notP (n : Nat) : List Tk → Re Tr := (unP n).2
def exprP (n : Nat) : List Tk → Re Tr := exprOf (notP n)
def below (f : Nat → List Tk → Re Tr) : Nat → Option (List Tk → Re Tr)
 | 0 => none
 | n + 1 => some (f n)
theorem unaryP_eq (n : Nat) : unaryP n = unaryOf (below unaryP n) (below exprP n) := by cases n <;> rfl
theorem notP_eq (n : Nat) : notP n = notOf (below notP n) (unaryP n) := by cases n <;> rfl
def listL {α : Type} (P : List Tk → Re α) : Nat → List α → List Tk → Re (List α)
 | 0,l,ts => .inr (l,ts)
 | k + 1,l,ts => if isTk ⟨#[44]⟩ ts then thenR (P ts.tail) fun y r => listL P k (l ++ [y]) r else .inr (l,ts)
def listP {α : Type} (P : List Tk → Re α) (ts : List Tk) : Re (List α) := thenR (P ts) fun x r => listL P r.length [x] r
def Shr {α : Type} (P : List Tk → Re α) : Prop := ∀ ts t r,P ts = .inr (t,r) → r.length ≤ ts.length
theorem Ended.pos {ts : List Tk} (h : Ended ts) : 0 < ts.length := by cases ts with | nil => exact h.elim | cons => simp
theorem isTk_kd {s : ByteArray} {ts : List Tk} (h : isTk s ts = true) : kdOf ts ≠ 6 ∧ (kdOf ts = 2 ∨ kdOf ts = 5) := by
 cases ts with
 | nil => simp [isTk] at h
 | cons t r =>
  simp [isTk] at h
  simp only [kdOf]
  omega
theorem isTk_ne {s : ByteArray} {ts : List Tk} (h : isTk s ts = true) : ∃ t r,ts = t :: r := by
 cases ts with
 | nil => simp [isTk] at h
 | cons t r => exact ⟨t,r,rfl⟩
theorem oneOf_any {l : List (ByteArray × Int)} {ts : List Tk} (hl : ∀ c ∈ l,c.2 ≠ 0) : (l.any fun c => isTk c.1 ts) = !decide (oneOf l ts = 0) := by
 induction l with
 | nil => rfl
 | cons c l ih =>
  rw [List.any_cons,oneOf,ih (fun x hx => hl x (List.mem_cons_of_mem _ hx))]
  cases h : isTk c.1 ts with
  | false => simp
  | true => simp [hl c List.mem_cons_self]
structure Rq (w : World) (g : Nat) (sl : Value) (d a e : Int) : Prop where
 row : w.heap[g]? = some (.cells #[sl,.int .i64 d,.int .i64 a,.int .i64 e] 78 (0,0))
theorem Rq.lt {w : World} {g : Nat} {sl : Value} {d a e : Int} (h : Rq w g sl d a e) : g < w.heap.size := (Array.getElem?_eq_some_iff.1 h.row).1
theorem Rq.cells {w : World} {g : Nat} {sl : Value} {d a e : Int} (h : Rq w g sl d a e) : w.cell? ⟨g,0,none⟩ = some sl ∧ w.cell? ⟨g,1,none⟩ = some (.int .i64 d) ∧ w.cell? ⟨g,2,none⟩ = some (.int .i64 a) ∧ w.cell? ⟨g,3,none⟩ = some (.int .i64 e) := by
 unfold World.cell?; rw [h.row]; exact ⟨rfl,rfl,rfl,rfl⟩
theorem Rq.free {w : World} {g : Nat} {sl : Value} {d a e : Int} (h : Rq w g sl d a e) : w.frozen? ⟨g,0,none⟩ = false ∧ w.frozen? ⟨g,1,none⟩ = false ∧ w.frozen? ⟨g,2,none⟩ = false ∧ w.frozen? ⟨g,3,none⟩ = false := by
 unfold World.frozen?; rw [h.row]; exact ⟨rfl,rfl,rfl,rfl⟩
theorem Rq.same {w w' : World} {g : Nat} {sl : Value} {d a e : Int} (h : Rq w g sl d a e) (he : w'.heap[g]? = w.heap[g]?) : Rq w' g sl d a e := ⟨he.trans h.row⟩
theorem Rq.set0 {w : World} {g : Nat} {sl : Value} {d a e : Int} (h : Rq w g sl d a e) (v : Value) : Rq (w.setCell ⟨g,0,none⟩ v) g v d a e := ⟨by simp [World.setCell,Array.getElem?_modify,h.row]⟩
theorem Rq.set1 {w : World} {g : Nat} {sl : Value} {d a e : Int} (h : Rq w g sl d a e) (z : Int) : Rq (w.setCell ⟨g,1,none⟩ (.int .i64 z)) g sl z a e := ⟨by simp [World.setCell,Array.getElem?_modify,h.row]⟩
theorem Rq.set2 {w : World} {g : Nat} {sl : Value} {d a e : Int} (h : Rq w g sl d a e) (z : Int) : Rq (w.setCell ⟨g,2,none⟩ (.int .i64 z)) g sl d z e := ⟨by simp [World.setCell,Array.getElem?_modify,h.row]⟩
theorem Rq.set3 {w : World} {g : Nat} {sl : Value} {d a e : Int} (h : Rq w g sl d a e) (z : Int) : Rq (w.setCell ⟨g,3,none⟩ (.int .i64 z)) g sl d a z := ⟨by simp [World.setCell,Array.getElem?_modify,h.row]⟩
structure Wo (w : World) (g b o n c : Nat) (ts : List Tk) : Prop where
 lt : b < g
 ended : Ended ts
 few : ts.length ≤ 500
 rd : RdT w (some ⟨b,o,none⟩) n c ts
theorem Wo.keep {w w' : World} {g b o n c : Nat} {ts : List Tk} (h : Wo w g b o n c ts) (hk : w'.heap[b]? = w.heap[b]?) : Wo w' g b o n c ts :=
 ⟨h.lt,h.ended,h.few,⟨h.rd.len,h.rd.cap,h.rd.max,h.rd.non,fun hn => by
  obtain ⟨b',o',e,hc⟩ := h.rd.cells hn
  cases e
  refine ⟨b,o,rfl,fun i hi => ?_⟩
  obtain ⟨q0,q1,q2,q3⟩ := hc i hi
  exact ⟨(World.cell?_of_block (a := ⟨b,_,none⟩) hk).trans q0,(World.cell?_of_block (a := ⟨b,_,none⟩) hk).trans q1,(World.cell?_of_block (a := ⟨b,_,none⟩) hk).trans q2,(World.cell?_of_block (a := ⟨b,_,none⟩) hk).trans q3⟩⟩⟩
theorem Wo.pos {w : World} {g b o n c : Nat} {ts : List Tk} (h : Wo w g b o n c ts) : 0 < n := by have := h.ended.pos; rw [h.rd.len] at this; exact this
theorem Wo.head {w : World} {g b o n c : Nat} {t : Tk} {ts : List Tk} (h : Wo w g b o n c (t :: ts)) : w.cell? ⟨b,o,none⟩ = some (.int .i64 t.1) ∧ w.cell? ⟨b,o + 1,none⟩ = some (.string t.2.1) ∧ w.cell? ⟨b,o + 2,none⟩ = some (.int .i64 t.2.2.1) ∧ w.cell? ⟨b,o + 3,none⟩ = some (.int .i64 t.2.2.2) := by
 obtain ⟨b',o',e,hc⟩ := h.rd.cells h.pos
 cases e
 have := hc 0 h.pos
 simpa [Ct,tth] using this
theorem Wo.blt {w : World} {g b o n c : Nat} {ts : List Tk} (h : Wo w g b o n c ts) : b < w.heap.size := by
 obtain ⟨b',o',e,hc⟩ := h.rd.cells h.pos
 cases e
 exact World.block_lt_of_cell? _ _ (hc 0 h.pos).1
theorem Wo.tail {w : World} {g b o n c : Nat} {t : Tk} {ts : List Tk} (h : Wo w g b o n c (t :: ts)) (hk : t.1 ≠ 6) : Wo w g b (o + 4) (n - 1) (c - 1) ts := by
 have hl := h.rd.len
 have hp := h.pos
 have hc := h.rd.cap
 have hm := h.rd.max
 have he : Ended ts := h.ended.resolve_left hk
 rw [List.length_cons] at hl
 have hf := h.few
 rw [List.length_cons] at hf
 refine ⟨h.lt,he,by omega,⟨by omega,by omega,by omega,fun e => by simp at e,fun hn => ?_⟩⟩
 obtain ⟨b',o',e,hc'⟩ := h.rd.cells hp
 cases e
 refine ⟨b,o + 4,rfl,fun i hi => ?_⟩
 have := hc' (i + 1) (by omega)
 rw [show o + (i + 1) * 4 = o + 4 + i * 4 from by omega,show tth (t :: ts) (i + 1) = tth ts i from by simp [tth]] at this
 exact this
structure Rp (w : World) (g : Nat) (S : Sa) (d : Nat) : Prop where
 on : (∃ x sl,S = .inl x ∧ x.2 ≠ 0 ∧ Rq w g sl d x.1 x.2) ∨ (∃ ts b o n c,S = .inr ts ∧ Rq w g (.slice (some ⟨b,o,none⟩) n c) d 0 0 ∧ Wo w g b o n c ts)
theorem Rp.bad {w : World} {g : Nat} {x : Int × Int} {d : Nat} (h : Rp w g (.inl x) d) : ∃ sl,x.2 ≠ 0 ∧ Rq w g sl d x.1 x.2 := by
 rcases h.on with ⟨y,sl,e,h1,h2⟩ | ⟨ts,b,o,n,c,e,_⟩
 ·cases e; exact ⟨sl,h1,h2⟩
 ·cases e
theorem Rp.ok {w : World} {g : Nat} {ts : List Tk} {d : Nat} (h : Rp w g (.inr ts) d) : ∃ b o n c,Rq w g (.slice (some ⟨b,o,none⟩) n c) d 0 0 ∧ Wo w g b o n c ts := by
 rcases h.on with ⟨y,sl,e,h1,h2⟩ | ⟨ts,b,o,n,c,e,h1,h2⟩
 ·cases e
 ·cases e; exact ⟨b,o,n,c,h1,h2⟩
theorem Rp.of_bad {w : World} {g : Nat} {x : Int × Int} {d : Nat} {sl : Value} (h : x.2 ≠ 0) (k : Rq w g sl d x.1 x.2) : Rp w g (.inl x) d := ⟨.inl ⟨x,sl,rfl,h,k⟩⟩
theorem Rp.of_ok {w : World} {g : Nat} {ts : List Tk} {d b o n c : Nat} (h : Rq w g (.slice (some ⟨b,o,none⟩) n c) d 0 0) (k : Wo w g b o n c ts) : Rp w g (.inr ts) d := ⟨.inr ⟨ts,b,o,n,c,rfl,h,k⟩⟩
theorem Rp.lt {w : World} {g : Nat} {S : Sa} {d : Nat} (h : Rp w g S d) : g < w.heap.size := by
 rcases h.on with ⟨y,sl,e,h1,h2⟩ | ⟨ts,b,o,n,c,e,h1,h2⟩
 ·exact h2.lt
 ·exact h1.lt
theorem Rp.keep {w w' : World} {g : Nat} {S : Sa} {d : Nat} (h : Rp w g S d) (hk : ∀ k,k ≤ g → w'.heap[k]? = w.heap[k]?) : Rp w' g S d := by
 rcases h.on with ⟨y,sl,e,h1,h2⟩ | ⟨ts,b,o,n,c,e,h1,h2⟩
 ·subst e; exact Rp.of_bad h1 (h2.same (hk g (Nat.le_refl _)))
 ·subst e; exact Rp.of_ok (h1.same (hk g (Nat.le_refl _))) (h2.keep (hk b (Nat.le_of_lt h2.lt)))
theorem Rp.later {w w' : World} {g : Nat} {S : Sa} {d : Nat} (h : Rp w g S d) (hb : Below w.heap.size w w') : Rp w' g S d := h.keep fun k hk => hb.block k (Nat.lt_of_le_of_lt hk h.lt)
theorem Rp.alloc {w : World} {g : Nat} {S : Sa} {d : Nat} (h : Rp w g S d) (o : Obj) : Rp (w.alloc o) g S d := h.later ((Below.refl _ _).alloc (Nat.le_refl _) o)
theorem Rp.other {w : World} {g : Nat} {S : Sa} {d : Nat} (h : Rp w g S d) {r : Nat} (hr : g < r) (o : Nat) (v : Value) : Rp (w.setCell ⟨r,o,none⟩ v) g S d :=
 h.keep fun k hk => Below.heap_setCell _ _ _ _ (by show k ≠ r; omega)
def szW (g : Nat) (w : World) : Nat := match w.cell? ⟨g,3,none⟩ with
 | some (.int _ 0) => (match w.cell? ⟨g,0,none⟩ with | some (.slice _ n _) => n | _ => 0)
 | _ => 0
theorem Rp.sz {w : World} {g : Nat} {S : Sa} {d : Nat} (h : Rp w g S d) : szW g w = szS S := by
 rcases h.on with ⟨y,sl,e,h1,h2⟩ | ⟨ts,b,o,n,c,e,h1,h2⟩
 ·subst e
  rw [szW,h2.cells.2.2.2]
  simp only [szS]
  split
  ·rename_i h; simp only [Option.some.injEq,Value.int.injEq] at h; exact absurd h.2 h1
  ·rfl
 ·subst e
  rw [szW,h1.cells.2.2.2,h1.cells.1]
  simp only [szS]
  exact h2.rd.len.symm
theorem Rp.few {w : World} {g : Nat} {S : Sa} {d : Nat} (h : Rp w g S d) : szS S ≤ 500 := by
 rcases h.on with ⟨y,sl,e,h1,h2⟩ | ⟨ts,b,o,n,c,e,h1,h2⟩
 ·subst e; exact Nat.zero_le _
 ·subst e; exact h2.few
def nxT : Sa → Tk
 | .inl _ => (0,⟨#[]⟩,0,0)
 | .inr ts => tth ts 0
set_option maxRecDepth 100000 in
set_option maxHeartbeats 1000000 in
theorem pNext_any {g : Nat} {S : Sa} {d : Nat} {w : World} (h : Rp w g S d) :
  Calls Tryz.prog 52 #[.pointer (some ⟨g,0,none⟩)] w fun e w' => e = .returned (tkA (nxT S)) ∧ Below w.heap.size w w' := by
 have hgl := h.lt
 match S,h with
 | .inl x,h =>
  obtain ⟨sl,hx,hq⟩ := h.bad
  obtain ⟨c0,c1,c2,c3⟩ := hq.cells
  have g1 : (x.2 != 0) = true := by simpa using hx
  clear h hq
  go_enter Tryz.func52,Tryz.ntmps52
  go_wp2
  refine bodyPost_ret (v := tkA (nxT (.inl x))) (by simp [results,Tryz.results52,go_sem,tkA,nxT]) rfl ⟨rfl,?_⟩
  exact (Below.refl _ _).alloc (Nat.le_refl _) _
 | .inr (t :: ts),h =>
  obtain ⟨b,o,n,c,hq,hw⟩ := h.ok
  obtain ⟨c0,c1,c2,c3⟩ := hq.cells
  obtain ⟨q0,q1,q2,q3⟩ := hw.head
  have hp := hw.pos
  have hbl := hw.blt
  clear h hq hw
  go_enter Tryz.func52,Tryz.ntmps52
  go_wp2
  refine bodyPost_ret (v := tkA t) (by simp [results,Tryz.results52,go_sem,tkA]) rfl ⟨rfl,?_⟩
  exact (Below.refl _ _).alloc (Nat.le_refl _) _
 | .inr [],h =>
  obtain ⟨b,o,n,c,hq,hw⟩ := h.ok
  exact hw.ended.elim
theorem hid {p : Prop} (h : p) : Hid p := h
theorem But.later {g : Nat} {a w w' : World} (h : But g a w) (k : Below w.heap.size w w') : But g a w' := h.trans (But.of k)
theorem Rp.drew {w : World} {g : Nat} {S : Sa} {d : Nat} (h : Rp w g S d) : Rp w.drew g S d := h.keep fun _ _ => rfl
set_option maxRecDepth 100000 in
set_option maxHeartbeats 1000000 in
theorem pFail_any {g : Nat} {S : Sa} {d : Nat} {w : World} (h : Rp w g S d) (e : Int) (he : e ≠ 0) :
  Calls Tryz.prog 53 #[.pointer (some ⟨g,0,none⟩),.int .i64 e] w fun x w' => x = .returned (.tuple #[]) ∧ Rp w' g (failS e S) d ∧ But g w w' := by
 have hgl := h.lt
 match S,h with
 | .inl x,h =>
  obtain ⟨sl,hx,hq⟩ := h.bad
  obtain ⟨c0,c1,c2,c3⟩ := hq.cells
  have g1 : (x.2 == 0) = false := by simpa using hx
  have HR : Hid _ := hid h
  clear h hq
  go_enter Tryz.func53,Tryz.ntmps53
  go_wp2
  refine bodyPost_end (results_none rfl _ _ _) rfl ⟨rfl,HR.out,But.refl _ _⟩
 | .inr (t :: ts),h =>
  obtain ⟨b,o,n,c,hq,hw⟩ := h.ok
  obtain ⟨c0,c1,c2,c3⟩ := hq.cells
  obtain ⟨f0,f1,f2,f3⟩ := hq.free
  obtain ⟨q0,q1,q2,q3⟩ := hw.head
  have hp := hw.pos
  have hbl := hw.blt
  have HR : Hid (Rp ((w.setCell ⟨g,2,none⟩ (.int .i64 t.2.2.2)).setCell ⟨g,3,none⟩ (.int .i64 e)) g (.inl (t.2.2.2,e)) d) := hid (Rp.of_bad he ((hq.set2 _).set3 _))
  clear h hq hw
  go_enter Tryz.func53,Tryz.ntmps53
  go_wp2
  refine bodyPost_end (results_none rfl _ _ _) rfl ⟨rfl,HR.out,(But.set _ _ _ _).trans (But.set _ _ _ _)⟩
 | .inr [],h =>
  obtain ⟨b,o,n,c,hq,hw⟩ := h.ok
  exact hw.ended.elim
set_option maxRecDepth 100000 in
set_option maxHeartbeats 1000000 in
theorem pSkip_any {g : Nat} {t : Tk} {ts : List Tk} {d : Nat} {w : World} (h : Rp w g (.inr (t :: ts)) d) (ht : t.1 ≠ 6) :
  Calls Tryz.prog 71 #[.pointer (some ⟨g,0,none⟩)] w fun x w' => x = .returned (.tuple #[]) ∧ Rp w' g (.inr ts) d ∧ But g w w' := by
 have hgl := h.lt
 obtain ⟨b,o,n,c,hq,hw⟩ := h.ok
 obtain ⟨c0,c1,c2,c3⟩ := hq.cells
 obtain ⟨f0,f1,f2,f3⟩ := hq.free
 have hw1 := hw.tail ht
 have hp := hw1.pos
 have hcap := hw1.rd.cap
 have hn := hw.rd.cap
 have hsl : ∀ w',(Instr.slice 40 (.slice (some ⟨b,o,none⟩) n c) (some (.int .i64 1)) none none).run Tryz.prog w' = .ok (.slice (some ⟨b,o + 4,none⟩) (n - 1) (c - 1)) w' := fun w' => by
  have h1 : ¬ c = 1 := by omega
  have h2 : 1 ≤ n := by omega
  have h3 : n ≤ c := by omega
  clear hw hw1 hq
  go_simp
  first | done | (simp [Addr.add]) | omega
 have HR : Hid (Rp (w.setCell ⟨g,0,none⟩ (.slice (some ⟨b,o + 4,none⟩) (n - 1) (c - 1))) g (.inr ts) d) := hid (Rp.of_ok (hq.set0 _) (hw1.keep (Below.heap_setCell _ _ _ _ (by have := hw.lt; show b ≠ g; omega))))
 generalize hm : n - 1 = m at *
 generalize hc' : c - 1 = c' at *
 clear h hq hw hw1 hm hc'
 go_enter Tryz.func71,Tryz.ntmps71
 go_wp2
 refine bodyPost_end (results_none rfl _ _ _) rfl ⟨rfl,HR.out,But.set _ _ _ _⟩
theorem takeB_nx (s : ByteArray) (S : Sa) : takeB s S = (((nxT S).1 == 2 || (nxT S).1 == 5) && eqS (nxT S).2.1 s) := by
 match S with
 | .inl x => rfl
 | .inr [] => rfl
 | .inr (t :: ts) => rfl
set_option maxRecDepth 100000 in
set_option maxHeartbeats 1000000 in
theorem pIs_any {g : Nat} {S : Sa} {d : Nat} {w : World} (h : Rp w g S d) (s : ByteArray) :
  Calls Tryz.prog 46 #[.pointer (some ⟨g,0,none⟩),.string s] w fun x w' => x = .returned (.bool (takeB s S)) ∧ Below w.heap.size w w' := by
 have H : Hid _ := hid (pNext_any h)
 rw [takeB_nx]
 unfold tkA at H
 generalize nxT S = t at *
 obtain ⟨t0,t1,t2,t3⟩ := t
 have hs : (t1.toList == s.toList) = eqS t1 s := same_str t1 s
 generalize eqS t1 s = B at *
 clear h
 by_cases h2 : t0 = 2
 ·subst h2
  go_enter Tryz.func46,Tryz.ntmps46
  go_wp2_with fail
  refine Calls.mono H.out ?_
  rintro e w1 ⟨rfl,hb1⟩
  clear H
  go_wp2
  go_ret
  exact ⟨by simp,hb1.alloc hb1.size _⟩
 ·have g2 : (t0 == 2) = false := by simpa using h2
  by_cases h5 : t0 = 5
  ·subst h5
   clear g2 h2
   go_enter Tryz.func46,Tryz.ntmps46
   go_wp2_with fail
   refine Calls.mono H.out ?_
   rintro e w1 ⟨rfl,hb1⟩
   clear H
   go_wp2
   go_ret
   exact ⟨by simp,hb1.alloc hb1.size _⟩
  ·have g5 : (t0 == 5) = false := by simpa using h5
   go_enter Tryz.func46,Tryz.ntmps46
   go_wp2_with fail
   refine Calls.mono H.out ?_
   rintro e w1 ⟨rfl,hb1⟩
   clear H
   go_wp2
   go_ret
   exact ⟨by simp [h2,h5],hb1.alloc hb1.size _⟩
theorem takeB_true {s : ByteArray} {S : Sa} (h : takeB s S = true) : ∃ t ts,S = .inr (t :: ts) ∧ t.1 ≠ 6 ∧ takeS s S = .inr ts := by
 match S with
 | .inl x => simp [takeB] at h
 | .inr [] => simp [takeB,isTk] at h
 | .inr (t :: ts) =>
  have h' : isTk s (t :: ts) = true := h
  refine ⟨t,ts,rfl,(isTk_kd h').1,?_⟩
  simp [takeS,h']
theorem takeB_false {s : ByteArray} {S : Sa} (h : takeB s S = false) : takeS s S = S := by
 match S with
 | .inl x => rfl
 | .inr ts =>
  have h' : isTk s ts = false := h
  simp [takeS,h']
set_option maxRecDepth 100000 in
set_option maxHeartbeats 1000000 in
theorem pTake_any {g : Nat} {S : Sa} {d : Nat} {w : World} (h : Rp w g S d) (s : ByteArray) :
  Calls Tryz.prog 44 #[.pointer (some ⟨g,0,none⟩),.string s] w fun x w' => x = .returned (.bool (takeB s S)) ∧ Rp w' g (takeS s S) d ∧ But g w w' := by
 have H := pIs_any h s
 cases hB : takeB s S with
 | true =>
  rw [hB] at H
  obtain ⟨t,ts,hS,ht,hT⟩ := takeB_true hB
  rw [hT]
  clear hB hT
  subst hS
  replace H : Hid _ := hid H
  go_enter Tryz.func44,Tryz.ntmps44
  go_wp2_with fail
  refine Calls.mono H.out ?_
  rintro e w1 ⟨rfl,hb1⟩
  have HK : Hid _ := hid (pSkip_any (h.later hb1) ht)
  clear H
  go_wp2_with fail
  refine Calls.mono HK.out ?_
  rintro e w2 ⟨rfl,hr2,hb2⟩
  have hb := (But.of hb1).trans hb2
  clear HK hb1 hb2
  go_wp2
  go_ret
  exact ⟨rfl,hr2,hb⟩
 | false =>
  rw [hB] at H
  rw [takeB_false hB]
  clear hB
  replace H : Hid _ := hid H
  go_enter Tryz.func44,Tryz.ntmps44
  go_wp2_with fail
  refine Calls.mono H.out ?_
  rintro e w1 ⟨rfl,hb1⟩
  clear H
  go_wp2
  go_ret
  exact ⟨rfl,h.later hb1,But.of hb1⟩
end Go.Proofs.YtfopfhlohihihaaGreat
