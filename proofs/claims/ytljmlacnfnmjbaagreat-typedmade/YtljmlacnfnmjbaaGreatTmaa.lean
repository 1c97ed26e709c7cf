import Derived.Test.YtljmlacnfnmjbaaGreatRows
import Derived.WalkKit
import Derived.WalkSpells
import Derived.WalkLawsBesides
import Derived.BigQuiet
import Derived.Deep.QuietTactic
import Derived.Deep.RegionLaw
import Derived.Deep.DeepCutAuto
import Derived.Deep.CutBlock
import Derived.Laws.BitsAllLaws
import Derived.Laws.BytesArg
import Derived.Shelf.LaysM
import Derived.Shelf.Strconv.Clone
import Derived.Deep.AppendSrc
import Derived.Lib.Bytealg
import Derived.Deep.RegionHeld3
import Derived.Deep.Trees
import Derived.Maps.AppendAt
namespace Go.Proofs.YtljmlacnfnmjbaaGreat
open Go.RowKit
set_option linter.unusedVariables false

/-- The number at place i (0 beyond the end); a name of its own,so that the walk does not spell it anew. -/
def nth (xs : List Int) (i : Nat) : Int := xs[i]?.getD 0

/-- The slice value '.slice ao n c' reads,in w,as the n numbers xs of kind k. -/
structure Rd (k : IntKind) (w : World) (ao : Option Addr) (n c : Nat) (xs : List Int) : Prop where
 len : xs.length = n
 cap : n ≤ c
 max : c ≤ 9223372036854775807
 non : ao = none → c = 0
 cells : 0 < n → ∃ b o,ao = some ⟨b,o,none⟩ ∧ ∀ i,i < n → w.cell? ⟨b,o + i,none⟩ = some (.int k (nth xs i))

theorem Rd.nil (k : IntKind) (w : World) : Rd k w none 0 0 [] := ⟨rfl,Nat.le_refl _,by omega,fun _ => rfl,fun h => absurd h (Nat.lt_irrefl _)⟩

theorem ret_bool {a b : Bool} (h : a = b) : Ending.returned (.bool a) = .returned (.bool b) := by rw [h]
theorem ret_int {k : IntKind} {a b : Int} (h : a = b) : Ending.returned (.int k a) = .returned (.int k b) := by rw [h]
set_option linter.unusedVariables false

set_option linter.unusedVariables false

set_option linter.unusedVariables false

set_option linter.unusedVariables false

end Go.Proofs.YtljmlacnfnmjbaaGreat
namespace Go.Proofs
open Go.Shelf
def Tryz.laysM316_ren : Go.Shelf.Ren := ⟨fun | 316 => 138 | n => n,fun | 9 => 9 | 3 => 3 | 4 => 4 | 37 => 48 | 0 => 0 | 127 => 201 | 5 => 5 | n => n,fun | n => n⟩
theorem Tryz.laysM316 : Go.Proofs.LaysM.n316 Tryz.prog Tryz.laysM316_ren := {
 mixed := by kernel_rfl
 f316 := Tryz.func138.trans (congrArg some (by kernel_rfl))
 t0 := Tryz.underlying0
 a0 := Tryz.isAgg0
 z0 := Tryz.sizeOf0
 v0 := Tryz.zeroValue0
 t3 := Tryz.underlying3
 a3 := Tryz.isAgg3
 z3 := Tryz.sizeOf3
 v3 := Tryz.zeroValue3
 t4 := Tryz.underlying4
 a4 := Tryz.isAgg4
 z4 := Tryz.sizeOf4
 v4 := Tryz.zeroValue4
 t9 := Tryz.underlying9
 a9 := Tryz.isAgg9
 z9 := Tryz.sizeOf9
 v9 := Tryz.zeroValue9
 t37 := Tryz.underlying48
 a37 := Tryz.isAgg48
 z37 := Tryz.sizeOf48
 v37 := Tryz.zeroValue48
 t127 := Tryz.underlying201
 a127 := Tryz.isAgg201
 z127 := Tryz.sizeOf201
 v127 := Tryz.zeroValue201
 t5 := Tryz.underlying5
 a5 := Tryz.isAgg5
 z5 := Tryz.sizeOf5
 v5 := Tryz.zeroValue5
 i0 := by kernel_rfl
 i3 := by kernel_rfl
 i4 := by kernel_rfl
 i5 := by kernel_rfl
 i9 := by kernel_rfl
 i37 := by kernel_rfl
 i127 := by kernel_rfl }
open Go.RowKit in
/-- internal/stringslite.Clone: the same bytes. -/
theorem Tryz.stringslite_Clone (s : ByteArray) (w : World) (hlim : s.size ≤ 281474976710656) :
  Calls Tryz.prog 138 #[.string s] w fun e w' => e = .returned (.string s) ∧ Below w.heap.size w w' := Any.stringslite_Clone Tryz.laysM316 s w hlim
end Go.Proofs
namespace Go.Proofs.YtljmlacnfnmjbaaGreat
open Go.RowKit
set_option linter.unusedVariables false

/-- Does a whole number fit 64 bits with a sign? -/
abbrev Fits (z : Int) : Prop := -9223372036854775808 ≤ z ∧ z ≤ 9223372036854775807
end Go.Proofs.YtljmlacnfnmjbaaGreat
namespace Go.Proofs.YtljmlacnfnmjbaaGreat
open Go.RowKit
set_option linter.unusedVariables false

end Go.Proofs.YtljmlacnfnmjbaaGreat
namespace Go.Proofs.YtljmlacnfnmjbaaGreat
open Go.RowKit
set_option linter.unusedVariables false

/-- A word: Kind,Text,Int,At. -/
abbrev Tk := Int × ByteArray × Int × Int
end Go.Proofs.YtljmlacnfnmjbaaGreat
namespace Go.Proofs.YtljmlacnfnmjbaaGreat
open Go.RowKit
set_option linter.unusedVariables false

end Go.Proofs.YtljmlacnfnmjbaaGreat
namespace Go.Proofs.YtljmlacnfnmjbaaGreat
open Go.RowKit
set_option linter.unusedVariables false

/-- But for block g all that lay in w lies in w' as it did. -/
structure But (g : Nat) (w w' : World) : Prop where
 os : w'.os = w.os
 tape : w'.tape = w.tape
 output : w'.output = w.output
 size : w.heap.size ≤ w'.heap.size
 block : ∀ k,k < w.heap.size → k ≠ g → w'.heap[k]? = w.heap[k]?
theorem But.refl (g : Nat) (w : World) : But g w w := ⟨rfl,rfl,rfl,Nat.le_refl _,fun _ _ _ => rfl⟩
theorem But.trans {g : Nat} {a b c : World} (h : But g a b) (k : But g b c) : But g a c :=
 ⟨k.os.trans h.os,k.tape.trans h.tape,k.output.trans h.output,Nat.le_trans h.size k.size,fun i hi hg => (k.block i (Nat.lt_of_lt_of_le hi h.size) hg).trans (h.block i hi hg)⟩
theorem But.of {g : Nat} {w w' : World} (h : Below w.heap.size w w') : But g w w' := ⟨h.os,h.tape,h.output,h.size,fun k hk _ => h.block k hk⟩
theorem But.set (g o : Nat) (w : World) (v : Value) : But g w (w.setCell ⟨g,o,none⟩ v) := ⟨rfl,rfl,rfl,by simp [World.setCell],fun k _ hk => Below.heap_setCell _ _ _ _ hk⟩
theorem But.below {g B : Nat} {a w w' : World} (h : Below B a w) (k : But g w w') (hB : B ≤ g) (hw : B ≤ w.heap.size) : Below B a w' :=
 h.trans ⟨k.os,k.tape,k.output,k.size,fun i hi => k.block i (by omega) (by omega)⟩
theorem But.cell {g : Nat} {w w' : World} (h : But g w w') {a : Addr} {v : Value} (hc : w.cell? a = some v) (hg : a.block ≠ g) : w'.cell? a = some v :=
 (World.cell?_of_block (h.block a.block (World.block_lt_of_cell? _ _ hc) hg)).trans hc
theorem But.rdrew {g : Nat} {w w' : World} (h : But g w w') (n : Nat) : But g w (w'.drewN n) := ⟨h.os,h.tape,h.output,h.size,h.block⟩

end Go.Proofs.YtljmlacnfnmjbaaGreat
namespace Go.Proofs.YtljmlacnfnmjbaaGreat
open Go.RowKit
set_option linter.unusedVariables false

/-- A step on. -/
theorem Below.on {a w w' : World} (h : Below a.heap.size a w) (k : Below w.heap.size w w') : Below a.heap.size a w' := h.trans (k.mono h.size)
/-- Are two texts the same? -/
def eqS (s t : ByteArray) : Bool := decide (s = t)
theorem same_str (s t : ByteArray) : (s.toList == t.toList) = decide (s = t) := by
 rw [Bool.eq_iff_iff]
 simp only [beq_iff_eq,decide_eq_true_eq]
 constructor
 ·intro h
  rw [ByteArray.toList_eq,ByteArray.toList_eq] at h
  exact ByteArray.ext (Array.toList_inj.1 h)
 ·intro h; rw [h]
end Go.Proofs.YtljmlacnfnmjbaaGreat
namespace Go.Proofs.YtljmlacnfnmjbaaGreat
open Go.RowKit
set_option linter.unusedVariables false

theorem clone_any (s : ByteArray) (hs : s.size ≤ 500) (w : World) : Calls Tryz.prog 125 #[.string s] w fun e w' => e = .returned (.string s) ∧ Below w.heap.size w w' := by
 have H : Hid _ := Tryz.stringslite_Clone s w (by omega)
 go_enter Tryz.func125,Tryz.ntmps125
 go_wp2_with fail
 refine Calls.mono H.out ?_
 rintro e w1 ⟨rfl,hb⟩
 clear H
 go_wp2
 go_ret
 exact ⟨rfl,hb⟩

theorem cell_new (w : World) (arr : Array Value) (e : TypeId) (mk : Nat × Nat) (j : Nat) : (w.alloc (.cells arr e mk)).cell? ⟨w.heap.size,j,none⟩ = arr[j]? := by
 have : (w.alloc (.cells arr e mk)).heap[w.heap.size]? = some (.cells arr e mk) := heap_alloc_new w _
 unfold World.cell?
 rw [this]
 rfl
end Go.Proofs.YtljmlacnfnmjbaaGreat
namespace Go.Proofs.YtljmlacnfnmjbaaGreat
open Go.RowKit
set_option linter.unusedVariables false

theorem But.new {g : Nat} {w w' : World} (h : But g w w') {r : Nat} (hr : w.heap.size ≤ r) (o : Nat) (v : Value) : But g w (w'.setCell ⟨r,o,none⟩ v) :=
 ⟨h.os,h.tape,h.output,by simp [World.setCell]; exact h.size,fun k hk hg => (Below.heap_setCell _ _ _ _ (by show k ≠ r; omega)).trans (h.block k hk hg)⟩
theorem But.alloc {g : Nat} {w w' : World} (h : But g w w') (o : Obj) : But g w (w'.alloc o) :=
 h.trans (But.of ((Below.refl _ _).alloc (Nat.le_refl _) o))
end Go.Proofs.YtljmlacnfnmjbaaGreat
namespace Go.Proofs.YtljmlacnfnmjbaaGreat
open Go.RowKit
set_option linter.unusedVariables false

end Go.Proofs.YtljmlacnfnmjbaaGreat
namespace Go.Proofs.YtljmlacnfnmjbaaGreat
open Go.RowKit
set_option linter.unusedVariables false

end Go.Proofs.YtljmlacnfnmjbaaGreat
namespace Go.Proofs.YtljmlacnfnmjbaaGreat
open Go.RowKit
set_option linter.unusedVariables false

end Go.Proofs.YtljmlacnfnmjbaaGreat
namespace Go.Proofs.YtljmlacnfnmjbaaGreat
open Go.RowKit
set_option linter.unusedVariables false

end Go.Proofs.YtljmlacnfnmjbaaGreat
namespace Go.Proofs.YtljmlacnfnmjbaaGreat
open Go.RowKit
set_option linter.unusedVariables false

end Go.Proofs.YtljmlacnfnmjbaaGreat
namespace Go.Proofs.YtljmlacnfnmjbaaGreat
open Go.RowKit
set_option linter.unusedVariables false

end Go.Proofs.YtljmlacnfnmjbaaGreat
namespace Go.Proofs.YtljmlacnfnmjbaaGreat
open Go.RowKit
set_option linter.unusedVariables false

end Go.Proofs.YtljmlacnfnmjbaaGreat
namespace Go.Proofs.YtljmlacnfnmjbaaGreat
open Go.RowKit
set_option linter.unusedVariables false

/-- What a node of an expression has besides its number: Value (Kind,Int,Text),Table,Name. -/
abbrev Pay := Int × Int × ByteArray × ByteArray × ByteArray
/-- An expression: '.node 0 number payload left right'. -/
abbrev Tr := Go.Deep.BT Pay
def nilP : Pay := (0,0,⟨#[]⟩,⟨#[]⟩,⟨#[]⟩)
def tCol (t n : ByteArray) : Tr := .node 0 2 (0,0,⟨#[]⟩,t,n) .nil .nil
def tOne (op : Nat) (x : Tr) : Tr := .node 0 op nilP x .nil
def tTwo (op : Nat) (x y : Tr) : Tr := .node 0 op nilP x y

/-- A fault's place and the fault; or what was read,and the words behind it. -/
abbrev Re (α : Type) := Sum (Int × Int) (α × List Tk)
/-- A fault's place and the fault; or the words that are yet to be read. -/
abbrev Sa := Sum (Int × Int) (List Tk)
end Go.Proofs.YtljmlacnfnmjbaaGreat
namespace Go.Proofs.YtljmlacnfnmjbaaGreat
open Go.RowKit
set_option linter.unusedVariables false

end Go.Proofs.YtljmlacnfnmjbaaGreat
namespace Go.Proofs.YtljmlacnfnmjbaaGreat
open Go.RowKit
set_option linter.unusedVariables false

theorem hid {p : Prop} (h : p) : Hid p := h
end Go.Proofs.YtljmlacnfnmjbaaGreat
namespace Go.Proofs.YtljmlacnfnmjbaaGreat
open Go.RowKit
set_option linter.unusedVariables false

end Go.Proofs.YtljmlacnfnmjbaaGreat
namespace Go.Proofs.YtljmlacnfnmjbaaGreat
open Go.RowKit
set_option linter.unusedVariables false

/-- An expression's value. -/
def exV (o : Int) (p : Pay) (sl : Value) : Value := .agg #[.int .i64 o,.int .i64 p.1,.int .i64 p.2.1,.string p.2.2.1,.string p.2.2.2.1,.string p.2.2.2.2,sl]
/-- The seven cells of an expression from place o on in block b. -/
def Ce (w : World) (b o : Nat) (op : Int) (p : Pay) (sl : Value) : Prop :=
 w.cell? ⟨b,o,none⟩ = some (.int .i64 op) ∧ w.cell? ⟨b,o + 1,none⟩ = some (.int .i64 p.1) ∧ w.cell? ⟨b,o + 2,none⟩ = some (.int .i64 p.2.1) ∧ w.cell? ⟨b,o + 3,none⟩ = some (.string p.2.2.1) ∧ w.cell? ⟨b,o + 4,none⟩ = some (.string p.2.2.2.1) ∧ w.cell? ⟨b,o + 5,none⟩ = some (.string p.2.2.2.2) ∧ w.cell? ⟨b,o + 6,none⟩ = some sl
theorem Ce.keep {w w' : World} {b o : Nat} {op : Int} {p : Pay} {sl : Value} (h : Ce w b o op p sl) (hk : w'.heap[b]? = w.heap[b]?) : Ce w' b o op p sl := by
 obtain ⟨h0,h1,h2,h3,h4,h5,h6⟩ := h
 exact ⟨(World.cell?_of_block (a := ⟨b,_,none⟩) hk).trans h0,(World.cell?_of_block (a := ⟨b,_,none⟩) hk).trans h1,(World.cell?_of_block (a := ⟨b,_,none⟩) hk).trans h2,(World.cell?_of_block (a := ⟨b,_,none⟩) hk).trans h3,(World.cell?_of_block (a := ⟨b,_,none⟩) hk).trans h4,(World.cell?_of_block (a := ⟨b,_,none⟩) hk).trans h5,(World.cell?_of_block (a := ⟨b,_,none⟩) hk).trans h6⟩
theorem Ce.lt {w : World} {b o : Nat} {op : Int} {p : Pay} {sl : Value} (h : Ce w b o op p sl) : b < w.heap.size := World.block_lt_of_cell? _ _ h.1
def noT : Tr → Bool
 | .nil => true
 | .node _ _ _ _ _ => false
/-- The value is the expression t; its rows lie in blocks that Q lets. -/
def Ex (Q : Nat → Prop) (w : World) : Tr → Value → Prop
 | .nil,_ => False
 | .node _ op p l r,v => ∃ ao n c,v = exV op p (.slice ao n c) ∧ n ≤ c ∧ c ≤ 9223372036854775807 ∧
   ((noT l = true ∧ noT r = true ∧ n = 0) ∨
   (noT l = false ∧ noT r = true ∧ n = 1 ∧ ∃ b o op1 p1 a1 n1 c1,ao = some ⟨b,o,none⟩ ∧ Q b ∧ Ce w b o op1 p1 (.slice a1 n1 c1) ∧ Ex Q w l (exV op1 p1 (.slice a1 n1 c1))) ∨
   (noT l = false ∧ noT r = false ∧ n = 2 ∧ ∃ b o op1 p1 a1 n1 c1 op2 p2 a2 n2 c2,ao = some ⟨b,o,none⟩ ∧ Q b ∧ Ce w b o op1 p1 (.slice a1 n1 c1) ∧ Ce w b (o + 7) op2 p2 (.slice a2 n2 c2) ∧ Ex Q w l (exV op1 p1 (.slice a1 n1 c1)) ∧ Ex Q w r (exV op2 p2 (.slice a2 n2 c2))))
theorem Ex.not_nil {Q : Nat → Prop} {w : World} {t : Tr} {v : Value} (h : Ex Q w t v) : noT t = false := by
 cases t with
 | nil => exact h.elim
 | node => rfl
theorem Ex.keep {Q : Nat → Prop} {w w' : World} (hk : ∀ k,Q k → k < w.heap.size → w'.heap[k]? = w.heap[k]?) : ∀ {t : Tr} {v : Value},Ex Q w t v → Ex Q w' t v := by
 intro t
 induction t with
 | nil => intro v h; exact h.elim
 | node x op p l r ihl ihr =>
  rintro v ⟨ao,n,c,hv,hn,hc,h⟩
  refine ⟨ao,n,c,hv,hn,hc,?_⟩
  rcases h with h | ⟨h1,h2,h3,b,o,op1,p1,a1,n1,c1,ha,hq,hx,hl⟩ | ⟨h1,h2,h3,b,o,op1,p1,a1,n1,c1,op2,p2,a2,n2,c2,ha,hq,hx,hy,hl,hr⟩
  ·exact .inl h
  ·exact .inr (.inl ⟨h1,h2,h3,b,o,op1,p1,a1,n1,c1,ha,hq,hx.keep (hk b hq hx.lt),ihl hl⟩)
  ·exact .inr (.inr ⟨h1,h2,h3,b,o,op1,p1,a1,n1,c1,op2,p2,a2,n2,c2,ha,hq,hx.keep (hk b hq hx.lt),hy.keep (hk b hq hx.lt),ihl hl,ihr hr⟩)
theorem Ex.mono {Q Q' : Nat → Prop} {w : World} (hk : ∀ k,Q k → k < w.heap.size → Q' k) : ∀ {t : Tr} {v : Value},Ex Q w t v → Ex Q' w t v := by
 intro t
 induction t with
 | nil => intro v h; exact h.elim
 | node x op p l r ihl ihr =>
  rintro v ⟨ao,n,c,hv,hn,hc,h⟩
  refine ⟨ao,n,c,hv,hn,hc,?_⟩
  rcases h with h | ⟨h1,h2,h3,b,o,op1,p1,a1,n1,c1,ha,hq,hx,hl⟩ | ⟨h1,h2,h3,b,o,op1,p1,a1,n1,c1,op2,p2,a2,n2,c2,ha,hq,hx,hy,hl,hr⟩
  ·exact .inl h
  ·exact .inr (.inl ⟨h1,h2,h3,b,o,op1,p1,a1,n1,c1,ha,hk b hq hx.lt,hx,ihl hl⟩)
  ·exact .inr (.inr ⟨h1,h2,h3,b,o,op1,p1,a1,n1,c1,op2,p2,a2,n2,c2,ha,hk b hq hx.lt,hx,hy,ihl hl,ihr hr⟩)
theorem Ex.leaf {Q : Nat → Prop} {w : World} (x op : Nat) (p : Pay) : Ex Q w (.node x op p .nil .nil) (exV op p (.slice none 0 0)) :=
 ⟨none,0,0,rfl,Nat.le_refl _,by omega,.inl ⟨rfl,rfl,rfl⟩⟩
theorem Ex.one {Q : Nat → Prop} {w : World} {op : Nat} {t : Tr} {b : Nat} {op1 : Int} {p1 : Pay} {a1 : Option Addr} {n1 c1 : Nat} (hq : Q b) (hc : Ce w b 0 op1 p1 (.slice a1 n1 c1)) (h : Ex Q w t (exV op1 p1 (.slice a1 n1 c1))) :
  Ex Q w (tOne op t) (exV op nilP (.slice (some ⟨b,0,none⟩) 1 1)) :=
 ⟨_,1,1,rfl,Nat.le_refl _,by omega,.inr (.inl ⟨h.not_nil,rfl,rfl,b,0,op1,p1,a1,n1,c1,rfl,hq,hc,h⟩)⟩
theorem Ex.two {Q : Nat → Prop} {w : World} {op : Nat} {t u : Tr} {b : Nat} {op1 : Int} {p1 : Pay} {a1 : Option Addr} {n1 c1 : Nat} {op2 : Int} {p2 : Pay} {a2 : Option Addr} {n2 c2 : Nat} (hq : Q b) (hc : Ce w b 0 op1 p1 (.slice a1 n1 c1)) (hd : Ce w b 7 op2 p2 (.slice a2 n2 c2))
  (h : Ex Q w t (exV op1 p1 (.slice a1 n1 c1))) (k : Ex Q w u (exV op2 p2 (.slice a2 n2 c2))) :
  Ex Q w (tTwo op t u) (exV op nilP (.slice (some ⟨b,0,none⟩) 2 2)) :=
 ⟨_,2,2,rfl,Nat.le_refl _,by omega,.inr (.inr ⟨h.not_nil,k.not_nil,rfl,b,0,op1,p1,a1,n1,c1,op2,p2,a2,n2,c2,rfl,hq,hc,by simpa using hd,h,k⟩)⟩

/-- The seven cells of a block of its own. -/
structure Be (w : World) (b : Nat) (op : Int) (p : Pay) (sl : Value) : Prop where
 row : w.heap[b]? = some (.cells #[.int .i64 op,.int .i64 p.1,.int .i64 p.2.1,.string p.2.2.1,.string p.2.2.2.1,.string p.2.2.2.2,sl] 28 (0,0))
theorem Be.new (w : World) (op : Int) (p : Pay) (sl : Value) : Be (w.alloc (.cells #[.int .i64 op,.int .i64 p.1,.int .i64 p.2.1,.string p.2.2.1,.string p.2.2.2.1,.string p.2.2.2.2,sl] 28)) w.heap.size op p sl := ⟨heap_alloc_new w _⟩
theorem Be.lt {w : World} {b : Nat} {op : Int} {p : Pay} {sl : Value} (h : Be w b op p sl) : b < w.heap.size := (Array.getElem?_eq_some_iff.1 h.row).1
theorem Be.keep {w w' : World} {b : Nat} {op : Int} {p : Pay} {sl : Value} (h : Be w b op p sl) (hk : w'.heap[b]? = w.heap[b]?) : Be w' b op p sl := ⟨hk.trans h.row⟩
theorem Be.later {w w' : World} {b : Nat} {op : Int} {p : Pay} {sl : Value} (h : Be w b op p sl) (hb : Below w.heap.size w w') : Be w' b op p sl := h.keep (hb.block b h.lt)
theorem Be.but {w w' : World} {b g : Nat} {op : Int} {p : Pay} {sl : Value} (h : Be w b op p sl) (hb : But g w w') (hg : b ≠ g) : Be w' b op p sl := h.keep (hb.block b h.lt hg)
theorem Be.cells {w : World} {b : Nat} {op : Int} {p : Pay} {sl : Value} (h : Be w b op p sl) : Ce w b 0 op p sl := by
 unfold Ce World.cell?; rw [h.row]; exact ⟨rfl,rfl,rfl,rfl,rfl,rfl,rfl⟩
theorem Be.free {w : World} {b : Nat} {op : Int} {p : Pay} {sl : Value} (h : Be w b op p sl) : w.frozen? ⟨b,0,none⟩ = false ∧ w.frozen? ⟨b,1,none⟩ = false ∧ w.frozen? ⟨b,2,none⟩ = false ∧ w.frozen? ⟨b,3,none⟩ = false ∧ w.frozen? ⟨b,4,none⟩ = false ∧ w.frozen? ⟨b,5,none⟩ = false ∧ w.frozen? ⟨b,6,none⟩ = false := by
 unfold World.frozen?; rw [h.row]; exact ⟨rfl,rfl,rfl,rfl,rfl,rfl,rfl⟩
/-- Block b is stored into,cell by cell. -/
def set7 (w : World) (b : Nat) (op : Int) (p : Pay) (sl : Value) : World :=
 ((((((w.setCell ⟨b,0,none⟩ (.int .i64 op)).setCell ⟨b,1,none⟩ (.int .i64 p.1)).setCell ⟨b,2,none⟩ (.int .i64 p.2.1)).setCell ⟨b,3,none⟩ (.string p.2.2.1)).setCell ⟨b,4,none⟩ (.string p.2.2.2.1)).setCell ⟨b,5,none⟩ (.string p.2.2.2.2)).setCell ⟨b,6,none⟩ sl
theorem set7_heap (w : World) (b : Nat) (op : Int) (p : Pay) (sl : Value) {k : Nat} (hk : k ≠ b) : (set7 w b op p sl).heap[k]? = w.heap[k]? := by
 unfold set7
 rw [Below.heap_setCell _ _ _ _ hk,Below.heap_setCell _ _ _ _ hk,Below.heap_setCell _ _ _ _ hk,Below.heap_setCell _ _ _ _ hk,Below.heap_setCell _ _ _ _ hk,Below.heap_setCell _ _ _ _ hk,Below.heap_setCell _ _ _ _ hk]
theorem set7_size (w : World) (b : Nat) (op : Int) (p : Pay) (sl : Value) : (set7 w b op p sl).heap.size = w.heap.size := by simp [set7,World.setCell]
theorem But.set7 {g : Nat} {a w : World} (h : But g a w) {b : Nat} (hb : a.heap.size ≤ b) (op : Int) (p : Pay) (sl : Value) : But g a (set7 w b op p sl) :=
 ((((((h.new hb 0 _).new hb 1 _).new hb 2 _).new hb 3 _).new hb 4 _).new hb 5 _).new hb 6 _
theorem Ex.set7 {Q : Nat → Prop} {w : World} {t : Tr} {v : Value} (h : Ex Q w t v) {b : Nat} (hb : ¬ Q b) (op : Int) (p : Pay) (sl : Value) : Ex Q (set7 w b op p sl) t v :=
 h.keep fun k hq _ => set7_heap _ _ _ _ _ (by rintro rfl; exact hb hq)
theorem Ex.but {Q : Nat → Prop} {w w' : World} {t : Tr} {v : Value} {g : Nat} (h : Ex Q w t v) (hb : But g w w') (hg : ¬ Q g) : Ex Q w' t v :=
 h.keep fun k hq hk => hb.block k hk (by rintro rfl; exact hg hq)
theorem Ex.later {Q : Nat → Prop} {w w' : World} {t : Tr} {v : Value} (h : Ex Q w t v) (hb : Below w.heap.size w w') : Ex Q w' t v :=
 h.keep fun k hq hk => hb.block k hk

theorem bal {a w : World} (h : Below a.heap.size a w) (o : Obj) : Below a.heap.size a (w.alloc o) := h.alloc h.size o

theorem Be.set4 {w : World} {b : Nat} {op : Int} {k i : Int} {x t m : ByteArray} {sl : Value} (h : Be w b op (k,i,x,t,m) sl) (s : ByteArray) : Be (w.setCell ⟨b,4,none⟩ (.string s)) b op (k,i,x,s,m) sl := ⟨by simp [World.setCell,Array.getElem?_modify,h.row]⟩
theorem Be.other {w : World} {b : Nat} {op : Int} {p : Pay} {sl : Value} (h : Be w b op p sl) {r : Nat} (hr : b ≠ r) (o : Nat) (v : Value) : Be (w.setCell ⟨r,o,none⟩ v) b op p sl := h.keep (Below.heap_setCell _ _ _ _ hr)
abbrev zE : Obj := .cells #[.int .i64 0,.int .i64 0,.int .i64 0,.string ⟨#[]⟩,.string ⟨#[]⟩,.string ⟨#[]⟩,.slice none 0 0] 28

end Go.Proofs.YtljmlacnfnmjbaaGreat
namespace Go.Proofs.YtljmlacnfnmjbaaGreat
open Go.RowKit
set_option linter.unusedVariables false

end Go.Proofs.YtljmlacnfnmjbaaGreat
namespace Go.Proofs.YtljmlacnfnmjbaaGreat
open Go.RowKit
set_option linter.unusedVariables false

end Go.Proofs.YtljmlacnfnmjbaaGreat
namespace Go.Proofs.YtljmlacnfnmjbaaGreat
open Go.RowKit
set_option linter.unusedVariables false

end Go.Proofs.YtljmlacnfnmjbaaGreat
namespace Go.Proofs.YtljmlacnfnmjbaaGreat
open Go.RowKit
set_option linter.unusedVariables false

end Go.Proofs.YtljmlacnfnmjbaaGreat
namespace Go.Proofs.YtljmlacnfnmjbaaGreat
open Go.RowKit
set_option linter.unusedVariables false

end Go.Proofs.YtljmlacnfnmjbaaGreat
namespace Go.Proofs.YtljmlacnfnmjbaaGreat
open Go.RowKit
set_option linter.unusedVariables false

end Go.Proofs.YtljmlacnfnmjbaaGreat
namespace Go.Proofs.YtljmlacnfnmjbaaGreat
open Go.RowKit
set_option linter.unusedVariables false

/-- A kind of thing in memory: how many cells,and when they are it. -/
structure Ek (α : Type) where
 k : Nat
 E : (Nat → Prop) → World → α → List Value → Prop
 keep : ∀ {Q : Nat → Prop} {w w' : World} {t : α} {cs : List Value},(∀ b,Q b → b < w.heap.size → w'.heap[b]? = w.heap[b]?) → E Q w t cs → E Q w' t cs
 mono : ∀ {Q Q' : Nat → Prop} {w : World} {t : α} {cs : List Value},(∀ b,Q b → b < w.heap.size → Q' b) → E Q w t cs → E Q' w t cs
def eTag : Ek Int := ⟨1,fun _ _ z cs => cs = [.int .u16 z],fun _ h => h,fun _ h => h⟩
abbrev Co := ByteArray × Int × ByteArray
def eCol : Ek Co := ⟨3,fun _ _ c cs => cs = [.string c.1,.int .i64 c.2.1,.string c.2.2],fun _ h => h,fun _ h => h⟩
abbrev It := Int × ByteArray × ByteArray
def eItem : Ek It := ⟨3,fun _ _ c cs => cs = [.int .i64 c.1,.string c.2.1,.string c.2.2],fun _ h => h,fun _ h => h⟩
def exC (o : Int) (p : Pay) (sl : Value) : List Value := [.int .i64 o,.int .i64 p.1,.int .i64 p.2.1,.string p.2.2.1,.string p.2.2.2.1,.string p.2.2.2.2,sl]
def eExpr : Ek Tr := ⟨7,fun Q w t cs => ∃ op p a n c,cs = exC op p (.slice a n c) ∧ Ex Q w t (exV op p (.slice a n c)),
 fun hk ⟨op,p,a,n,c,h1,h2⟩ => ⟨op,p,a,n,c,h1,h2.keep hk⟩,fun hk ⟨op,p,a,n,c,h1,h2⟩ => ⟨op,p,a,n,c,h1,h2.mono hk⟩⟩
/-- The value is a slice that reads as the list; its rows lie in blocks that Q lets. -/
def RowIs {α : Type} (e : Ek α) (Q : Nat → Prop) (w : World) (v : Value) (l : List α) : Prop :=
 ∃ ao n c,v = .slice ao n c ∧ l.length = n ∧ n ≤ c ∧ c ≤ 9223372036854775807 ∧ (0 < n → ∃ b o,ao = some ⟨b,o,none⟩ ∧ Q b ∧ ∀ i (h : i < l.length),∃ cs,e.E Q w l[i] cs ∧ cs.length = e.k ∧ ∀ j (hj : j < cs.length),w.cell? ⟨b,o + i * e.k + j,none⟩ = some cs[j])
theorem RowIs.nil {α : Type} (e : Ek α) (Q : Nat → Prop) (w : World) : RowIs e Q w (.slice none 0 0) [] := ⟨none,0,0,rfl,rfl,Nat.le_refl _,by omega,fun h => absurd h (Nat.lt_irrefl _)⟩
theorem RowIs.keep {α : Type} {e : Ek α} (he : 0 < e.k) {Q : Nat → Prop} {w w' : World} {v : Value} {l : List α} (hk : ∀ b,Q b → b < w.heap.size → w'.heap[b]? = w.heap[b]?) (h : RowIs e Q w v l) : RowIs e Q w' v l := by
 obtain ⟨ao,n,c,hv,hl,hn,hc,hx⟩ := h
 refine ⟨ao,n,c,hv,hl,hn,hc,fun hp => ?_⟩
 obtain ⟨b,o,ha,hq,hi⟩ := hx hp
 refine ⟨b,o,ha,hq,fun i h => ?_⟩
 obtain ⟨cs,h1,h2,h3⟩ := hi i h
 have hb : b < w.heap.size := World.block_lt_of_cell? _ _ (h3 0 (by omega))
 exact ⟨cs,e.keep hk h1,h2,fun j hj => (World.cell?_of_block (a := ⟨b,_,none⟩) (hk b hq hb)).trans (h3 j hj)⟩
theorem RowIs.mono {α : Type} {e : Ek α} (he : 0 < e.k) {Q Q' : Nat → Prop} {w : World} {v : Value} {l : List α} (hk : ∀ b,Q b → b < w.heap.size → Q' b) (h : RowIs e Q w v l) : RowIs e Q' w v l := by
 obtain ⟨ao,n,c,hv,hl,hn,hc,hx⟩ := h
 refine ⟨ao,n,c,hv,hl,hn,hc,fun hp => ?_⟩
 obtain ⟨b,o,ha,hq,hi⟩ := hx hp
 have hb : b < w.heap.size := by
  obtain ⟨cs,h1,h2,h3⟩ := hi 0 (by omega)
  exact World.block_lt_of_cell? _ _ (h3 0 (by omega))
 exact ⟨b,o,ha,hk b hq hb,fun i h => by
  obtain ⟨cs,h1,h2,h3⟩ := hi i h
  exact ⟨cs,e.mono hk h1,h2,h3⟩⟩

/-- A row of the call's own,thing by thing. -/
def OwnR (ty k B : Nat) (w : World) (v : Value) (css : List (List Value)) : Prop := (∀ cs ∈ css,cs.length = k) ∧ w.ownsRow B ty k v css.length css.flatten
theorem flat_at {k : Nat} : ∀ {css : List (List Value)},(∀ cs ∈ css,cs.length = k) → ∀ {i j : Nat} (hi : i < css.length) (hj : j < k),css.flatten[i * k + j]? = (css[i])[j]? := by
 intro css
 induction css with
 | nil => intro _ i j hi; simp at hi
 | cons c l ih =>
  intro h i j hi hj
  have hc := h c (by simp)
  cases i with
  | zero => rw [List.flatten_cons,List.getElem?_append_left (by omega)]; simp
  | succ i =>
   rw [List.flatten_cons,List.getElem?_append_right (by rw [hc,Nat.succ_mul]; omega),show (i + 1) * k + j - c.length = i * k + j from by rw [hc,Nat.succ_mul]; omega]
   exact ih (fun x hx => h x (by simp [hx])) (by simpa using hi) hj
theorem OwnR.row {α : Type} {e : Ek α} {ty B : Nat} {w : World} {v : Value} {css : List (List Value)} {l : List α} {Q : Nat → Prop} (h : OwnR ty e.k B w v css) (hl : l.length = css.length) (hn : css ≠ []) (hq : ∀ b,B ≤ b → b < w.heap.size → Q b)
  (hE : ∀ i (h1 : i < l.length) (h2 : i < css.length),e.E Q w l[i] css[i]) : RowIs e Q w v l := by
 rcases h.2.2 with ⟨rfl,h0⟩ | ⟨g,cap,cur,rfl,hb,hg,hnc,hc,hs,ht⟩
 ·exact absurd (List.eq_nil_of_length_eq_zero h0) hn
 ·have hgl : g < w.heap.size := (Array.getElem?_eq_some_iff.1 hg).1
  refine ⟨_,css.length,cap,rfl,hl,hnc,by simpa [maxLen] using hc,fun hp => ⟨g,0,rfl,hq g hb hgl,fun i hi => ⟨css[i]'(by omega),hE i hi (by omega),h.1 _ (List.getElem_mem _),fun j hj => ?_⟩⟩⟩
  have hk := h.1 _ (List.getElem_mem (l := css) (n := i) (by omega))
  have hlt : i * e.k + j < css.length * e.k := by
   have : (i + 1) * e.k ≤ css.length * e.k := Nat.mul_le_mul_right _ (by omega)
   rw [Nat.succ_mul] at this
   omega
  have c0 := World.ownsRow.cellAt h.2 (i * e.k + j) hlt
  rw [Nat.zero_add,c0,flat_at h.1 (by omega) (by omega)]
  exact List.getElem?_eq_getElem hj
theorem OwnR.but {ty k B g : Nat} {w w' : World} {v : Value} {css : List (List Value)} (h : OwnR ty k B w v css) (hb : But g w w') (hg : g < B) : OwnR ty k B w' v css := by
 refine ⟨h.1,h.2.1,?_⟩
 rcases h.2.2 with k | ⟨b,cap,cur,hv,hg',hh,r⟩
 ·exact .inl k
 ·exact .inr ⟨b,cap,cur,hv,hg',by rw [hb.block b (Array.getElem?_eq_some_iff.1 hh).1 (by omega)]; exact hh,r⟩
theorem OwnR.alloc {ty k B : Nat} {w : World} {v : Value} {css : List (List Value)} (h : OwnR ty k B w v css) (o : Obj) : OwnR ty k B (w.alloc o) v css := ⟨h.1,World.ownsRow.alloc h.2 o⟩
theorem OwnR.lit (ty k B : Nat) (w : World) (cs : List Value) (hk : cs.length = k) (hB : B ≤ w.heap.size) : OwnR ty k B (w.alloc (.cells cs.toArray ty)) (.slice (some ⟨w.heap.size,0,none⟩) 1 1) [cs] := by
 subst hk
 refine ⟨fun c hc => by simp at hc; rw [hc],by simp,.inr ⟨w.heap.size,1,cs.toArray,rfl,hB,heap_alloc_new w _,Nat.le_refl _,by simp [maxLen],by simp,by simp⟩⟩
theorem run_appR {t ty e : TypeId} {z : Value} {k bytes B : Nat} (ht : Tryz.prog.underlying t = some (.slice e)) (hinf : (Tryz.prog.info? e).map (fun i => (i.zero,i.size,i.bytes)) = some (some z,k,bytes)) (hzs : z.cells.size = k) (hk : 0 < k) (hby : bytes ≤ 1000)
  (w : World) (v : Value) (css : List (List Value)) (g : Nat) (cs : List Value) (hown : OwnR e k B w v css) (hcs : cs.length = k) (h1 : ∀ u ∈ cs,u.oneCell' = true) (hx : ∀ j (hj : j < cs.length),w.cell? ⟨g,j,none⟩ = some cs[j]) (hl : css.length ≤ 1000) (hB : B ≤ w.heap.size) :
  ∃ v' w',(Builtin.append_ #[t,t] ty #[v,.slice (some ⟨g,0,none⟩) 1 1]).run Tryz.prog w = .ok v' w' ∧ OwnR e k B w' v' (css ++ [cs]) ∧ w.grownBy w' v.ownBlock ∧ (v'.ownBlock = v.ownBlock ∨ v'.ownBlock = some w.heap.size) := by
 obtain ⟨i,hi,hz,hsz,hb⟩ := info_parts hinf
 obtain ⟨v',w',hr,h2,h3,_,h5⟩ := run_append_own_at (P := Tryz.prog) w B t ty e i z k bytes ht hi hz hsz hb hzs hk v css.length _ hown.2 ⟨g,0,none⟩ 1 1 cs (by omega)
  (by
   intro j u hj
   obtain ⟨hj1,hj2⟩ := List.getElem?_eq_some_iff.1 hj
   have := hx j hj1
   rw [hj2] at this
   have e : (⟨g,0,none⟩ : Addr).add j = ⟨g,j,none⟩ := by unfold Addr.add; split <;> simp_all
   rw [e]
   exact this)
  h1 (by unfold maxLen; omega) (by have : (css.length + 1) * bytes ≤ 1001 * 1000 := Nat.mul_le_mul (by omega) hby; omega) hB
 refine ⟨v',w',hr,⟨?_,?_⟩,h3,h5⟩
 ·intro c hc
  rw [List.mem_append,List.mem_singleton] at hc
  rcases hc with hc | rfl
  ·exact hown.1 c hc
  ·exact hcs
 ·simpa using h2
theorem wpList_appR {t e : TypeId} {z : Value} {k bytes B : Nat} (ht : Tryz.prog.underlying t = some (.slice e)) (hinf : (Tryz.prog.info? e).map (fun i => (i.zero,i.size,i.bytes)) = some (some z,k,bytes)) (hzs : z.cells.size = k) (hk : 0 < k) (hby : bytes ≤ 1000)
  {w : World} {ops : Array Oper} {rest : List Oper} {o : Oper} {a : Act} {Q : Exit → Act → World → Prop} (hgd : o.guard = none) (s x : Operand)
  (ho : o.op = .call { callee := .builtin .append,args := #[s,x],argTypes := #[t,t] }) (v : Value) (css : List (List Value)) (g : Nat) (cs : List Value) (hs : a.eval s = v) (hx : a.eval x = .slice (some ⟨g,0,none⟩) 1 1)
  (hown : OwnR e k B w v css) (hcs : cs.length = k) (h1 : ∀ u ∈ cs,u.oneCell' = true) (hcell : ∀ j (hj : j < cs.length),w.cell? ⟨g,j,none⟩ = some cs[j]) (hl : css.length ≤ 1000) (hB : B ≤ w.heap.size)
  (h : ∀ v' w',OwnR e k B w' v' (css ++ [cs]) → w.grownBy w' v.ownBlock → (v'.ownBlock = v.ownBlock ∨ v'.ownBlock = some w.heap.size) → wpList Tryz.prog ops Q rest (a.put o.dst v') w') : wpList Tryz.prog ops Q (o :: rest) a w :=
 wpList_plain hgd fun _ hK => by
  obtain ⟨v',w',hr,h2,h3,h4⟩ := run_appR ht hinf hzs hk hby w v css g cs hown hcs h1 hcell hl hB (ty := o.type)
  unfold Oper.wp execOp
  simp only [ho,resolve,invoke,builtin,Sem.run_bind,Sem.run_pure,Result.andThen_ok,List.map_toArray,List.map_cons,List.map_nil,hs,hx,hr]
  exact hK _ _ (h v' w' h2 h3 h4)

/-- A statement without what stands in it. -/
structure Sm where
 kind : Int
 table : ByteArray
 name : ByteArray
 cols : List Co
 tags : List Int
 values : List Tr
 items : List It
 join : ByteArray
 on : List Tr
 wh : List Tr
 order : List Tr
 desc : Bool
def sm (k : Int) : Sm := ⟨k,⟨#[]⟩,⟨#[]⟩,[],[],[],[],⟨#[]⟩,[],[],[],false⟩

end Go.Proofs.YtljmlacnfnmjbaaGreat
namespace Go.Proofs.YtljmlacnfnmjbaaGreat
open Go.RowKit
set_option linter.unusedVariables false

theorem But.grown {g : Nat} {w w3 w4 : World} {row : Option Nat} (h : But g w w3) (hg : w3.grownBy w4 row) (hrow : ∀ k,row = some k → w.heap.size ≤ k) : But g w w4 :=
 ⟨hg.os.trans h.os,hg.tape.trans h.tape,hg.output.trans h.output,Nat.le_trans h.size hg.size,fun k hk hgk => (hg.block k (Nat.lt_of_lt_of_le hk h.size) (fun e => by have := hrow k e.symm; omega)).trans (h.block k hk hgk)⟩
theorem Ek.grow {α : Type} (e : Ek α) {w5 w6 : World} {B : Nat} {row own : Option Nat} {u : α} {ds : List Value} (hE : e.E (fun b => B ≤ b ∧ some b ≠ row) w5 u ds) (hg : w5.grownBy w6 row) (hown : own = row ∨ own = some w5.heap.size) : e.E (fun b => B ≤ b ∧ some b ≠ own) w6 u ds :=
 e.mono (fun b hq _ => ⟨hq.1,hq.2.2⟩) (e.keep (w := w5) (fun b hq hlt => hg.block b hlt hq.2.1) (e.mono (Q' := fun b => B ≤ b ∧ some b ≠ row ∧ some b ≠ own) (fun b hq hlt => ⟨hq.1,hq.2,by
  rcases hown with h | h
  ·rw [h]; exact hq.2
  ·rw [h]; simp; omega⟩) hE))
theorem OwnR.blk {ty k B : Nat} {w : World} {v : Value} {css : List (List Value)} (h : OwnR ty k B w v css) : ∀ b,v.ownBlock = some b → B ≤ b ∧ b < w.heap.size := fun b e => World.ownsRow.lt h.2 b e

theorem Tryz.infoTExpr : (Tryz.prog.info? 28).map (fun i => (i.zero,i.size,i.bytes)) = some (some (.agg #[.int .i64 0,.int .i64 0,.int .i64 0,.string ⟨#[]⟩,.string ⟨#[]⟩,.string ⟨#[]⟩,.slice none 0 0]),7,96) := by kernel_rfl
end Go.Proofs.YtljmlacnfnmjbaaGreat
namespace Go.Proofs.YtljmlacnfnmjbaaGreat
open Go.RowKit
set_option linter.unusedVariables false

theorem Tryz.infoTTag : (Tryz.prog.info? 91).map (fun i => (i.zero,i.size,i.bytes)) = some (some (.int .u16 0),1,2) := by kernel_rfl
end Go.Proofs.YtljmlacnfnmjbaaGreat
namespace Go.Proofs.YtljmlacnfnmjbaaGreat
open Go.RowKit
set_option linter.unusedVariables false

theorem Tryz.infoTCol : (Tryz.prog.info? 84).map (fun i => (i.zero,i.size,i.bytes)) = some (some (.agg #[.string ⟨#[]⟩,.int .i64 0,.string ⟨#[]⟩]),3,40) := by kernel_rfl
end Go.Proofs.YtljmlacnfnmjbaaGreat
namespace Go.Proofs.YtljmlacnfnmjbaaGreat
open Go.RowKit
set_option linter.unusedVariables false

theorem Tryz.infoTItem : (Tryz.prog.info? 66).map (fun i => (i.zero,i.size,i.bytes)) = some (some (.agg #[.int .i64 0,.string ⟨#[]⟩,.string ⟨#[]⟩]),3,40) := by kernel_rfl
end Go.Proofs.YtljmlacnfnmjbaaGreat
namespace Go.Proofs.YtljmlacnfnmjbaaGreat
open Go.RowKit
set_option linter.unusedVariables false

end Go.Proofs.YtljmlacnfnmjbaaGreat
namespace Go.Proofs.YtljmlacnfnmjbaaGreat
open Go.RowKit
set_option linter.unusedVariables false

end Go.Proofs.YtljmlacnfnmjbaaGreat
namespace Go.Proofs.YtljmlacnfnmjbaaGreat
open Go.RowKit
set_option linter.unusedVariables false

end Go.Proofs.YtljmlacnfnmjbaaGreat
namespace Go.Proofs.YtljmlacnfnmjbaaGreat
open Go.RowKit
set_option linter.unusedVariables false

end Go.Proofs.YtljmlacnfnmjbaaGreat
