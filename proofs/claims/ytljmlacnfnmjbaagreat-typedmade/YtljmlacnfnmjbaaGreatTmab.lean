import Derived.Test.YtljmlacnfnmjbaaGreatTmaa
import Derived.Lib.ItoaLen
import Derived.Deep.RegionHeld3
import Derived.BigRegion
namespace Go.Proofs.YtljmlacnfnmjbaaGreat
open Go.RowKit
set_option linter.unusedVariables false

/-- A slice's address,length,capacity. -/
abbrev Sl := Option Addr × Nat × Nat
abbrev slV (s : Sl) : Value := .slice s.1 s.2.1 s.2.2
/-- The cells of a statement. -/
structure Sv where
 k : Int
 tb : ByteArray
 nm : ByteArray
 co : Sl
 ta : Sl
 va : Sl
 it : Sl
 jn : ByteArray
 on : Sl
 wh : Sl
 od : Sl
 ds : Bool
 inn : Sl
def stV (s : Sv) : Value := .agg #[.int .i64 s.k,.string s.tb,.string s.nm,.slice s.co.1 s.co.2.1 s.co.2.2,.slice s.ta.1 s.ta.2.1 s.ta.2.2,.slice s.va.1 s.va.2.1 s.va.2.2,.slice s.it.1 s.it.2.1 s.it.2.2,.string s.jn,.slice s.on.1 s.on.2.1 s.on.2.2,.slice s.wh.1 s.wh.2.1 s.wh.2.2,.slice s.od.1 s.od.2.1 s.od.2.2,.bool s.ds,.slice s.inn.1 s.inn.2.1 s.inn.2.2]
/-- Thirteen cells of a block that was just made. -/
abbrev svO (s : Sv) : Obj := .cells #[.int .i64 s.k,.string s.tb,.string s.nm,.slice s.co.1 s.co.2.1 s.co.2.2,.slice s.ta.1 s.ta.2.1 s.ta.2.2,.slice s.va.1 s.va.2.1 s.va.2.2,.slice s.it.1 s.it.2.1 s.it.2.2,.string s.jn,.slice s.on.1 s.on.2.1 s.on.2.2,.slice s.wh.1 s.wh.2.1 s.wh.2.2,.slice s.od.1 s.od.2.1 s.od.2.2,.bool s.ds,.slice s.inn.1 s.inn.2.1 s.inn.2.2] 43 (0,0)
def svC (s : Sv) : List Value := [.int .i64 s.k,.string s.tb,.string s.nm,.slice s.co.1 s.co.2.1 s.co.2.2,.slice s.ta.1 s.ta.2.1 s.ta.2.2,.slice s.va.1 s.va.2.1 s.va.2.2,.slice s.it.1 s.it.2.1 s.it.2.2,.string s.jn,.slice s.on.1 s.on.2.1 s.on.2.2,.slice s.wh.1 s.wh.2.1 s.wh.2.2,.slice s.od.1 s.od.2.1 s.od.2.2,.bool s.ds,.slice s.inn.1 s.inn.2.1 s.inn.2.2]
abbrev zS (k : Int) : Sv := ⟨k,⟨#[]⟩,⟨#[]⟩,(none,0,0),(none,0,0),(none,0,0),(none,0,0),⟨#[]⟩,(none,0,0),(none,0,0),(none,0,0),false,(none,0,0)⟩
structure Bs (w : World) (b : Nat) (s : Sv) : Prop where
 row : w.heap[b]? = some (.cells #[.int .i64 s.k,.string s.tb,.string s.nm,.slice s.co.1 s.co.2.1 s.co.2.2,.slice s.ta.1 s.ta.2.1 s.ta.2.2,.slice s.va.1 s.va.2.1 s.va.2.2,.slice s.it.1 s.it.2.1 s.it.2.2,.string s.jn,.slice s.on.1 s.on.2.1 s.on.2.2,.slice s.wh.1 s.wh.2.1 s.wh.2.2,.slice s.od.1 s.od.2.1 s.od.2.2,.bool s.ds,.slice s.inn.1 s.inn.2.1 s.inn.2.2] 43 (0,0))
theorem Bs.new (w : World) (s : Sv) : Bs (w.alloc (.cells #[.int .i64 s.k,.string s.tb,.string s.nm,.slice s.co.1 s.co.2.1 s.co.2.2,.slice s.ta.1 s.ta.2.1 s.ta.2.2,.slice s.va.1 s.va.2.1 s.va.2.2,.slice s.it.1 s.it.2.1 s.it.2.2,.string s.jn,.slice s.on.1 s.on.2.1 s.on.2.2,.slice s.wh.1 s.wh.2.1 s.wh.2.2,.slice s.od.1 s.od.2.1 s.od.2.2,.bool s.ds,.slice s.inn.1 s.inn.2.1 s.inn.2.2] 43)) w.heap.size s := ⟨heap_alloc_new w _⟩
theorem Bs.lt {w : World} {b : Nat} {s : Sv} (h : Bs w b s) : b < w.heap.size := (Array.getElem?_eq_some_iff.1 h.row).1
theorem Bs.keep {w w' : World} {b : Nat} {s : Sv} (h : Bs w b s) (hk : w'.heap[b]? = w.heap[b]?) : Bs w' b s := ⟨hk.trans h.row⟩
theorem Bs.later {w w' : World} {b : Nat} {s : Sv} (h : Bs w b s) (hb : Below w.heap.size w w') : Bs w' b s := h.keep (hb.block b h.lt)
theorem Bs.but {w w' : World} {b g : Nat} {s : Sv} (h : Bs w b s) (hb : But g w w') (hg : b ≠ g) : Bs w' b s := h.keep (hb.block b h.lt hg)
theorem Bs.cells {w : World} {b : Nat} {s : Sv} (h : Bs w b s) : w.cell? ⟨b,0,none⟩ = some (.int .i64 s.k) ∧ w.cell? ⟨b,1,none⟩ = some (.string s.tb) ∧ w.cell? ⟨b,2,none⟩ = some (.string s.nm) ∧ w.cell? ⟨b,3,none⟩ = some (.slice s.co.1 s.co.2.1 s.co.2.2) ∧ w.cell? ⟨b,4,none⟩ = some (.slice s.ta.1 s.ta.2.1 s.ta.2.2) ∧ w.cell? ⟨b,5,none⟩ = some (.slice s.va.1 s.va.2.1 s.va.2.2) ∧ w.cell? ⟨b,6,none⟩ = some (.slice s.it.1 s.it.2.1 s.it.2.2) ∧ w.cell? ⟨b,7,none⟩ = some (.string s.jn) ∧ w.cell? ⟨b,8,none⟩ = some (.slice s.on.1 s.on.2.1 s.on.2.2) ∧ w.cell? ⟨b,9,none⟩ = some (.slice s.wh.1 s.wh.2.1 s.wh.2.2) ∧ w.cell? ⟨b,10,none⟩ = some (.slice s.od.1 s.od.2.1 s.od.2.2) ∧ w.cell? ⟨b,11,none⟩ = some (.bool s.ds) ∧ w.cell? ⟨b,12,none⟩ = some (.slice s.inn.1 s.inn.2.1 s.inn.2.2) := by
 unfold World.cell?; rw [h.row]; exact ⟨rfl,rfl,rfl,rfl,rfl,rfl,rfl,rfl,rfl,rfl,rfl,rfl,rfl⟩
theorem Bs.free {w : World} {b : Nat} {s : Sv} (h : Bs w b s) : w.frozen? ⟨b,0,none⟩ = false ∧ w.frozen? ⟨b,1,none⟩ = false ∧ w.frozen? ⟨b,2,none⟩ = false ∧ w.frozen? ⟨b,3,none⟩ = false ∧ w.frozen? ⟨b,4,none⟩ = false ∧ w.frozen? ⟨b,5,none⟩ = false ∧ w.frozen? ⟨b,6,none⟩ = false ∧ w.frozen? ⟨b,7,none⟩ = false ∧ w.frozen? ⟨b,8,none⟩ = false ∧ w.frozen? ⟨b,9,none⟩ = false ∧ w.frozen? ⟨b,10,none⟩ = false ∧ w.frozen? ⟨b,11,none⟩ = false ∧ w.frozen? ⟨b,12,none⟩ = false := by
 unfold World.frozen?; rw [h.row]; exact ⟨rfl,rfl,rfl,rfl,rfl,rfl,rfl,rfl,rfl,rfl,rfl,rfl,rfl⟩
theorem Bs.other {w : World} {b : Nat} {s : Sv} (h : Bs w b s) {r : Nat} (hr : b ≠ r) (o : Nat) (v : Value) : Bs (w.setCell ⟨r,o,none⟩ v) b s := h.keep (Below.heap_setCell _ _ _ _ hr)
theorem Bs.set1 {w : World} {b : Nat} {s : Sv} (h : Bs w b s) (v : ByteArray) : Bs (w.setCell ⟨b,1,none⟩ (.string v)) b { s with tb := v } := ⟨by simp [World.setCell,Array.getElem?_modify,h.row]⟩
theorem Bs.set2 {w : World} {b : Nat} {s : Sv} (h : Bs w b s) (v : ByteArray) : Bs (w.setCell ⟨b,2,none⟩ (.string v)) b { s with nm := v } := ⟨by simp [World.setCell,Array.getElem?_modify,h.row]⟩
theorem Bs.set3 {w : World} {b : Nat} {s : Sv} (h : Bs w b s) (v : Sl) : Bs (w.setCell ⟨b,3,none⟩ (.slice v.1 v.2.1 v.2.2)) b { s with co := v } := ⟨by simp [World.setCell,Array.getElem?_modify,h.row]⟩
theorem Bs.set4 {w : World} {b : Nat} {s : Sv} (h : Bs w b s) (v : Sl) : Bs (w.setCell ⟨b,4,none⟩ (.slice v.1 v.2.1 v.2.2)) b { s with ta := v } := ⟨by simp [World.setCell,Array.getElem?_modify,h.row]⟩
theorem Bs.set5 {w : World} {b : Nat} {s : Sv} (h : Bs w b s) (v : Sl) : Bs (w.setCell ⟨b,5,none⟩ (.slice v.1 v.2.1 v.2.2)) b { s with va := v } := ⟨by simp [World.setCell,Array.getElem?_modify,h.row]⟩
theorem Bs.set6 {w : World} {b : Nat} {s : Sv} (h : Bs w b s) (v : Sl) : Bs (w.setCell ⟨b,6,none⟩ (.slice v.1 v.2.1 v.2.2)) b { s with it := v } := ⟨by simp [World.setCell,Array.getElem?_modify,h.row]⟩
theorem Bs.set7 {w : World} {b : Nat} {s : Sv} (h : Bs w b s) (v : ByteArray) : Bs (w.setCell ⟨b,7,none⟩ (.string v)) b { s with jn := v } := ⟨by simp [World.setCell,Array.getElem?_modify,h.row]⟩
theorem Bs.set8 {w : World} {b : Nat} {s : Sv} (h : Bs w b s) (v : Sl) : Bs (w.setCell ⟨b,8,none⟩ (.slice v.1 v.2.1 v.2.2)) b { s with on := v } := ⟨by simp [World.setCell,Array.getElem?_modify,h.row]⟩
theorem Bs.set9 {w : World} {b : Nat} {s : Sv} (h : Bs w b s) (v : Sl) : Bs (w.setCell ⟨b,9,none⟩ (.slice v.1 v.2.1 v.2.2)) b { s with wh := v } := ⟨by simp [World.setCell,Array.getElem?_modify,h.row]⟩
theorem Bs.set10 {w : World} {b : Nat} {s : Sv} (h : Bs w b s) (v : Sl) : Bs (w.setCell ⟨b,10,none⟩ (.slice v.1 v.2.1 v.2.2)) b { s with od := v } := ⟨by simp [World.setCell,Array.getElem?_modify,h.row]⟩
theorem Bs.set11 {w : World} {b : Nat} {s : Sv} (h : Bs w b s) (v : Bool) : Bs (w.setCell ⟨b,11,none⟩ (.bool v)) b { s with ds := v } := ⟨by simp [World.setCell,Array.getElem?_modify,h.row]⟩
theorem Bs.set12 {w : World} {b : Nat} {s : Sv} (h : Bs w b s) (v : Sl) : Bs (w.setCell ⟨b,12,none⟩ (.slice v.1 v.2.1 v.2.2)) b { s with inn := v } := ⟨by simp [World.setCell,Array.getElem?_modify,h.row]⟩
def set13 (w : World) (b : Nat) (s : Sv) : World := (((((((((((((w.setCell ⟨b,0,none⟩ (.int .i64 s.k)).setCell ⟨b,1,none⟩ (.string s.tb)).setCell ⟨b,2,none⟩ (.string s.nm)).setCell ⟨b,3,none⟩ (.slice s.co.1 s.co.2.1 s.co.2.2)).setCell ⟨b,4,none⟩ (.slice s.ta.1 s.ta.2.1 s.ta.2.2)).setCell ⟨b,5,none⟩ (.slice s.va.1 s.va.2.1 s.va.2.2)).setCell ⟨b,6,none⟩ (.slice s.it.1 s.it.2.1 s.it.2.2)).setCell ⟨b,7,none⟩ (.string s.jn)).setCell ⟨b,8,none⟩ (.slice s.on.1 s.on.2.1 s.on.2.2)).setCell ⟨b,9,none⟩ (.slice s.wh.1 s.wh.2.1 s.wh.2.2)).setCell ⟨b,10,none⟩ (.slice s.od.1 s.od.2.1 s.od.2.2)).setCell ⟨b,11,none⟩ (.bool s.ds)).setCell ⟨b,12,none⟩ (.slice s.inn.1 s.inn.2.1 s.inn.2.2))
theorem But.set13 {g : Nat} {a w : World} (h : But g a w) {b : Nat} (hb : a.heap.size ≤ b) (s : Sv) : But g a (set13 w b s) := (((((((((((((h.new hb 0 _).new hb 1 _).new hb 2 _).new hb 3 _).new hb 4 _).new hb 5 _).new hb 6 _).new hb 7 _).new hb 8 _).new hb 9 _).new hb 10 _).new hb 11 _).new hb 12 _)
theorem set13_heap (w : World) (b : Nat) (s : Sv) {k : Nat} (hk : k ≠ b) : (set13 w b s).heap[k]? = w.heap[k]? := by
 unfold set13
 rw [Below.heap_setCell _ _ _ _ hk,Below.heap_setCell _ _ _ _ hk,Below.heap_setCell _ _ _ _ hk,Below.heap_setCell _ _ _ _ hk,Below.heap_setCell _ _ _ _ hk,Below.heap_setCell _ _ _ _ hk,Below.heap_setCell _ _ _ _ hk,Below.heap_setCell _ _ _ _ hk,Below.heap_setCell _ _ _ _ hk,Below.heap_setCell _ _ _ _ hk,Below.heap_setCell _ _ _ _ hk,Below.heap_setCell _ _ _ _ hk,Below.heap_setCell _ _ _ _ hk]

/-- The cells are the statement. -/
structure IsS (Q : Nat → Prop) (w : World) (m : Sm) (s : Sv) : Prop where
 k : s.k = m.kind
 tb : s.tb = m.table
 nm : s.nm = m.name
 co : RowIs eCol Q w (slV s.co) m.cols
 ta : RowIs eTag Q w (slV s.ta) m.tags
 va : RowIs eExpr Q w (slV s.va) m.values
 it : RowIs eItem Q w (slV s.it) m.items
 jn : s.jn = m.join
 on : RowIs eExpr Q w (slV s.on) m.on
 wh : RowIs eExpr Q w (slV s.wh) m.wh
 od : RowIs eExpr Q w (slV s.od) m.order
 ds : s.ds = m.desc
theorem IsS.keep {Q : Nat → Prop} {w w' : World} {m : Sm} {s : Sv} (hk : ∀ b,Q b → b < w.heap.size → w'.heap[b]? = w.heap[b]?) (h : IsS Q w m s) : IsS Q w' m s :=
 ⟨h.k,h.tb,h.nm,h.co.keep (by decide) hk,h.ta.keep (by decide) hk,h.va.keep (by decide) hk,h.it.keep (by decide) hk,h.jn,h.on.keep (by decide) hk,h.wh.keep (by decide) hk,h.od.keep (by decide) hk,h.ds⟩
theorem IsS.mono {Q Q' : Nat → Prop} {w : World} {m : Sm} {s : Sv} (hk : ∀ b,Q b → b < w.heap.size → Q' b) (h : IsS Q w m s) : IsS Q' w m s :=
 ⟨h.k,h.tb,h.nm,h.co.mono (by decide) hk,h.ta.mono (by decide) hk,h.va.mono (by decide) hk,h.it.mono (by decide) hk,h.jn,h.on.mono (by decide) hk,h.wh.mono (by decide) hk,h.od.mono (by decide) hk,h.ds⟩
theorem IsS.zero (Q : Nat → Prop) (w : World) (k : Int) : IsS Q w (sm k) (zS k) :=
 ⟨rfl,rfl,rfl,RowIs.nil _ _ _,RowIs.nil _ _ _,RowIs.nil _ _ _,RowIs.nil _ _ _,rfl,RowIs.nil _ _ _,RowIs.nil _ _ _,RowIs.nil _ _ _,rfl⟩
def eStmt : Ek Sm := ⟨13,fun Q w m cs => ∃ s,cs = svC s ∧ IsS Q w m s ∧ s.inn = (none,0,0),fun hk ⟨s,h1,h2,h3⟩ => ⟨s,h1,h2.keep hk,h3⟩,fun hk ⟨s,h1,h2,h3⟩ => ⟨s,h1,h2.mono hk,h3⟩⟩
/-- A statement,and those that stand in it. -/
abbrev Sf := Sm × List Sm
end Go.Proofs.YtljmlacnfnmjbaaGreat
namespace Go.Proofs.YtljmlacnfnmjbaaGreat
open Go.RowKit
set_option linter.unusedVariables false

end Go.Proofs.YtljmlacnfnmjbaaGreat
namespace Go.Proofs.YtljmlacnfnmjbaaGreat
open Go.RowKit
set_option linter.unusedVariables false

end Go.Proofs.YtljmlacnfnmjbaaGreat
namespace Go.Proofs.YtljmlacnfnmjbaaGreat
open Go.RowKit
set_option linter.unusedVariables false

end Go.Proofs.YtljmlacnfnmjbaaGreat
namespace Go.Proofs.YtljmlacnfnmjbaaGreat
open Go.RowKit
set_option linter.unusedVariables false

end Go.Proofs.YtljmlacnfnmjbaaGreat
namespace Go.Proofs.YtljmlacnfnmjbaaGreat
open Go.RowKit
set_option linter.unusedVariables false

end Go.Proofs.YtljmlacnfnmjbaaGreat
namespace Go.Proofs.YtljmlacnfnmjbaaGreat
open Go.RowKit
set_option linter.unusedVariables false

end Go.Proofs.YtljmlacnfnmjbaaGreat
namespace Go.Proofs.YtljmlacnfnmjbaaGreat
open Go.RowKit
set_option linter.unusedVariables false

end Go.Proofs.YtljmlacnfnmjbaaGreat
namespace Go.Proofs.YtljmlacnfnmjbaaGreat
open Go.RowKit
set_option linter.unusedVariables false

end Go.Proofs.YtljmlacnfnmjbaaGreat
namespace Go.Proofs.YtljmlacnfnmjbaaGreat
open Go.RowKit
set_option linter.unusedVariables false

end Go.Proofs.YtljmlacnfnmjbaaGreat
namespace Go.Proofs.YtljmlacnfnmjbaaGreat
open Go.RowKit
set_option linter.unusedVariables false

theorem RowIs.len {α : Type} {e : Ek α} {Q : Nat → Prop} {w : World} {a : Option Addr} {n c : Nat} {l : List α} (h : RowIs e Q w (.slice a n c) l) : l.length = n ∧ n ≤ c ∧ c ≤ 9223372036854775807 := by
 obtain ⟨ao,n0,c0,hv,hl,h1,h2,hx⟩ := h
 cases hv
 exact ⟨hl,h1,h2⟩
end Go.Proofs.YtljmlacnfnmjbaaGreat
namespace Go.Proofs.YtljmlacnfnmjbaaGreat
open Go.RowKit
set_option linter.unusedVariables false

def sl : List UInt8 := [40,41,44,46,61,60,62,43,45,42]
end Go.Proofs.YtljmlacnfnmjbaaGreat

/- The walk of the document's letters. -/
namespace Go.Proofs.YtljmlacnfnmjbaaGreat
open Go.RowKit
set_option linter.unusedVariables false

end Go.Proofs.YtljmlacnfnmjbaaGreat

/- The walk of the document's own Parse. -/
namespace Go.Proofs.YtljmlacnfnmjbaaGreat
open Go.RowKit
set_option linter.unusedVariables false

end Go.Proofs.YtljmlacnfnmjbaaGreat

/- The walks of the document's one: a name,a number. -/
namespace Go.Proofs.YtljmlacnfnmjbaaGreat
open Go.RowKit
set_option linter.unusedVariables false

end Go.Proofs.YtljmlacnfnmjbaaGreat

/- The walks of the document's one: a text value,a sign. -/
namespace Go.Proofs.YtljmlacnfnmjbaaGreat
open Go.RowKit
set_option linter.unusedVariables false

end Go.Proofs.YtljmlacnfnmjbaaGreat

/- The walks of the document's one and Lex. -/
namespace Go.Proofs.YtljmlacnfnmjbaaGreat
open Go.RowKit
set_option linter.unusedVariables false

end Go.Proofs.YtljmlacnfnmjbaaGreat
namespace Go.Proofs.YtljmlacnfnmjbaaGreat
open Go.RowKit
set_option linter.unusedVariables false

end Go.Proofs.YtljmlacnfnmjbaaGreat
namespace Go.Proofs.YtljmlacnfnmjbaaGreat
open Go.RowKit
set_option linter.unusedVariables false


end Go.Proofs.YtljmlacnfnmjbaaGreat
namespace Go.Proofs.YtljmlacnfnmjbaaGreat
open Go.RowKit
set_option linter.unusedVariables false

end Go.Proofs.YtljmlacnfnmjbaaGreat
namespace Go.Proofs.YtljmlacnfnmjbaaGreat
open Go.RowKit
set_option linter.unusedVariables false

end Go.Proofs.YtljmlacnfnmjbaaGreat
namespace Go.Proofs.YtljmlacnfnmjbaaGreat
open Go.RowKit
set_option linter.unusedVariables false

end Go.Proofs.YtljmlacnfnmjbaaGreat
namespace Go.Proofs.YtljmlacnfnmjbaaGreat
open Go.RowKit
set_option linter.unusedVariables false

end Go.Proofs.YtljmlacnfnmjbaaGreat
namespace Go.Proofs.YtljmlacnfnmjbaaGreat
open Go.RowKit
set_option linter.unusedVariables false

end Go.Proofs.YtljmlacnfnmjbaaGreat
namespace Go.Proofs.YtljmlacnfnmjbaaGreat
open Go.RowKit
set_option linter.unusedVariables false

end Go.Proofs.YtljmlacnfnmjbaaGreat
namespace Go.Proofs.YtljmlacnfnmjbaaGreat
open Go.RowKit
set_option linter.unusedVariables false

end Go.Proofs.YtljmlacnfnmjbaaGreat
namespace Go.Proofs.YtljmlacnfnmjbaaGreat
open Go.RowKit
set_option linter.unusedVariables false

end Go.Proofs.YtljmlacnfnmjbaaGreat
namespace Go.Proofs.YtljmlacnfnmjbaaGreat
open Go.RowKit
set_option linter.unusedVariables false

theorem RowIs.col1 {Q : Nat → Prop} {w : World} {a : Option Addr} {n c : Nat} {l : List Co} (h : RowIs eCol Q w (.slice a n c) l) {k : Nat} (hk : k < l.length) : ∃ b o,a = some ⟨b,o,none⟩ ∧ w.cell? ⟨b,o + k * 3,none⟩ = some (.string l[k].1) ∧ w.cell? ⟨b,o + k * 3 + 1,none⟩ = some (.int .i64 l[k].2.1) ∧ w.cell? ⟨b,o + k * 3 + 2,none⟩ = some (.string l[k].2.2) := by
 obtain ⟨ao,n0,c0,hv,hl,_,_,hx⟩ := h
 cases hv
 obtain ⟨b,o,ha,_,hi⟩ := hx (by omega)
 obtain ⟨cs,hcs,_,hc⟩ := hi k hk
 have hcs' : cs = [.string l[k].1,.int .i64 l[k].2.1,.string l[k].2.2] := hcs
 subst hcs'
 exact ⟨b,o,ha,hc 0 (show 0 < 3 by decide),hc 1 (show 1 < 3 by decide),hc 2 (show 2 < 3 by decide)⟩
end Go.Proofs.YtljmlacnfnmjbaaGreat
