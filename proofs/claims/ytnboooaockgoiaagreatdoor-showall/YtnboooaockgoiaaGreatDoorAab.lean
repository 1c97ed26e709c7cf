import Derived.Test.YtnboooaockgoiaaGreatDoorAaa
import Derived.Lib.ItoaLen
namespace Go.Proofs.YtnboooaockgoiaaGreatDoor
open Go.RowKit
set_option linter.unusedVariables false

theorem But.grown {g : Nat} {w w3 w4 : World} {row : Option Nat} (h : But g w w3) (hg : w3.grownBy w4 row) (hrow : ∀ k, row = some k → w.heap.size ≤ k) : But g w w4 :=
  ⟨hg.os.trans h.os, hg.tape.trans h.tape, hg.output.trans h.output, Nat.le_trans h.size hg.size, fun k hk hgk => (hg.block k (Nat.lt_of_lt_of_le hk h.size) (fun e => by have := hrow k e.symm; omega)).trans (h.block k hk hgk)⟩
theorem OwnR.blk {ty k B : Nat} {w : World} {v : Value} {css : List (List Value)} (h : OwnR ty k B w v css) : ∀ b, v.ownBlock = some b → B ≤ b ∧ b < w.heap.size := fun b e => World.ownsRow.lt h.2 b e

theorem Tryz.infoTExpr : (Tryz.prog.info? 43).map (fun i => (i.zero, i.size, i.bytes)) = some (some (.agg #[.int .i64 0, .int .i64 0, .int .i64 0, .string ⟨#[]⟩, .string ⟨#[]⟩, .string ⟨#[]⟩, .slice none 0 0]), 7, 96) := by kernel_rfl
end Go.Proofs.YtnboooaockgoiaaGreatDoor
namespace Go.Proofs.YtnboooaockgoiaaGreatDoor
open Go.RowKit
set_option linter.unusedVariables false

theorem Tryz.infoTTag : (Tryz.prog.info? 74).map (fun i => (i.zero, i.size, i.bytes)) = some (some (.int .u16 0), 1, 2) := by kernel_rfl
end Go.Proofs.YtnboooaockgoiaaGreatDoor
namespace Go.Proofs.YtnboooaockgoiaaGreatDoor
open Go.RowKit
set_option linter.unusedVariables false

theorem Tryz.infoTCol : (Tryz.prog.info? 62).map (fun i => (i.zero, i.size, i.bytes)) = some (some (.agg #[.string ⟨#[]⟩, .int .i64 0, .string ⟨#[]⟩]), 3, 40) := by kernel_rfl
end Go.Proofs.YtnboooaockgoiaaGreatDoor
namespace Go.Proofs.YtnboooaockgoiaaGreatDoor
open Go.RowKit
set_option linter.unusedVariables false

theorem Tryz.infoTItem : (Tryz.prog.info? 64).map (fun i => (i.zero, i.size, i.bytes)) = some (some (.agg #[.int .i64 0, .string ⟨#[]⟩, .string ⟨#[]⟩]), 3, 40) := by kernel_rfl
end Go.Proofs.YtnboooaockgoiaaGreatDoor
namespace Go.Proofs.YtnboooaockgoiaaGreatDoor
open Go.RowKit
set_option linter.unusedVariables false

theorem RowIs.later {α : Type} {e : Ek α} (he : 0 < e.k) {Q : Nat → Prop} {w w' : World} {v : Value} {l : List α} (h : RowIs e Q w v l) (hb : Below w.heap.size w w') : RowIs e Q w' v l := h.keep he fun b _ hlt => hb.block b hlt
end Go.Proofs.YtnboooaockgoiaaGreatDoor
namespace Go.Proofs.YtnboooaockgoiaaGreatDoor
open Go.RowKit
set_option linter.unusedVariables false

end Go.Proofs.YtnboooaockgoiaaGreatDoor
namespace Go.Proofs.YtnboooaockgoiaaGreatDoor
open Go.RowKit
set_option linter.unusedVariables false

end Go.Proofs.YtnboooaockgoiaaGreatDoor
namespace Go.Proofs.YtnboooaockgoiaaGreatDoor
open Go.RowKit
set_option linter.unusedVariables false

end Go.Proofs.YtnboooaockgoiaaGreatDoor
namespace Go.Proofs.YtnboooaockgoiaaGreatDoor
open Go.RowKit
set_option linter.unusedVariables false

/-- A slice's address, length, capacity. -/
abbrev Sl := Option Addr × Nat × Nat
abbrev slV (s : Sl) : Value := .slice s.1 s.2.1 s.2.2
/-- The cells of a statement. -/
structure Sv where
  k : Int
  tb : ByteArray
  nm : ByteArray
  co : Sl
  ta : Sl
  va : Sl
  it : Sl
  jn : ByteArray
  on : Sl
  wh : Sl
  od : Sl
  ds : Bool
  inn : Sl
def stV (s : Sv) : Value := .agg #[.int .i64 s.k, .string s.tb, .string s.nm, .slice s.co.1 s.co.2.1 s.co.2.2, .slice s.ta.1 s.ta.2.1 s.ta.2.2, .slice s.va.1 s.va.2.1 s.va.2.2, .slice s.it.1 s.it.2.1 s.it.2.2, .string s.jn, .slice s.on.1 s.on.2.1 s.on.2.2, .slice s.wh.1 s.wh.2.1 s.wh.2.2, .slice s.od.1 s.od.2.1 s.od.2.2, .bool s.ds, .slice s.inn.1 s.inn.2.1 s.inn.2.2]
def svC (s : Sv) : List Value := [.int .i64 s.k, .string s.tb, .string s.nm, .slice s.co.1 s.co.2.1 s.co.2.2, .slice s.ta.1 s.ta.2.1 s.ta.2.2, .slice s.va.1 s.va.2.1 s.va.2.2, .slice s.it.1 s.it.2.1 s.it.2.2, .string s.jn, .slice s.on.1 s.on.2.1 s.on.2.2, .slice s.wh.1 s.wh.2.1 s.wh.2.2, .slice s.od.1 s.od.2.1 s.od.2.2, .bool s.ds, .slice s.inn.1 s.inn.2.1 s.inn.2.2]
abbrev zS (k : Int) : Sv := ⟨k, ⟨#[]⟩, ⟨#[]⟩, (none, 0, 0), (none, 0, 0), (none, 0, 0), (none, 0, 0), ⟨#[]⟩, (none, 0, 0), (none, 0, 0), (none, 0, 0), false, (none, 0, 0)⟩
structure Bs (w : World) (b : Nat) (s : Sv) : Prop where
  row : w.heap[b]? = some (.cells #[.int .i64 s.k, .string s.tb, .string s.nm, .slice s.co.1 s.co.2.1 s.co.2.2, .slice s.ta.1 s.ta.2.1 s.ta.2.2, .slice s.va.1 s.va.2.1 s.va.2.2, .slice s.it.1 s.it.2.1 s.it.2.2, .string s.jn, .slice s.on.1 s.on.2.1 s.on.2.2, .slice s.wh.1 s.wh.2.1 s.wh.2.2, .slice s.od.1 s.od.2.1 s.od.2.2, .bool s.ds, .slice s.inn.1 s.inn.2.1 s.inn.2.2] 48 (0, 0))
theorem Bs.new (w : World) (s : Sv) : Bs (w.alloc (.cells #[.int .i64 s.k, .string s.tb, .string s.nm, .slice s.co.1 s.co.2.1 s.co.2.2, .slice s.ta.1 s.ta.2.1 s.ta.2.2, .slice s.va.1 s.va.2.1 s.va.2.2, .slice s.it.1 s.it.2.1 s.it.2.2, .string s.jn, .slice s.on.1 s.on.2.1 s.on.2.2, .slice s.wh.1 s.wh.2.1 s.wh.2.2, .slice s.od.1 s.od.2.1 s.od.2.2, .bool s.ds, .slice s.inn.1 s.inn.2.1 s.inn.2.2] 48)) w.heap.size s := ⟨heap_alloc_new w _⟩
theorem Bs.lt {w : World} {b : Nat} {s : Sv} (h : Bs w b s) : b < w.heap.size := (Array.getElem?_eq_some_iff.1 h.row).1
theorem Bs.keep {w w' : World} {b : Nat} {s : Sv} (h : Bs w b s) (hk : w'.heap[b]? = w.heap[b]?) : Bs w' b s := ⟨hk.trans h.row⟩
theorem Bs.later {w w' : World} {b : Nat} {s : Sv} (h : Bs w b s) (hb : Below w.heap.size w w') : Bs w' b s := h.keep (hb.block b h.lt)
theorem Bs.but {w w' : World} {b g : Nat} {s : Sv} (h : Bs w b s) (hb : But g w w') (hg : b ≠ g) : Bs w' b s := h.keep (hb.block b h.lt hg)
theorem Bs.cells {w : World} {b : Nat} {s : Sv} (h : Bs w b s) : w.cell? ⟨b, 0, none⟩ = some (.int .i64 s.k) ∧ w.cell? ⟨b, 1, none⟩ = some (.string s.tb) ∧ w.cell? ⟨b, 2, none⟩ = some (.string s.nm) ∧ w.cell? ⟨b, 3, none⟩ = some (.slice s.co.1 s.co.2.1 s.co.2.2) ∧ w.cell? ⟨b, 4, none⟩ = some (.slice s.ta.1 s.ta.2.1 s.ta.2.2) ∧ w.cell? ⟨b, 5, none⟩ = some (.slice s.va.1 s.va.2.1 s.va.2.2) ∧ w.cell? ⟨b, 6, none⟩ = some (.slice s.it.1 s.it.2.1 s.it.2.2) ∧ w.cell? ⟨b, 7, none⟩ = some (.string s.jn) ∧ w.cell? ⟨b, 8, none⟩ = some (.slice s.on.1 s.on.2.1 s.on.2.2) ∧ w.cell? ⟨b, 9, none⟩ = some (.slice s.wh.1 s.wh.2.1 s.wh.2.2) ∧ w.cell? ⟨b, 10, none⟩ = some (.slice s.od.1 s.od.2.1 s.od.2.2) ∧ w.cell? ⟨b, 11, none⟩ = some (.bool s.ds) ∧ w.cell? ⟨b, 12, none⟩ = some (.slice s.inn.1 s.inn.2.1 s.inn.2.2) := by
  unfold World.cell?; rw [h.row]; exact ⟨rfl, rfl, rfl, rfl, rfl, rfl, rfl, rfl, rfl, rfl, rfl, rfl, rfl⟩
theorem Bs.free {w : World} {b : Nat} {s : Sv} (h : Bs w b s) : w.frozen? ⟨b, 0, none⟩ = false ∧ w.frozen? ⟨b, 1, none⟩ = false ∧ w.frozen? ⟨b, 2, none⟩ = false ∧ w.frozen? ⟨b, 3, none⟩ = false ∧ w.frozen? ⟨b, 4, none⟩ = false ∧ w.frozen? ⟨b, 5, none⟩ = false ∧ w.frozen? ⟨b, 6, none⟩ = false ∧ w.frozen? ⟨b, 7, none⟩ = false ∧ w.frozen? ⟨b, 8, none⟩ = false ∧ w.frozen? ⟨b, 9, none⟩ = false ∧ w.frozen? ⟨b, 10, none⟩ = false ∧ w.frozen? ⟨b, 11, none⟩ = false ∧ w.frozen? ⟨b, 12, none⟩ = false := by
  unfold World.frozen?; rw [h.row]; exact ⟨rfl, rfl, rfl, rfl, rfl, rfl, rfl, rfl, rfl, rfl, rfl, rfl, rfl⟩
theorem Bs.other {w : World} {b : Nat} {s : Sv} (h : Bs w b s) {r : Nat} (hr : b ≠ r) (o : Nat) (v : Value) : Bs (w.setCell ⟨r, o, none⟩ v) b s := h.keep (Below.heap_setCell _ _ _ _ hr)
theorem Bs.set1 {w : World} {b : Nat} {s : Sv} (h : Bs w b s) (v : ByteArray) : Bs (w.setCell ⟨b, 1, none⟩ (.string v)) b { s with tb := v } := ⟨by simp [World.setCell, Array.getElem?_modify, h.row]⟩
theorem Bs.set2 {w : World} {b : Nat} {s : Sv} (h : Bs w b s) (v : ByteArray) : Bs (w.setCell ⟨b, 2, none⟩ (.string v)) b { s with nm := v } := ⟨by simp [World.setCell, Array.getElem?_modify, h.row]⟩
theorem Bs.set3 {w : World} {b : Nat} {s : Sv} (h : Bs w b s) (v : Sl) : Bs (w.setCell ⟨b, 3, none⟩ (.slice v.1 v.2.1 v.2.2)) b { s with co := v } := ⟨by simp [World.setCell, Array.getElem?_modify, h.row]⟩
theorem Bs.set4 {w : World} {b : Nat} {s : Sv} (h : Bs w b s) (v : Sl) : Bs (w.setCell ⟨b, 4, none⟩ (.slice v.1 v.2.1 v.2.2)) b { s with ta := v } := ⟨by simp [World.setCell, Array.getElem?_modify, h.row]⟩
theorem Bs.set5 {w : World} {b : Nat} {s : Sv} (h : Bs w b s) (v : Sl) : Bs (w.setCell ⟨b, 5, none⟩ (.slice v.1 v.2.1 v.2.2)) b { s with va := v } := ⟨by simp [World.setCell, Array.getElem?_modify, h.row]⟩
theorem Bs.set6 {w : World} {b : Nat} {s : Sv} (h : Bs w b s) (v : Sl) : Bs (w.setCell ⟨b, 6, none⟩ (.slice v.1 v.2.1 v.2.2)) b { s with it := v } := ⟨by simp [World.setCell, Array.getElem?_modify, h.row]⟩
theorem Bs.set7 {w : World} {b : Nat} {s : Sv} (h : Bs w b s) (v : ByteArray) : Bs (w.setCell ⟨b, 7, none⟩ (.string v)) b { s with jn := v } := ⟨by simp [World.setCell, Array.getElem?_modify, h.row]⟩
theorem Bs.set8 {w : World} {b : Nat} {s : Sv} (h : Bs w b s) (v : Sl) : Bs (w.setCell ⟨b, 8, none⟩ (.slice v.1 v.2.1 v.2.2)) b { s with on := v } := ⟨by simp [World.setCell, Array.getElem?_modify, h.row]⟩
theorem Bs.set9 {w : World} {b : Nat} {s : Sv} (h : Bs w b s) (v : Sl) : Bs (w.setCell ⟨b, 9, none⟩ (.slice v.1 v.2.1 v.2.2)) b { s with wh := v } := ⟨by simp [World.setCell, Array.getElem?_modify, h.row]⟩
theorem Bs.set10 {w : World} {b : Nat} {s : Sv} (h : Bs w b s) (v : Sl) : Bs (w.setCell ⟨b, 10, none⟩ (.slice v.1 v.2.1 v.2.2)) b { s with od := v } := ⟨by simp [World.setCell, Array.getElem?_modify, h.row]⟩
theorem Bs.set11 {w : World} {b : Nat} {s : Sv} (h : Bs w b s) (v : Bool) : Bs (w.setCell ⟨b, 11, none⟩ (.bool v)) b { s with ds := v } := ⟨by simp [World.setCell, Array.getElem?_modify, h.row]⟩
theorem Bs.set12 {w : World} {b : Nat} {s : Sv} (h : Bs w b s) (v : Sl) : Bs (w.setCell ⟨b, 12, none⟩ (.slice v.1 v.2.1 v.2.2)) b { s with inn := v } := ⟨by simp [World.setCell, Array.getElem?_modify, h.row]⟩
def set13 (w : World) (b : Nat) (s : Sv) : World := (((((((((((((w.setCell ⟨b, 0, none⟩ (.int .i64 s.k)).setCell ⟨b, 1, none⟩ (.string s.tb)).setCell ⟨b, 2, none⟩ (.string s.nm)).setCell ⟨b, 3, none⟩ (.slice s.co.1 s.co.2.1 s.co.2.2)).setCell ⟨b, 4, none⟩ (.slice s.ta.1 s.ta.2.1 s.ta.2.2)).setCell ⟨b, 5, none⟩ (.slice s.va.1 s.va.2.1 s.va.2.2)).setCell ⟨b, 6, none⟩ (.slice s.it.1 s.it.2.1 s.it.2.2)).setCell ⟨b, 7, none⟩ (.string s.jn)).setCell ⟨b, 8, none⟩ (.slice s.on.1 s.on.2.1 s.on.2.2)).setCell ⟨b, 9, none⟩ (.slice s.wh.1 s.wh.2.1 s.wh.2.2)).setCell ⟨b, 10, none⟩ (.slice s.od.1 s.od.2.1 s.od.2.2)).setCell ⟨b, 11, none⟩ (.bool s.ds)).setCell ⟨b, 12, none⟩ (.slice s.inn.1 s.inn.2.1 s.inn.2.2))
theorem But.set13 {g : Nat} {a w : World} (h : But g a w) {b : Nat} (hb : a.heap.size ≤ b) (s : Sv) : But g a (set13 w b s) := (((((((((((((h.new hb 0 _).new hb 1 _).new hb 2 _).new hb 3 _).new hb 4 _).new hb 5 _).new hb 6 _).new hb 7 _).new hb 8 _).new hb 9 _).new hb 10 _).new hb 11 _).new hb 12 _)
theorem set13_heap (w : World) (b : Nat) (s : Sv) {k : Nat} (hk : k ≠ b) : (set13 w b s).heap[k]? = w.heap[k]? := by
  unfold set13
  rw [Below.heap_setCell _ _ _ _ hk, Below.heap_setCell _ _ _ _ hk, Below.heap_setCell _ _ _ _ hk, Below.heap_setCell _ _ _ _ hk, Below.heap_setCell _ _ _ _ hk, Below.heap_setCell _ _ _ _ hk, Below.heap_setCell _ _ _ _ hk, Below.heap_setCell _ _ _ _ hk, Below.heap_setCell _ _ _ _ hk, Below.heap_setCell _ _ _ _ hk, Below.heap_setCell _ _ _ _ hk, Below.heap_setCell _ _ _ _ hk, Below.heap_setCell _ _ _ _ hk]

/-- The cells are the statement. -/
structure IsS (Q : Nat → Prop) (w : World) (m : Sm) (s : Sv) : Prop where
  k : s.k = m.kind
  tb : s.tb = m.table
  nm : s.nm = m.name
  co : RowIs eCol Q w (slV s.co) m.cols
  ta : RowIs eTag Q w (slV s.ta) m.tags
  va : RowIs eExpr Q w (slV s.va) m.values
  it : RowIs eItem Q w (slV s.it) m.items
  jn : s.jn = m.join
  on : RowIs eExpr Q w (slV s.on) m.on
  wh : RowIs eExpr Q w (slV s.wh) m.wh
  od : RowIs eExpr Q w (slV s.od) m.order
  ds : s.ds = m.desc
theorem IsS.keep {Q : Nat → Prop} {w w' : World} {m : Sm} {s : Sv} (hk : ∀ b, Q b → b < w.heap.size → w'.heap[b]? = w.heap[b]?) (h : IsS Q w m s) : IsS Q w' m s :=
  ⟨h.k, h.tb, h.nm, h.co.keep (by decide) hk, h.ta.keep (by decide) hk, h.va.keep (by decide) hk, h.it.keep (by decide) hk, h.jn, h.on.keep (by decide) hk, h.wh.keep (by decide) hk, h.od.keep (by decide) hk, h.ds⟩
theorem IsS.mono {Q Q' : Nat → Prop} {w : World} {m : Sm} {s : Sv} (hk : ∀ b, Q b → b < w.heap.size → Q' b) (h : IsS Q w m s) : IsS Q' w m s :=
  ⟨h.k, h.tb, h.nm, h.co.mono (by decide) hk, h.ta.mono (by decide) hk, h.va.mono (by decide) hk, h.it.mono (by decide) hk, h.jn, h.on.mono (by decide) hk, h.wh.mono (by decide) hk, h.od.mono (by decide) hk, h.ds⟩
theorem IsS.zero (Q : Nat → Prop) (w : World) (k : Int) : IsS Q w (sm k) (zS k) :=
  ⟨rfl, rfl, rfl, RowIs.nil _ _ _, RowIs.nil _ _ _, RowIs.nil _ _ _, RowIs.nil _ _ _, rfl, RowIs.nil _ _ _, RowIs.nil _ _ _, RowIs.nil _ _ _, rfl⟩
def eStmt : Ek Sm := ⟨13, fun Q w m cs => ∃ s, cs = svC s ∧ IsS Q w m s ∧ s.inn = (none, 0, 0), fun hk ⟨s, h1, h2, h3⟩ => ⟨s, h1, h2.keep hk, h3⟩, fun hk ⟨s, h1, h2, h3⟩ => ⟨s, h1, h2.mono hk, h3⟩⟩
/-- A statement, and those that stand in it. -/
abbrev Sf := Sm × List Sm
def up_tb (m : Sm) (x : ByteArray) : Sm := { m with table := x }
def up_nm (m : Sm) (x : ByteArray) : Sm := { m with name := x }
def up_co (m : Sm) (x : List Co) : Sm := { m with cols := x }
def up_ta (m : Sm) (x : List Int) : Sm := { m with tags := x }
def up_va (m : Sm) (x : List Tr) : Sm := { m with values := x }
def up_it (m : Sm) (x : List It) : Sm := { m with items := x }
def up_wh (m : Sm) (x : List Tr) : Sm := { m with wh := x }
end Go.Proofs.YtnboooaockgoiaaGreatDoor
namespace Go.Proofs.YtnboooaockgoiaaGreatDoor
open Go.RowKit
set_option linter.unusedVariables false

end Go.Proofs.YtnboooaockgoiaaGreatDoor
namespace Go.Proofs.YtnboooaockgoiaaGreatDoor
open Go.RowKit
set_option linter.unusedVariables false

def up_jo (m : Sm) (x : ByteArray × List Tr) : Sm := { m with join := x.1, on := x.2 }
def up_oo (m : Sm) (x : List Tr × Bool) : Sm := { m with order := x.1, desc := x.2 }
end Go.Proofs.YtnboooaockgoiaaGreatDoor
namespace Go.Proofs.YtnboooaockgoiaaGreatDoor
open Go.RowKit
set_option linter.unusedVariables false

end Go.Proofs.YtnboooaockgoiaaGreatDoor
namespace Go.Proofs.YtnboooaockgoiaaGreatDoor
open Go.RowKit
set_option linter.unusedVariables false

end Go.Proofs.YtnboooaockgoiaaGreatDoor
namespace Go.Proofs.YtnboooaockgoiaaGreatDoor
open Go.RowKit
set_option linter.unusedVariables false

end Go.Proofs.YtnboooaockgoiaaGreatDoor
namespace Go.Proofs.YtnboooaockgoiaaGreatDoor
open Go.RowKit
set_option linter.unusedVariables false

end Go.Proofs.YtnboooaockgoiaaGreatDoor
namespace Go.Proofs.YtnboooaockgoiaaGreatDoor
open Go.RowKit
set_option linter.unusedVariables false

end Go.Proofs.YtnboooaockgoiaaGreatDoor
namespace Go.Proofs.YtnboooaockgoiaaGreatDoor
open Go.RowKit
set_option linter.unusedVariables false

theorem RowIs.num {α : Type} {e : Ek α} {Q : Nat → Prop} {w : World} {s : Sl} {l : List α} (h : RowIs e Q w (slV s) l) : s.2.1 = l.length ∧ s.2.1 ≤ s.2.2 ∧ s.2.2 ≤ 9223372036854775807 := by
  obtain ⟨ao, n, c, hv, hl, hn, hc, _⟩ := h
  simp only [Value.slice.injEq] at hv
  obtain ⟨_, h2, h3⟩ := hv
  omega

end Go.Proofs.YtnboooaockgoiaaGreatDoor
namespace Go.Proofs.YtnboooaockgoiaaGreatDoor
open Go.RowKit
set_option linter.unusedVariables false

theorem RowIs.at {Q : Nat → Prop} {w : World} {a : Option Addr} {n c : Nat} {l : List Tr} (h : RowIs eExpr Q w (.slice a n c) l) {k : Nat} (hk : k < l.length) : ∃ b o op p a' n' c', a = some ⟨b, o, none⟩ ∧ Ce w b (o + k * 7) op p (.slice a' n' c') ∧ Ex Q w l[k] (exV op p (.slice a' n' c')) := by
  obtain ⟨ao, n0, c0, hv, hl, _, _, hx⟩ := h
  cases hv
  obtain ⟨b, o, ha, _, hi⟩ := hx (by omega)
  obtain ⟨cs, ⟨op, p, a', n', c', rfl, hE⟩, _, hc⟩ := hi k hk
  refine ⟨b, o, op, p, a', n', c', ha, ?_, hE⟩
  exact ⟨hc 0 (show 0 < 7 by decide), hc 1 (show 1 < 7 by decide), hc 2 (show 2 < 7 by decide), hc 3 (show 3 < 7 by decide), hc 4 (show 4 < 7 by decide), hc 5 (show 5 < 7 by decide), hc 6 (show 6 < 7 by decide)⟩

end Go.Proofs.YtnboooaockgoiaaGreatDoor
namespace Go.Proofs.YtnboooaockgoiaaGreatDoor
open Go.RowKit
set_option linter.unusedVariables false

theorem RowIs.len {α : Type} {e : Ek α} {Q : Nat → Prop} {w : World} {a : Option Addr} {n c : Nat} {l : List α} (h : RowIs e Q w (.slice a n c) l) : l.length = n ∧ n ≤ c ∧ c ≤ 9223372036854775807 := by
  obtain ⟨ao, n0, c0, hv, hl, h1, h2, hx⟩ := h
  cases hv
  exact ⟨hl, h1, h2⟩
theorem at_one {w : World} {b o k : Nat} {v : Option Value} (h : w.cell? ⟨b, o + k * 1 + 0, none⟩ = v) : w.cell? ⟨b, o + k, none⟩ = v := by rw [Nat.mul_one, Nat.add_zero] at h; exact h

end Go.Proofs.YtnboooaockgoiaaGreatDoor
namespace Go.Proofs.YtnboooaockgoiaaGreatDoor
open Go.RowKit
set_option linter.unusedVariables false

theorem cat_lists (l m : List UInt8) : (⟨l.toArray⟩ : ByteArray) ++ ⟨m.toArray⟩ = ⟨(l ++ m).toArray⟩ := by
  apply ByteArray.ext
  simp [ByteArray.data_append]
theorem str_index (s : ByteArray) (r : Nat) (h : r < s.size) (w : World) : (Instr.index 9 (.string s) (.int .i64 (r : Int))).run Tryz.prog w = .ok (.int .u8 (s[r].toNat : Int)) w := by go_simp
theorem sz_mk (l : List UInt8) : (⟨l.toArray⟩ : ByteArray).size = l.length := by show l.toArray.size = _; rw [List.size_toArray]

end Go.Proofs.YtnboooaockgoiaaGreatDoor

/- The walk of the document's letters. -/
namespace Go.Proofs.YtnboooaockgoiaaGreatDoor
open Go.RowKit
set_option linter.unusedVariables false

end Go.Proofs.YtnboooaockgoiaaGreatDoor

/- The walk of the document's own Parse. -/
namespace Go.Proofs.YtnboooaockgoiaaGreatDoor
open Go.RowKit
set_option linter.unusedVariables false

end Go.Proofs.YtnboooaockgoiaaGreatDoor

/- The walks of the document's one: a name, a number. -/
namespace Go.Proofs.YtnboooaockgoiaaGreatDoor
open Go.RowKit
set_option linter.unusedVariables false

end Go.Proofs.YtnboooaockgoiaaGreatDoor

/- The walks of the document's one: a text value, a sign. -/
namespace Go.Proofs.YtnboooaockgoiaaGreatDoor
open Go.RowKit
set_option linter.unusedVariables false

end Go.Proofs.YtnboooaockgoiaaGreatDoor

/- The walks of the document's one and Lex. -/
namespace Go.Proofs.YtnboooaockgoiaaGreatDoor
open Go.RowKit
set_option linter.unusedVariables false

end Go.Proofs.YtnboooaockgoiaaGreatDoor
namespace Go.Proofs.YtnboooaockgoiaaGreatDoor
open Go.RowKit
set_option linter.unusedVariables false

theorem ret_u64 {a b : Int} (h : a = b) : Ending.returned (.int .u64 a) = .returned (.int .u64 b) := by rw [h]

set_option maxRecDepth 100000 in
theorem size_any (a : Int) (ha : Fits a) (w : World) : Calls Tryz.prog 84 #[.int .i64 a] w fun e w' => e = .returned (.int .u64 a.natAbs) ∧ w' = w := by
  obtain ⟨a1, a2⟩ := ha
  by_cases h0 : a < 0
  · have g1 : decide (a < 0) = true := by simpa using h0
    go_enter Tryz.func84, Tryz.ntmps84
    go_wp2
    go_ret
    exact ⟨ret_u64 (show -(a + 1) + 1 = _ by omega), rfl⟩
  · have g1 : decide (a < 0) = false := by simpa using h0
    go_enter Tryz.func84, Tryz.ntmps84
    go_wp2
    go_ret
    exact ⟨ret_u64 (show a = _ by omega), rfl⟩

end Go.Proofs.YtnboooaockgoiaaGreatDoor
namespace Go.Proofs.YtnboooaockgoiaaGreatDoor
open Go.RowKit
set_option linter.unusedVariables false


/-- How far the digits are told: t is what stands there, r what is left of m. -/
def Shown (m : Nat) (t : List UInt8) (r : Nat) : Prop := (t = [] ∧ r = m) ∨ (t ≠ [] ∧ ((r = 0 ∧ t = Lib.decDigits m) ∨ (0 < r ∧ Lib.decDigits r ++ t = Lib.decDigits m)))
/-- For the measure: a text with nothing in it counts one. -/
def bare : Value → Nat | .string s => if s.size = 0 then 1 else 0 | _ => 0

theorem bare_nil : bare (.string ⟨#[]⟩) = 1 := rfl
theorem bare_cons (x : UInt8) (t : List UInt8) : bare (.string ⟨(x :: t).toArray⟩) = 0 := by simp [bare, ByteArray.size]
theorem dec_one {u : Nat} (h : u < 10) : Lib.decDigits u = [UInt8.ofNat (48 + u)] := Lib.decDigits_one h
theorem dec_more {u : Nat} (h : ¬ u < 10) : Lib.decDigits u = Lib.decDigits (u / 10) ++ [UInt8.ofNat (48 + u % 10)] := by rw [Lib.decDigits, dif_neg h]

/-- The last digit of r. -/
def dgt (r : Nat) : UInt8 := UInt8.ofNat (48 + r % 10)
theorem dgt_nat (r : Nat) : ((dgt r).toNat : Int) = 48 + (r : Int) % 10 := by
  have : (UInt8.ofNat (48 + r % 10)).toNat = 48 + r % 10 := by rw [UInt8.toNat_ofNat']; omega
  rw [dgt, this]; omega
theorem cat_str (x : UInt8) (t : List UInt8) : (⟨#[x]⟩ : ByteArray) ++ ⟨t.toArray⟩ = ⟨(x :: t).toArray⟩ := by
  apply ByteArray.ext
  simp [ByteArray.data_append]

theorem shown_step {m r : Nat} {t : List UInt8} (h : Shown m t r) (hgo : 0 < r ∨ t = []) : Shown m (dgt r :: t) (r / 10) := by
  rw [dgt]
  refine .inr ⟨by simp, ?_⟩
  rcases h with ⟨rfl, rfl⟩ | ⟨ht, ⟨rfl, rfl⟩ | ⟨hr, he⟩⟩
  · by_cases h10 : r < 10
    · exact .inl ⟨by omega, by rw [dec_one h10, Nat.mod_eq_of_lt h10]⟩
    · exact .inr ⟨by omega, by rw [dec_more h10]⟩
  · rcases hgo with hgo | hgo
    · omega
    · exact absurd hgo ht
  · by_cases h10 : r < 10
    · exact .inl ⟨by omega, by rw [← he, dec_one h10, Nat.mod_eq_of_lt h10]; rfl⟩
    · exact .inr ⟨by omega, by rw [← he, dec_more h10]; simp⟩

theorem shown_end {m r : Nat} {t : List UInt8} (h : Shown m t r) (hr : r = 0) (ht : t ≠ []) : t = Lib.decDigits m := by
  rcases h with ⟨rfl, _⟩ | ⟨_, ⟨_, h⟩ | ⟨h, _⟩⟩
  · exact absurd rfl ht
  · exact h
  · omega

theorem shown_len {m r : Nat} {t : List UInt8} (h : Shown m t r) : t.length ≤ (Lib.decDigits m).length := by
  rcases h with ⟨rfl, _⟩ | ⟨_, ⟨_, rfl⟩ | ⟨_, h⟩⟩
  · simp
  · simp
  · rw [← h]; simp

/-- A slice of one byte, made a text. -/
theorem one_byte (w : World) (r : Nat) : (convert 22 9 (.slice (some ⟨w.heap.size, 0, none⟩) 1 1)).run Tryz.prog (w.alloc (.cells #[.int .u8 (48 + (r : Int) % 10)] 5)) = .ok (.string ⟨#[dgt r]⟩) (w.alloc (.cells #[.int .u8 (48 + (r : Int) % 10)] 5)) := by
  refine run_convert_bytes_back (P := Tryz.prog) (w.alloc (.cells #[.int .u8 (48 + (r : Int) % 10)] 5)) 22 9 5 ⟨w.heap.size, 0, none⟩ 1 [dgt r] Tryz.underlying22 Tryz.underlying5 Tryz.underlying9 ?_
  intro j hj
  obtain rfl : j = 0 := by simpa using hj
  rw [List.getElem_cons_zero, dgt_nat]
  simp [Addr.add, World.cell?_alloc_at]

theorem dec_len {m : Nat} (h : m ≤ 9223372036854775808) : (Lib.decDigits m).length ≤ 21 := by
  have := Lib.itoa_length_le (-(m : Int)) (by omega) (by omega)
  by_cases h0 : 1 ≤ m
  · rw [Lib.itoa_neg m h0] at this
    simp at this
    omega
  · obtain rfl : m = 0 := by omega
    simp [dec_one]

theorem itoa_neg' {a : Int} {m : Nat} (hm : a.natAbs = m) (h : a < 0) : Lib.itoa a = 45 :: Lib.decDigits m := by rw [Lib.itoa, if_pos h, hm]
theorem itoa_pos' {a : Int} {m : Nat} (hm : a.natAbs = m) (h : ¬ a < 0) : Lib.itoa a = Lib.decDigits m := by rw [Lib.itoa, if_neg h, ← hm]; congr 1; omega
theorem ret_str {a b : ByteArray} (h : a = b) : Ending.returned (.string a) = .returned (.string b) := by rw [h]

set_option maxRecDepth 100000 in
theorem refShow_any (a : Int) (ha : Fits a) (w : World) : Calls Tryz.prog 46 #[.int .i64 a] w fun e w' => e = .returned (.string ⟨(Lib.itoa a).toArray⟩) ∧ Below w.heap.size w w' := by
  have HS : Hid _ := size_any a ha w
  generalize hm : a.natAbs = m at HS
  have hm64 : m ≤ 9223372036854775808 := by unfold Fits at ha; omega
  have hml := dec_len hm64
  replace hm : Hid _ := hm
  clear ha
  go_enter Tryz.func46, Tryz.ntmps46
  go_wp2_with fail
  refine Calls.mono HS.out ?_
  rintro e w' ⟨rfl, rfl⟩
  clear HS
  go_wp2
  go_loopw [3, 4] (fun s n wr => ∃ (t : List UInt8) (r : Nat), s = .string ⟨t.toArray⟩ ∧ n = .int .u64 r ∧ r ≤ m ∧ Shown m t r ∧ Below w'.heap.size w' wr) (fun s n _ => (intOf n).toNat + bare s)
  case atStart => exact ⟨[], m, rfl, rfl, Nat.le_refl _, .inl ⟨rfl, rfl⟩, Below.refl _ _⟩
  case round =>
    obtain ⟨t, r, rfl, rfl, hr, hS, hb⟩ := hrel
    have hlen : t.length ≤ 21 := Nat.le_trans (shown_len hS) hml
    have hc := one_byte wr r
    by_cases hr0 : r = 0
    · subst hr0
      cases t with
      | nil =>
        have hc0 : (convert 22 9 (.slice (some ⟨wr.heap.size, 0, none⟩) 1 1)).run Tryz.prog (wr.alloc (.cells #[.int .u8 48] 5)) = .ok (.string ⟨#[dgt 0]⟩) (wr.alloc (.cells #[.int .u8 48] 5)) := hc
        have hnext : Hid _ := shown_step hS (.inr rfl)
        clear hc hS
        go_wp2
        rw [cat_str]
        go_roundw
        case rel => exact ⟨_, _, rfl, rfl, Nat.zero_le _, hnext.out, hb.alloc hb.size _⟩
        case measure => simp only [intOf, bare_nil, bare_cons]; omega
      | cons x t =>
        have hend : Hid _ := shown_end hS rfl (by simp)
        have hlen' : t.length ≤ 20 := by simpa using hlen
        have hno : ¬ 9223372036854775807 < 1 + (t.length + 1) := by omega
        clear hc hS hlen
        by_cases h0 : a < 0
        · have g1 : decide (a < 0) = true := by simpa using h0
          go_wp2
          rw [cat_str]
          go_ret
          exact ⟨ret_str (by rw [itoa_neg' hm.out h0, hend.out]), hb⟩
        · have g1 : decide (a < 0) = false := by simpa using h0
          go_wp2
          go_ret
          exact ⟨ret_str (by rw [itoa_pos' hm.out (by omega), hend.out]), hb⟩
    · have g1 : decide ((0 : Int) < (r : Int)) = true := by simp; omega
      have g2 : decide (0 < r) = true := by simp; omega
      have hnext : Hid _ := shown_step hS (.inl (by omega))
      clear hS
      go_wp2
      rw [cat_str]
      go_roundw
      case rel => exact ⟨_, r / 10, rfl, by go_num, by omega, hnext.out, hb.alloc hb.size _⟩
      case measure => simp only [intOf, bare_cons]; omega
end Go.Proofs.YtnboooaockgoiaaGreatDoor
namespace Go.Proofs.YtnboooaockgoiaaGreatDoor
open Go.RowKit
set_option linter.unusedVariables false

/-- Each mark twice. -/
def dblQ : List UInt8 → List UInt8
  | [] => []
  | x :: r => if x.toNat = 39 then x :: 39 :: dblQ r else x :: dblQ r
theorem dblQ_snoc (l : List UInt8) (x : UInt8) : dblQ (l ++ [x]) = dblQ l ++ (if x.toNat = 39 then [x, 39] else [x]) := by
  induction l with
  | nil => simp only [List.nil_append, dblQ]
  | cons y l ih =>
    rw [List.cons_append, dblQ, dblQ, ih]
    split <;> simp
theorem dblQ_len (l : List UInt8) : (dblQ l).length ≤ 2 * l.length := by
  induction l with
  | nil => exact Nat.le_refl _
  | cons y l ih =>
    rw [dblQ]
    split <;> simp <;> omega
/-- A text in its marks. -/
def quB (s : ByteArray) : ByteArray := ⟨(39 :: dblQ (bs s) ++ [39]).toArray⟩
def vaB (p : Pay) : ByteArray := if p.1 = 1 then ⟨(Lib.itoa p.2.1).toArray⟩ else quB p.2.2.1
def coB (t n : ByteArray) : ByteArray := if t = ⟨#[]⟩ then n else (t ++ ⟨#[46]⟩) ++ n

theorem str_one (s : ByteArray) (hs : s.size ≤ 1000000) (k : Nat) (h : k < s.size) (w : World) : (Instr.slice 9 (.string s) (some (.int .i64 (k : Int))) (some (.int .i64 ((k : Int) + 1))) none).run Tryz.prog w = .ok (.string ⟨#[s[k]]⟩) w := by
  have e : s.extract k (k + 1) = ⟨#[s[k]]⟩ := by
    apply ByteArray.ext
    apply Array.toList_inj.1
    have := bs_extract s k (k + 1)
    rw [bs, Nat.add_sub_cancel_left, drop_at h] at this
    exact this
  rw [← e]
  obtain ⟨m, hm⟩ : ∃ m, m = k + 1 := ⟨_, rfl⟩
  have hm2 : (k : Int) + 1 = (m : Int) := by omega
  rw [hm2, ← hm]
  have h1 : k ≤ m := by omega
  have h2 : m ≤ s.size := by omega
  clear hm hm2 e h
  go_simp
theorem bs_take_succ {s : ByteArray} {k : Nat} (h : k < s.size) : (bs s).take (k + 1) = (bs s).take k ++ [s[k]] := by
  have hl : k < (bs s).length := by rw [bs_length]; exact h
  rw [List.take_succ_eq_append_getElem hl]
  rfl

set_option maxRecDepth 100000 in
set_option maxHeartbeats 2000000 in
theorem fQuoted_any (s : ByteArray) (hs : s.size ≤ 1000000) (w : World) : Calls Tryz.prog 47 #[.string s] w fun e w' => e = .returned (.string (quB s)) ∧ Below w.heap.size w w' := by
  have HQ : Hid (quB s = ⟨(39 :: dblQ (bs s) ++ [39]).toArray⟩) := hid rfl
  generalize quB s = RR at *
  go_enter Tryz.func47, Tryz.ntmps47
  go_wp2
  go_loopw [3, 4] (fun o i wr => ∃ (k : Nat) (S : ByteArray), k ≤ s.size ∧ o = .string S ∧ i = .int .i64 k ∧ S.size ≤ 2 * k + 1 ∧ Hid (S = ⟨(39 :: dblQ ((bs s).take k)).toArray⟩) ∧ wr = w) (fun _ i _ => s.size - (intOf i).toNat)
  case atStart => exact ⟨0, ⟨#[39]⟩, Nat.zero_le _, rfl, rfl, by decide, hid rfl, rfl⟩
  case round =>
    obtain ⟨k, S, hk, rfl, rfl, hz, HS, rfl⟩ := hrel
    by_cases hlt : k < s.size
    · have hsl := str_one s hs k hlt
      have hix := str_index s k hlt
      have hwr : IntKind.i64.wrap (k : Int) = k := by rw [IntKind.wrap_i64]; omega
      have HN : Hid _ := hid (dblQ_snoc ((bs s).take k) s[k])
      rw [← bs_take_succ hlt] at HN
      by_cases h39 : s[k].toNat = 39
      · have g3 : ((s[k].toNat : Int) == 39) = true := by simp; omega
        have HS2 : Hid ((S ++ ⟨#[s[k]]⟩) ++ ⟨#[39]⟩ = ⟨(39 :: dblQ ((bs s).take (k + 1))).toArray⟩) := hid (by
          have a1 : (⟨(39 :: dblQ ((bs s).take k)).toArray⟩ : ByteArray) ++ ⟨#[s[k]]⟩ = ⟨((39 :: dblQ ((bs s).take k)) ++ [s[k]]).toArray⟩ := cat_lists _ [s[k]]
          have a2 : (⟨((39 :: dblQ ((bs s).take k)) ++ [s[k]]).toArray⟩ : ByteArray) ++ ⟨#[39]⟩ = ⟨(((39 :: dblQ ((bs s).take k)) ++ [s[k]]) ++ [39]).toArray⟩ := cat_lists _ [39]
          rw [HN.out, if_pos h39, HS.out, a1, a2]
          simp)
        have hz2 : ((S ++ ⟨#[s[k]]⟩) ++ ⟨#[39]⟩ : ByteArray).size ≤ 2 * (k + 1) + 1 := by
          rw [ByteArray.size_append, ByteArray.size_append, show (⟨#[s[k]]⟩ : ByteArray).size = 1 from rfl, show (⟨#[39]⟩ : ByteArray).size = 1 from rfl]; omega
        have hc1 : (⟨#[s[k]]⟩ : ByteArray).size = 1 := rfl
        clear h39 HS HN
        generalize (⟨#[s[k]]⟩ : ByteArray) = C at *
        go_wp2
        go_roundw
        case rel => exact ⟨k + 1, _, by omega, rfl, by go_num, hz2, HS2, by first | rfl | trivial⟩
        case measure => simp only [intOf]; omega
      · have g3 : ((s[k].toNat : Int) == 39) = false := by simp; omega
        have HS2 : Hid (S ++ ⟨#[s[k]]⟩ = ⟨(39 :: dblQ ((bs s).take (k + 1))).toArray⟩) := hid (by
          have a1 : (⟨(39 :: dblQ ((bs s).take k)).toArray⟩ : ByteArray) ++ ⟨#[s[k]]⟩ = ⟨((39 :: dblQ ((bs s).take k)) ++ [s[k]]).toArray⟩ := cat_lists _ [s[k]]
          rw [HN.out, if_neg h39, HS.out, a1]
          simp)
        have hz2 : (S ++ ⟨#[s[k]]⟩ : ByteArray).size ≤ 2 * (k + 1) + 1 := by
          rw [ByteArray.size_append, show (⟨#[s[k]]⟩ : ByteArray).size = 1 from rfl]; omega
        have hc1 : (⟨#[s[k]]⟩ : ByteArray).size = 1 := rfl
        clear h39 HS HN
        generalize (⟨#[s[k]]⟩ : ByteArray) = C at *
        go_wp2
        go_roundw
        case rel => exact ⟨k + 1, _, by omega, rfl, by go_num, hz2, HS2, by first | rfl | trivial⟩
        case measure => simp only [intOf]; omega
    · obtain rfl : k = s.size := by omega
      have HE : Hid (S ++ ⟨#[39]⟩ = RR) := hid (by
        have a1 : (⟨(39 :: dblQ (bs s)).toArray⟩ : ByteArray) ++ ⟨#[39]⟩ = ⟨((39 :: dblQ (bs s)) ++ [39]).toArray⟩ := cat_lists _ [39]
        rw [HQ.out, HS.out, List.take_of_length_le (by rw [bs_length]; exact Nat.le_refl _), a1])
      clear HS HQ
      go_wp2
      go_ret
      exact ⟨by rw [HE.out]; rfl, Below.refl _ _⟩
theorem quB_size (s : ByteArray) : (quB s).size ≤ 2 * s.size + 2 := by
  have h := dblQ_len (bs s)
  rw [bs_length] at h
  rw [quB, sz_mk]
  simp
  omega

set_option maxRecDepth 100000 in
set_option maxHeartbeats 1000000 in
theorem fValue_any (p : Pay) (hf : Fits p.2.1) (hs : p.2.2.1.size ≤ 1000000) (w : World) : Calls Tryz.prog 29 #[.agg #[.int .i64 p.1, .int .i64 p.2.1, .string p.2.2.1]] w fun e w' => e = .returned (.string (vaB p)) ∧ Below w.heap.size w w' := by
  obtain ⟨k, i, s, t, n⟩ := p
  have HI : Hid (∀ w, _) := hid fun w => refShow_any i hf w
  have HQ : Hid (∀ w, _) := hid fun w => fQuoted_any s hs w
  have HV : Hid (vaB (k, i, s, t, n) = if k = 1 then ⟨(Lib.itoa i).toArray⟩ else quB s) := hid rfl
  generalize vaB (k, i, s, t, n) = RR at *
  by_cases hk : k = 1
  · subst hk
    have E : Hid _ := hid (HV.out.trans (if_pos rfl))
    generalize (⟨(Lib.itoa i).toArray⟩ : ByteArray) = D at *
    clear HV HQ
    go_enter Tryz.func29, Tryz.ntmps29
    go_wp2_with fail
    refine Calls.mono (HI.out _) ?_
    rintro e w1 ⟨rfl, hb1⟩
    have hB := Below.on (bal (Below.refl _ w) _) hb1
    clear HI hb1
    go_wp2
    go_ret
    exact ⟨by rw [E.out]; rfl, hB⟩
  · have g1 : (k == 1) = false := by simpa using hk
    have E : Hid _ := hid (HV.out.trans (if_neg hk))
    generalize quB s = D at *
    clear HV HI hk
    go_enter Tryz.func29, Tryz.ntmps29
    go_wp2_with fail
    refine Calls.mono (HQ.out _) ?_
    rintro e w1 ⟨rfl, hb1⟩
    have hB := Below.on (bal (Below.refl _ w) _) hb1
    clear HQ hb1
    go_wp2
    go_ret
    exact ⟨by rw [E.out]; rfl, hB⟩

set_option maxRecDepth 100000 in
set_option maxHeartbeats 1000000 in
theorem fCol2_any (t n : ByteArray) (ht : t.size ≤ 1000000) (hn : n.size ≤ 1000000) (w : World) : Calls Tryz.prog 30 #[.string t, .string n] w fun e w' => e = .returned (.string (coB t n)) ∧ Below w.heap.size w w' := by
  have hs : (t.toList == (⟨#[]⟩ : ByteArray).toList) = eqS t ⟨#[]⟩ := same_str t ⟨#[]⟩
  by_cases h : t = ⟨#[]⟩
  · subst h
    have E : Hid (coB ⟨#[]⟩ n = n) := hid (if_pos rfl)
    generalize coB ⟨#[]⟩ n = RR at *
    go_enter Tryz.func30, Tryz.ntmps30
    go_wp2
    go_ret
    exact ⟨by rw [E.out]; rfl, Below.refl _ _⟩
  · have E : Hid (coB t n = (t ++ ⟨#[46]⟩) ++ n) := hid (if_neg h)
    have he : eqS t ⟨#[]⟩ = false := by
      cases hc : eqS t ⟨#[]⟩ with
      | false => rfl
      | true => exact absurd (by simpa [eqS] using hc) h
    rw [he] at hs
    have e0 : (⟨#[]⟩ : ByteArray).toList = [] := by rw [ByteArray.toList_eq]
    have hi : t.toList.isEmpty = false := by
      rw [e0] at hs
      cases hl : t.toList with
      | nil => rw [hl] at hs; cases hs
      | cons x l => rfl
    generalize coB t n = RR at *
    clear h he e0 hs
    go_enter Tryz.func30, Tryz.ntmps30
    go_wp2
    go_ret
    exact ⟨by rw [E.out]; rfl, Below.refl _ _⟩

end Go.Proofs.YtnboooaockgoiaaGreatDoor
