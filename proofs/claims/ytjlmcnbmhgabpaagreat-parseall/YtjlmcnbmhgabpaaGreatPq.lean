/- Statements in memory; the steps by which they are filled. -/
import Derived.Test.YtjlmcnbmhgabpaaGreatPp
namespace Go.Proofs.YtjlmcnbmhgabpaaGreat
open Go.RowKit
set_option linter.unusedVariables false

/-- A slice's address, length, capacity. -/
abbrev Sl := Option Addr × Nat × Nat
abbrev slV (s : Sl) : Value := .slice s.1 s.2.1 s.2.2
/-- The cells of a statement. -/
structure Sv where
  k : Int
  tb : ByteArray
  nm : ByteArray
  co : Sl
  ta : Sl
  va : Sl
  it : Sl
  jn : ByteArray
  on : Sl
  wh : Sl
  od : Sl
  ds : Bool
  inn : Sl
def stV (s : Sv) : Value := .agg #[.int .i64 s.k, .string s.tb, .string s.nm, .slice s.co.1 s.co.2.1 s.co.2.2, .slice s.ta.1 s.ta.2.1 s.ta.2.2, .slice s.va.1 s.va.2.1 s.va.2.2, .slice s.it.1 s.it.2.1 s.it.2.2, .string s.jn, .slice s.on.1 s.on.2.1 s.on.2.2, .slice s.wh.1 s.wh.2.1 s.wh.2.2, .slice s.od.1 s.od.2.1 s.od.2.2, .bool s.ds, .slice s.inn.1 s.inn.2.1 s.inn.2.2]
def svC (s : Sv) : List Value := [.int .i64 s.k, .string s.tb, .string s.nm, .slice s.co.1 s.co.2.1 s.co.2.2, .slice s.ta.1 s.ta.2.1 s.ta.2.2, .slice s.va.1 s.va.2.1 s.va.2.2, .slice s.it.1 s.it.2.1 s.it.2.2, .string s.jn, .slice s.on.1 s.on.2.1 s.on.2.2, .slice s.wh.1 s.wh.2.1 s.wh.2.2, .slice s.od.1 s.od.2.1 s.od.2.2, .bool s.ds, .slice s.inn.1 s.inn.2.1 s.inn.2.2]
abbrev zS (k : Int) : Sv := ⟨k, ⟨#[]⟩, ⟨#[]⟩, (none, 0, 0), (none, 0, 0), (none, 0, 0), (none, 0, 0), ⟨#[]⟩, (none, 0, 0), (none, 0, 0), (none, 0, 0), false, (none, 0, 0)⟩
structure Bs (w : World) (b : Nat) (s : Sv) : Prop where
  row : w.heap[b]? = some (.cells #[.int .i64 s.k, .string s.tb, .string s.nm, .slice s.co.1 s.co.2.1 s.co.2.2, .slice s.ta.1 s.ta.2.1 s.ta.2.2, .slice s.va.1 s.va.2.1 s.va.2.2, .slice s.it.1 s.it.2.1 s.it.2.2, .string s.jn, .slice s.on.1 s.on.2.1 s.on.2.2, .slice s.wh.1 s.wh.2.1 s.wh.2.2, .slice s.od.1 s.od.2.1 s.od.2.2, .bool s.ds, .slice s.inn.1 s.inn.2.1 s.inn.2.2] 29 (0, 0))
theorem Bs.new (w : World) (s : Sv) : Bs (w.alloc (.cells #[.int .i64 s.k, .string s.tb, .string s.nm, .slice s.co.1 s.co.2.1 s.co.2.2, .slice s.ta.1 s.ta.2.1 s.ta.2.2, .slice s.va.1 s.va.2.1 s.va.2.2, .slice s.it.1 s.it.2.1 s.it.2.2, .string s.jn, .slice s.on.1 s.on.2.1 s.on.2.2, .slice s.wh.1 s.wh.2.1 s.wh.2.2, .slice s.od.1 s.od.2.1 s.od.2.2, .bool s.ds, .slice s.inn.1 s.inn.2.1 s.inn.2.2] 29)) w.heap.size s := ⟨heap_alloc_new w _⟩
theorem Bs.lt {w : World} {b : Nat} {s : Sv} (h : Bs w b s) : b < w.heap.size := (Array.getElem?_eq_some_iff.1 h.row).1
theorem Bs.keep {w w' : World} {b : Nat} {s : Sv} (h : Bs w b s) (hk : w'.heap[b]? = w.heap[b]?) : Bs w' b s := ⟨hk.trans h.row⟩
theorem Bs.later {w w' : World} {b : Nat} {s : Sv} (h : Bs w b s) (hb : Below w.heap.size w w') : Bs w' b s := h.keep (hb.block b h.lt)
theorem Bs.but {w w' : World} {b g : Nat} {s : Sv} (h : Bs w b s) (hb : But g w w') (hg : b ≠ g) : Bs w' b s := h.keep (hb.block b h.lt hg)
theorem Bs.cells {w : World} {b : Nat} {s : Sv} (h : Bs w b s) : w.cell? ⟨b, 0, none⟩ = some (.int .i64 s.k) ∧ w.cell? ⟨b, 1, none⟩ = some (.string s.tb) ∧ w.cell? ⟨b, 2, none⟩ = some (.string s.nm) ∧ w.cell? ⟨b, 3, none⟩ = some (.slice s.co.1 s.co.2.1 s.co.2.2) ∧ w.cell? ⟨b, 4, none⟩ = some (.slice s.ta.1 s.ta.2.1 s.ta.2.2) ∧ w.cell? ⟨b, 5, none⟩ = some (.slice s.va.1 s.va.2.1 s.va.2.2) ∧ w.cell? ⟨b, 6, none⟩ = some (.slice s.it.1 s.it.2.1 s.it.2.2) ∧ w.cell? ⟨b, 7, none⟩ = some (.string s.jn) ∧ w.cell? ⟨b, 8, none⟩ = some (.slice s.on.1 s.on.2.1 s.on.2.2) ∧ w.cell? ⟨b, 9, none⟩ = some (.slice s.wh.1 s.wh.2.1 s.wh.2.2) ∧ w.cell? ⟨b, 10, none⟩ = some (.slice s.od.1 s.od.2.1 s.od.2.2) ∧ w.cell? ⟨b, 11, none⟩ = some (.bool s.ds) ∧ w.cell? ⟨b, 12, none⟩ = some (.slice s.inn.1 s.inn.2.1 s.inn.2.2) := by
  unfold World.cell?; rw [h.row]; exact ⟨rfl, rfl, rfl, rfl, rfl, rfl, rfl, rfl, rfl, rfl, rfl, rfl, rfl⟩
theorem Bs.free {w : World} {b : Nat} {s : Sv} (h : Bs w b s) : w.frozen? ⟨b, 0, none⟩ = false ∧ w.frozen? ⟨b, 1, none⟩ = false ∧ w.frozen? ⟨b, 2, none⟩ = false ∧ w.frozen? ⟨b, 3, none⟩ = false ∧ w.frozen? ⟨b, 4, none⟩ = false ∧ w.frozen? ⟨b, 5, none⟩ = false ∧ w.frozen? ⟨b, 6, none⟩ = false ∧ w.frozen? ⟨b, 7, none⟩ = false ∧ w.frozen? ⟨b, 8, none⟩ = false ∧ w.frozen? ⟨b, 9, none⟩ = false ∧ w.frozen? ⟨b, 10, none⟩ = false ∧ w.frozen? ⟨b, 11, none⟩ = false ∧ w.frozen? ⟨b, 12, none⟩ = false := by
  unfold World.frozen?; rw [h.row]; exact ⟨rfl, rfl, rfl, rfl, rfl, rfl, rfl, rfl, rfl, rfl, rfl, rfl, rfl⟩
theorem Bs.other {w : World} {b : Nat} {s : Sv} (h : Bs w b s) {r : Nat} (hr : b ≠ r) (o : Nat) (v : Value) : Bs (w.setCell ⟨r, o, none⟩ v) b s := h.keep (Below.heap_setCell _ _ _ _ hr)
theorem Bs.set1 {w : World} {b : Nat} {s : Sv} (h : Bs w b s) (v : ByteArray) : Bs (w.setCell ⟨b, 1, none⟩ (.string v)) b { s with tb := v } := ⟨by simp [World.setCell, Array.getElem?_modify, h.row]⟩
theorem Bs.set2 {w : World} {b : Nat} {s : Sv} (h : Bs w b s) (v : ByteArray) : Bs (w.setCell ⟨b, 2, none⟩ (.string v)) b { s with nm := v } := ⟨by simp [World.setCell, Array.getElem?_modify, h.row]⟩
theorem Bs.set3 {w : World} {b : Nat} {s : Sv} (h : Bs w b s) (v : Sl) : Bs (w.setCell ⟨b, 3, none⟩ (.slice v.1 v.2.1 v.2.2)) b { s with co := v } := ⟨by simp [World.setCell, Array.getElem?_modify, h.row]⟩
theorem Bs.set4 {w : World} {b : Nat} {s : Sv} (h : Bs w b s) (v : Sl) : Bs (w.setCell ⟨b, 4, none⟩ (.slice v.1 v.2.1 v.2.2)) b { s with ta := v } := ⟨by simp [World.setCell, Array.getElem?_modify, h.row]⟩
theorem Bs.set5 {w : World} {b : Nat} {s : Sv} (h : Bs w b s) (v : Sl) : Bs (w.setCell ⟨b, 5, none⟩ (.slice v.1 v.2.1 v.2.2)) b { s with va := v } := ⟨by simp [World.setCell, Array.getElem?_modify, h.row]⟩
theorem Bs.set6 {w : World} {b : Nat} {s : Sv} (h : Bs w b s) (v : Sl) : Bs (w.setCell ⟨b, 6, none⟩ (.slice v.1 v.2.1 v.2.2)) b { s with it := v } := ⟨by simp [World.setCell, Array.getElem?_modify, h.row]⟩
theorem Bs.set7 {w : World} {b : Nat} {s : Sv} (h : Bs w b s) (v : ByteArray) : Bs (w.setCell ⟨b, 7, none⟩ (.string v)) b { s with jn := v } := ⟨by simp [World.setCell, Array.getElem?_modify, h.row]⟩
theorem Bs.set8 {w : World} {b : Nat} {s : Sv} (h : Bs w b s) (v : Sl) : Bs (w.setCell ⟨b, 8, none⟩ (.slice v.1 v.2.1 v.2.2)) b { s with on := v } := ⟨by simp [World.setCell, Array.getElem?_modify, h.row]⟩
theorem Bs.set9 {w : World} {b : Nat} {s : Sv} (h : Bs w b s) (v : Sl) : Bs (w.setCell ⟨b, 9, none⟩ (.slice v.1 v.2.1 v.2.2)) b { s with wh := v } := ⟨by simp [World.setCell, Array.getElem?_modify, h.row]⟩
theorem Bs.set10 {w : World} {b : Nat} {s : Sv} (h : Bs w b s) (v : Sl) : Bs (w.setCell ⟨b, 10, none⟩ (.slice v.1 v.2.1 v.2.2)) b { s with od := v } := ⟨by simp [World.setCell, Array.getElem?_modify, h.row]⟩
theorem Bs.set11 {w : World} {b : Nat} {s : Sv} (h : Bs w b s) (v : Bool) : Bs (w.setCell ⟨b, 11, none⟩ (.bool v)) b { s with ds := v } := ⟨by simp [World.setCell, Array.getElem?_modify, h.row]⟩
theorem Bs.set12 {w : World} {b : Nat} {s : Sv} (h : Bs w b s) (v : Sl) : Bs (w.setCell ⟨b, 12, none⟩ (.slice v.1 v.2.1 v.2.2)) b { s with inn := v } := ⟨by simp [World.setCell, Array.getElem?_modify, h.row]⟩
def set13 (w : World) (b : Nat) (s : Sv) : World := (((((((((((((w.setCell ⟨b, 0, none⟩ (.int .i64 s.k)).setCell ⟨b, 1, none⟩ (.string s.tb)).setCell ⟨b, 2, none⟩ (.string s.nm)).setCell ⟨b, 3, none⟩ (.slice s.co.1 s.co.2.1 s.co.2.2)).setCell ⟨b, 4, none⟩ (.slice s.ta.1 s.ta.2.1 s.ta.2.2)).setCell ⟨b, 5, none⟩ (.slice s.va.1 s.va.2.1 s.va.2.2)).setCell ⟨b, 6, none⟩ (.slice s.it.1 s.it.2.1 s.it.2.2)).setCell ⟨b, 7, none⟩ (.string s.jn)).setCell ⟨b, 8, none⟩ (.slice s.on.1 s.on.2.1 s.on.2.2)).setCell ⟨b, 9, none⟩ (.slice s.wh.1 s.wh.2.1 s.wh.2.2)).setCell ⟨b, 10, none⟩ (.slice s.od.1 s.od.2.1 s.od.2.2)).setCell ⟨b, 11, none⟩ (.bool s.ds)).setCell ⟨b, 12, none⟩ (.slice s.inn.1 s.inn.2.1 s.inn.2.2))
theorem But.set13 {g : Nat} {a w : World} (h : But g a w) {b : Nat} (hb : a.heap.size ≤ b) (s : Sv) : But g a (set13 w b s) := (((((((((((((h.new hb 0 _).new hb 1 _).new hb 2 _).new hb 3 _).new hb 4 _).new hb 5 _).new hb 6 _).new hb 7 _).new hb 8 _).new hb 9 _).new hb 10 _).new hb 11 _).new hb 12 _)
theorem Rp.set13 {w : World} {g : Nat} {S : Sa} {d : Nat} (h : Rp w g S d) {b : Nat} (hb : g < b) (s : Sv) : Rp (set13 w b s) g S d := (((((((((((((h.other hb 0 _).other hb 1 _).other hb 2 _).other hb 3 _).other hb 4 _).other hb 5 _).other hb 6 _).other hb 7 _).other hb 8 _).other hb 9 _).other hb 10 _).other hb 11 _).other hb 12 _)
theorem set13_heap (w : World) (b : Nat) (s : Sv) {k : Nat} (hk : k ≠ b) : (set13 w b s).heap[k]? = w.heap[k]? := by
  unfold set13
  rw [Below.heap_setCell _ _ _ _ hk, Below.heap_setCell _ _ _ _ hk, Below.heap_setCell _ _ _ _ hk, Below.heap_setCell _ _ _ _ hk, Below.heap_setCell _ _ _ _ hk, Below.heap_setCell _ _ _ _ hk, Below.heap_setCell _ _ _ _ hk, Below.heap_setCell _ _ _ _ hk, Below.heap_setCell _ _ _ _ hk, Below.heap_setCell _ _ _ _ hk, Below.heap_setCell _ _ _ _ hk, Below.heap_setCell _ _ _ _ hk, Below.heap_setCell _ _ _ _ hk]

/-- The cells are the statement. -/
structure IsS (Q : Nat → Prop) (w : World) (m : Sm) (s : Sv) : Prop where
  k : s.k = m.kind
  tb : s.tb = m.table
  nm : s.nm = m.name
  co : RowIs eCol Q w (slV s.co) m.cols
  ta : RowIs eTag Q w (slV s.ta) m.tags
  va : RowIs eExpr Q w (slV s.va) m.values
  it : RowIs eItem Q w (slV s.it) m.items
  jn : s.jn = m.join
  on : RowIs eExpr Q w (slV s.on) m.on
  wh : RowIs eExpr Q w (slV s.wh) m.wh
  od : RowIs eExpr Q w (slV s.od) m.order
  ds : s.ds = m.desc
theorem IsS.keep {Q : Nat → Prop} {w w' : World} {m : Sm} {s : Sv} (hk : ∀ b, Q b → b < w.heap.size → w'.heap[b]? = w.heap[b]?) (h : IsS Q w m s) : IsS Q w' m s :=
  ⟨h.k, h.tb, h.nm, h.co.keep (by decide) hk, h.ta.keep (by decide) hk, h.va.keep (by decide) hk, h.it.keep (by decide) hk, h.jn, h.on.keep (by decide) hk, h.wh.keep (by decide) hk, h.od.keep (by decide) hk, h.ds⟩
theorem IsS.mono {Q Q' : Nat → Prop} {w : World} {m : Sm} {s : Sv} (hk : ∀ b, Q b → b < w.heap.size → Q' b) (h : IsS Q w m s) : IsS Q' w m s :=
  ⟨h.k, h.tb, h.nm, h.co.mono (by decide) hk, h.ta.mono (by decide) hk, h.va.mono (by decide) hk, h.it.mono (by decide) hk, h.jn, h.on.mono (by decide) hk, h.wh.mono (by decide) hk, h.od.mono (by decide) hk, h.ds⟩
theorem IsS.zero (Q : Nat → Prop) (w : World) (k : Int) : IsS Q w (sm k) (zS k) :=
  ⟨rfl, rfl, rfl, RowIs.nil _ _ _, RowIs.nil _ _ _, RowIs.nil _ _ _, RowIs.nil _ _ _, rfl, RowIs.nil _ _ _, RowIs.nil _ _ _, RowIs.nil _ _ _, rfl⟩
def eStmt : Ek Sm := ⟨13, fun Q w m cs => ∃ s, cs = svC s ∧ IsS Q w m s ∧ s.inn = (none, 0, 0), fun hk ⟨s, h1, h2, h3⟩ => ⟨s, h1, h2.keep hk, h3⟩, fun hk ⟨s, h1, h2, h3⟩ => ⟨s, h1, h2.mono hk, h3⟩⟩
/-- A statement, and those that stand in it. -/
abbrev Sf := Sm × List Sm
def TeS (g : Nat) (w : World) (R : Re Sm) (e : Ending) (w' : World) : Prop :=
  ∃ s, e = .returned (stV s) ∧ But g w w' ∧ Rp w' g (stO R) 0 ∧ ∀ m r, R = .inr (m, r) → IsS (fun b => w.heap.size ≤ b) w' m s ∧ s.inn = (none, 0, 0)
def TeF (g : Nat) (w : World) (R : Re Sf) (e : Ending) (w' : World) : Prop :=
  ∃ s, e = .returned (stV s) ∧ But g w w' ∧ Rp w' g (stO R) 0 ∧ ∀ m r, R = .inr (m, r) → IsS (fun b => w.heap.size ≤ b) w' m.1 s ∧ RowIs eStmt (fun b => w.heap.size ≤ b) w' (slV s.inn) m.2

/-- A field is filled. -/
def fillR {α : Type} (P : List Tk → Re α) (f : Sm → α → Sm) (R : Re Sm) : Re Sm := thenR R fun m r => mapR (f m) (P r)
theorem fill_st {α : Type} (P : List Tk → Re α) (f : Sm → α → Sm) (R : Re Sm) : stO (fillR P f R) = stO (runP P (stO R)) := by
  cases R with
  | inl x => rfl
  | inr x => exact stO_mapR _ _
theorem fill_inr {α : Type} {P : List Tk → Re α} {f : Sm → α → Sm} {R : Re Sm} {m' : Sm} {r : List Tk} (h : fillR P f R = .inr (m', r)) : ∃ m q x, R = .inr (m, q) ∧ runP P (stO R) = .inr (x, r) ∧ m' = f m x := by
  obtain ⟨m, q, h1, h2⟩ := thenR_inr h
  obtain ⟨x, h3, h4⟩ := mapR_inr h2
  subst h1
  exact ⟨m, q, x, rfl, h3, h4⟩
def startR (k : Int) : Sa → Re Sm := runP fun ts => .inr (sm k, ts)
theorem start_st (k : Int) (S : Sa) : stO (startR k S) = S := by cases S <;> rfl

/-- A statement is being filled, in the block behind the result's. -/
structure Inv (g : Nat) (w : World) (R : Re Sm) (w1 : World) (s : Sv) : Prop where
  but : But g w w1
  rp : Rp w1 g (stO R) 0
  box : Bs w1 (w.heap.size + 1) s
  zero : Bs w1 w.heap.size (zS 0)
  is : ∀ m r, R = .inr (m, r) → IsS (fun b => w.heap.size + 2 ≤ b) w1 m s ∧ s.inn = (none, 0, 0)
theorem Inv.start {g : Nat} {w : World} {S : Sa} (h : Rp w g S 0) (k : Int) : Inv g w (startR k S) ((w.alloc (.cells #[.int .i64 (zS 0).k, .string (zS 0).tb, .string (zS 0).nm, .slice (zS 0).co.1 (zS 0).co.2.1 (zS 0).co.2.2, .slice (zS 0).ta.1 (zS 0).ta.2.1 (zS 0).ta.2.2, .slice (zS 0).va.1 (zS 0).va.2.1 (zS 0).va.2.2, .slice (zS 0).it.1 (zS 0).it.2.1 (zS 0).it.2.2, .string (zS 0).jn, .slice (zS 0).on.1 (zS 0).on.2.1 (zS 0).on.2.2, .slice (zS 0).wh.1 (zS 0).wh.2.1 (zS 0).wh.2.2, .slice (zS 0).od.1 (zS 0).od.2.1 (zS 0).od.2.2, .bool (zS 0).ds, .slice (zS 0).inn.1 (zS 0).inn.2.1 (zS 0).inn.2.2] 29)).alloc (.cells #[.int .i64 (zS k).k, .string (zS k).tb, .string (zS k).nm, .slice (zS k).co.1 (zS k).co.2.1 (zS k).co.2.2, .slice (zS k).ta.1 (zS k).ta.2.1 (zS k).ta.2.2, .slice (zS k).va.1 (zS k).va.2.1 (zS k).va.2.2, .slice (zS k).it.1 (zS k).it.2.1 (zS k).it.2.2, .string (zS k).jn, .slice (zS k).on.1 (zS k).on.2.1 (zS k).on.2.2, .slice (zS k).wh.1 (zS k).wh.2.1 (zS k).wh.2.2, .slice (zS k).od.1 (zS k).od.2.1 (zS k).od.2.2, .bool (zS k).ds, .slice (zS k).inn.1 (zS k).inn.2.1 (zS k).inn.2.2] 29)) (zS k) := by
  refine ⟨((But.refl g w).alloc _).alloc _, by rw [start_st]; exact (h.alloc _).alloc _, ?_, (Bs.new w (zS 0)).later (bal (Below.refl _ _) _), fun m r e => ?_⟩
  · have := Bs.new (w.alloc (.cells #[.int .i64 (zS 0).k, .string (zS 0).tb, .string (zS 0).nm, .slice (zS 0).co.1 (zS 0).co.2.1 (zS 0).co.2.2, .slice (zS 0).ta.1 (zS 0).ta.2.1 (zS 0).ta.2.2, .slice (zS 0).va.1 (zS 0).va.2.1 (zS 0).va.2.2, .slice (zS 0).it.1 (zS 0).it.2.1 (zS 0).it.2.2, .string (zS 0).jn, .slice (zS 0).on.1 (zS 0).on.2.1 (zS 0).on.2.2, .slice (zS 0).wh.1 (zS 0).wh.2.1 (zS 0).wh.2.2, .slice (zS 0).od.1 (zS 0).od.2.1 (zS 0).od.2.2, .bool (zS 0).ds, .slice (zS 0).inn.1 (zS 0).inn.2.1 (zS 0).inn.2.2] 29)) (zS k)
    rw [World.size_alloc] at this
    exact this
  · cases S with
    | inl x => cases e
    | inr ts => cases e; exact ⟨IsS.zero _ _ k, rfl⟩
theorem Inv.lt {g : Nat} {w : World} {R : Re Sm} {w1 : World} {s : Sv} (h : Inv g w R w1 s) : w.heap.size + 2 ≤ w1.heap.size := by have := h.box.lt; omega
/-- Words are read. -/
theorem Inv.want {g : Nat} {w : World} {R : Re Sm} {w1 w2 : World} {s : Sv} (h : Inv g w R w1 s) (hg : g < w.heap.size) {t : ByteArray} (hr : Rp w2 g (wantS t (stO R)) 0) (hb : But g w1 w2) : Inv g w (wantR t R) w2 s := by
  refine ⟨h.but.trans hb, by rw [stO_wantR]; exact hr, h.box.but hb (by omega), h.zero.but hb (by omega), fun m r e => ?_⟩
  obtain ⟨r', e'⟩ := wantR_inr e
  exact ⟨(h.is m r' e').1.keep fun b hq hlt => hb.block b hlt (by omega), (h.is m r' e').2⟩
/-- A field is filled by what a call told. -/
theorem Inv.fill {α : Type} {g : Nat} {w : World} {R : Re Sm} {w1 w2 : World} {s s' : Sv} (h : Inv g w R w1 s) (hg : g < w.heap.size) {P : List Tk → Re α} {f : Sm → α → Sm} {i : Nat} {v : Value} (hb : But g w1 w2) (hr : Rp w2 g (stO (runP P (stO R))) 0)
    (hx : Bs w2 (w.heap.size + 1) s → Bs (w2.setCell ⟨w.heap.size + 1, i, none⟩ v) (w.heap.size + 1) s')
    (hi : ∀ m x q r, R = .inr (m, q) → runP P (stO R) = .inr (x, r) → IsS (fun b => w.heap.size + 2 ≤ b) w2 m s → s.inn = (none, 0, 0) → IsS (fun b => w.heap.size + 2 ≤ b) w2 (f m x) s' ∧ s'.inn = (none, 0, 0)) :
    Inv g w (fillR P f R) (w2.setCell ⟨w.heap.size + 1, i, none⟩ v) s' := by
  refine ⟨(h.but.trans hb).new (by omega) _ _, by rw [fill_st]; exact hr.other (by omega) _ _, hx (h.box.but hb (by omega)), (h.zero.but hb (by omega)).other (by omega) _ _, fun m r e => ?_⟩
  obtain ⟨m0, q, x, e1, e2, rfl⟩ := fill_inr e
  have h0 := h.is m0 q e1
  have := hi m0 x q r e1 e2 (h0.1.keep fun b hq hlt => hb.block b hlt (by omega)) h0.2
  exact ⟨this.1.keep fun b hq hlt => Below.heap_setCell _ _ _ _ (by show b ≠ w.heap.size + 1; omega), this.2⟩
theorem TeS.fin {g : Nat} {w w1 : World} {R R' : Re Sm} {s : Sv} (hR : R = R') (hg : g < w.heap.size) (h : Inv g w R' w1 s) : TeS g w R (.returned (stV s)) (set13 w1 w.heap.size s) := by
  subst hR
  refine ⟨s, rfl, h.but.set13 (Nat.le_refl _) s, h.rp.set13 hg s, fun m r e => ?_⟩
  obtain ⟨h1, h2⟩ := h.is m r e
  exact ⟨(h1.keep fun b hq hlt => set13_heap _ _ _ (by omega)).mono fun b hb _ => by omega, h2⟩

def up_tb (m : Sm) (x : ByteArray) : Sm := { m with table := x }
theorem Inv.tb {g : Nat} {w : World} {R : Re Sm} {w1 w2 : World} {s : Sv} (h : Inv g w R w1 s) (hg : g < w.heap.size) {x : ByteArray} (hb : But g w1 w2) (hr : Rp w2 g (stO (runP nameP (stO R))) 0) (hu : ∀ u r, runP nameP (stO R) = .inr (u, r) → x = u) :
    Inv g w (fillR nameP up_tb R) (w2.setCell ⟨w.heap.size + 1, 1, none⟩ (.string x)) { s with tb := x } :=
  h.fill hg hb hr (fun hx => hx.set1 _) fun m u q r _ e his hin => ⟨{ his with tb := hu u r e }, hin⟩
def up_nm (m : Sm) (x : ByteArray) : Sm := { m with name := x }
theorem Inv.nm {g : Nat} {w : World} {R : Re Sm} {w1 w2 : World} {s : Sv} (h : Inv g w R w1 s) (hg : g < w.heap.size) {x : ByteArray} (hb : But g w1 w2) (hr : Rp w2 g (stO (runP nameP (stO R))) 0) (hu : ∀ u r, runP nameP (stO R) = .inr (u, r) → x = u) :
    Inv g w (fillR nameP up_nm R) (w2.setCell ⟨w.heap.size + 1, 2, none⟩ (.string x)) { s with nm := x } :=
  h.fill hg hb hr (fun hx => hx.set2 _) fun m u q r _ e his hin => ⟨{ his with nm := hu u r e }, hin⟩
def up_jn (m : Sm) (x : ByteArray) : Sm := { m with join := x }
theorem Inv.jn {g : Nat} {w : World} {R : Re Sm} {w1 w2 : World} {s : Sv} (h : Inv g w R w1 s) (hg : g < w.heap.size) {x : ByteArray} (hb : But g w1 w2) (hr : Rp w2 g (stO (runP nameP (stO R))) 0) (hu : ∀ u r, runP nameP (stO R) = .inr (u, r) → x = u) :
    Inv g w (fillR nameP up_jn R) (w2.setCell ⟨w.heap.size + 1, 7, none⟩ (.string x)) { s with jn := x } :=
  h.fill hg hb hr (fun hx => hx.set7 _) fun m u q r _ e his hin => ⟨{ his with jn := hu u r e }, hin⟩
def up_co (m : Sm) (x : List Co) : Sm := { m with cols := x }
theorem Inv.co {g : Nat} {w : World} {R : Re Sm} {w1 w2 : World} {s : Sv} (h : Inv g w R w1 s) (hg : g < w.heap.size) {P : List Tk → Re (List Co)} {v : Sl} (hb : But g w1 w2) (hr : Rp w2 g (stO (runP P (stO R))) 0) (hu : ∀ u r, runP P (stO R) = .inr (u, r) → RowIs eCol (fun b => w1.heap.size ≤ b) w2 (slV v) u) :
    Inv g w (fillR P up_co R) (w2.setCell ⟨w.heap.size + 1, 3, none⟩ (slV v)) { s with co := v } :=
  h.fill hg hb hr (fun hx => hx.set3 _) fun m u q r _ e his hin => ⟨{ his with co := (hu u r e).mono (by decide) fun b hb _ => by have := h.lt; omega }, hin⟩
def up_ta (m : Sm) (x : List Int) : Sm := { m with tags := x }
theorem Inv.ta {g : Nat} {w : World} {R : Re Sm} {w1 w2 : World} {s : Sv} (h : Inv g w R w1 s) (hg : g < w.heap.size) {P : List Tk → Re (List Int)} {v : Sl} (hb : But g w1 w2) (hr : Rp w2 g (stO (runP P (stO R))) 0) (hu : ∀ u r, runP P (stO R) = .inr (u, r) → RowIs eTag (fun b => w1.heap.size ≤ b) w2 (slV v) u) :
    Inv g w (fillR P up_ta R) (w2.setCell ⟨w.heap.size + 1, 4, none⟩ (slV v)) { s with ta := v } :=
  h.fill hg hb hr (fun hx => hx.set4 _) fun m u q r _ e his hin => ⟨{ his with ta := (hu u r e).mono (by decide) fun b hb _ => by have := h.lt; omega }, hin⟩
def up_va (m : Sm) (x : List Tr) : Sm := { m with values := x }
theorem Inv.va {g : Nat} {w : World} {R : Re Sm} {w1 w2 : World} {s : Sv} (h : Inv g w R w1 s) (hg : g < w.heap.size) {P : List Tk → Re (List Tr)} {v : Sl} (hb : But g w1 w2) (hr : Rp w2 g (stO (runP P (stO R))) 0) (hu : ∀ u r, runP P (stO R) = .inr (u, r) → RowIs eExpr (fun b => w1.heap.size ≤ b) w2 (slV v) u) :
    Inv g w (fillR P up_va R) (w2.setCell ⟨w.heap.size + 1, 5, none⟩ (slV v)) { s with va := v } :=
  h.fill hg hb hr (fun hx => hx.set5 _) fun m u q r _ e his hin => ⟨{ his with va := (hu u r e).mono (by decide) fun b hb _ => by have := h.lt; omega }, hin⟩
def up_it (m : Sm) (x : List It) : Sm := { m with items := x }
theorem Inv.it {g : Nat} {w : World} {R : Re Sm} {w1 w2 : World} {s : Sv} (h : Inv g w R w1 s) (hg : g < w.heap.size) {P : List Tk → Re (List It)} {v : Sl} (hb : But g w1 w2) (hr : Rp w2 g (stO (runP P (stO R))) 0) (hu : ∀ u r, runP P (stO R) = .inr (u, r) → RowIs eItem (fun b => w1.heap.size ≤ b) w2 (slV v) u) :
    Inv g w (fillR P up_it R) (w2.setCell ⟨w.heap.size + 1, 6, none⟩ (slV v)) { s with it := v } :=
  h.fill hg hb hr (fun hx => hx.set6 _) fun m u q r _ e his hin => ⟨{ his with it := (hu u r e).mono (by decide) fun b hb _ => by have := h.lt; omega }, hin⟩
def up_on (m : Sm) (x : List Tr) : Sm := { m with on := x }
theorem Inv.on {g : Nat} {w : World} {R : Re Sm} {w1 w2 : World} {s : Sv} (h : Inv g w R w1 s) (hg : g < w.heap.size) {P : List Tk → Re (List Tr)} {v : Sl} (hb : But g w1 w2) (hr : Rp w2 g (stO (runP P (stO R))) 0) (hu : ∀ u r, runP P (stO R) = .inr (u, r) → RowIs eExpr (fun b => w1.heap.size ≤ b) w2 (slV v) u) :
    Inv g w (fillR P up_on R) (w2.setCell ⟨w.heap.size + 1, 8, none⟩ (slV v)) { s with on := v } :=
  h.fill hg hb hr (fun hx => hx.set8 _) fun m u q r _ e his hin => ⟨{ his with on := (hu u r e).mono (by decide) fun b hb _ => by have := h.lt; omega }, hin⟩
def up_wh (m : Sm) (x : List Tr) : Sm := { m with wh := x }
theorem Inv.wh {g : Nat} {w : World} {R : Re Sm} {w1 w2 : World} {s : Sv} (h : Inv g w R w1 s) (hg : g < w.heap.size) {P : List Tk → Re (List Tr)} {v : Sl} (hb : But g w1 w2) (hr : Rp w2 g (stO (runP P (stO R))) 0) (hu : ∀ u r, runP P (stO R) = .inr (u, r) → RowIs eExpr (fun b => w1.heap.size ≤ b) w2 (slV v) u) :
    Inv g w (fillR P up_wh R) (w2.setCell ⟨w.heap.size + 1, 9, none⟩ (slV v)) { s with wh := v } :=
  h.fill hg hb hr (fun hx => hx.set9 _) fun m u q r _ e his hin => ⟨{ his with wh := (hu u r e).mono (by decide) fun b hb _ => by have := h.lt; omega }, hin⟩
def up_od (m : Sm) (x : List Tr) : Sm := { m with order := x }
theorem Inv.od {g : Nat} {w : World} {R : Re Sm} {w1 w2 : World} {s : Sv} (h : Inv g w R w1 s) (hg : g < w.heap.size) {P : List Tk → Re (List Tr)} {v : Sl} (hb : But g w1 w2) (hr : Rp w2 g (stO (runP P (stO R))) 0) (hu : ∀ u r, runP P (stO R) = .inr (u, r) → RowIs eExpr (fun b => w1.heap.size ≤ b) w2 (slV v) u) :
    Inv g w (fillR P up_od R) (w2.setCell ⟨w.heap.size + 1, 10, none⟩ (slV v)) { s with od := v } :=
  h.fill hg hb hr (fun hx => hx.set10 _) fun m u q r _ e his hin => ⟨{ his with od := (hu u r e).mono (by decide) fun b hb _ => by have := h.lt; omega }, hin⟩
def up_ds (m : Sm) (x : Bool) : Sm := { m with desc := x }
theorem Inv.ds {g : Nat} {w : World} {R : Re Sm} {w1 w2 : World} {s : Sv} (h : Inv g w R w1 s) (hg : g < w.heap.size) {P : List Tk → Re Bool} {x : Bool} (hb : But g w1 w2) (hr : Rp w2 g (stO (runP P (stO R))) 0) (hu : ∀ u r, runP P (stO R) = .inr (u, r) → x = u) :
    Inv g w (fillR P up_ds R) (w2.setCell ⟨w.heap.size + 1, 11, none⟩ (.bool x)) { s with ds := x } :=
  h.fill hg hb hr (fun hx => hx.set11 _) fun m u q r _ e his hin => ⟨{ his with ds := hu u r e }, hin⟩

end Go.Proofs.YtjlmcnbmhgabpaaGreat
