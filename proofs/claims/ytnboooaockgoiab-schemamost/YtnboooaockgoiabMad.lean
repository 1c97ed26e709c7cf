import Derived.Test.YtnboooaockgoiabMac
import Derived.Deep.RegionLaw
import Derived.Deep.MidRow
/- Statements in memory; the steps by which they are filled. -/
namespace Go.Proofs.Ytnboooaockgoiab
open Go.RowKit
set_option linter.unusedVariables false

/-- A slice's address, length, capacity. -/
abbrev Sl := Option Addr × Nat × Nat
abbrev slV (s : Sl) : Value := .slice s.1 s.2.1 s.2.2
/-- The cells of a statement. -/
structure Sv where
  k : Int
  tb : ByteArray
  nm : ByteArray
  co : Sl
  ta : Sl
  va : Sl
  it : Sl
  jn : ByteArray
  on : Sl
  wh : Sl
  od : Sl
  ds : Bool
  inn : Sl
def stV (s : Sv) : Value := .agg #[.int .i64 s.k, .string s.tb, .string s.nm, .slice s.co.1 s.co.2.1 s.co.2.2, .slice s.ta.1 s.ta.2.1 s.ta.2.2, .slice s.va.1 s.va.2.1 s.va.2.2, .slice s.it.1 s.it.2.1 s.it.2.2, .string s.jn, .slice s.on.1 s.on.2.1 s.on.2.2, .slice s.wh.1 s.wh.2.1 s.wh.2.2, .slice s.od.1 s.od.2.1 s.od.2.2, .bool s.ds, .slice s.inn.1 s.inn.2.1 s.inn.2.2]
def svC (s : Sv) : List Value := [.int .i64 s.k, .string s.tb, .string s.nm, .slice s.co.1 s.co.2.1 s.co.2.2, .slice s.ta.1 s.ta.2.1 s.ta.2.2, .slice s.va.1 s.va.2.1 s.va.2.2, .slice s.it.1 s.it.2.1 s.it.2.2, .string s.jn, .slice s.on.1 s.on.2.1 s.on.2.2, .slice s.wh.1 s.wh.2.1 s.wh.2.2, .slice s.od.1 s.od.2.1 s.od.2.2, .bool s.ds, .slice s.inn.1 s.inn.2.1 s.inn.2.2]
abbrev zS (k : Int) : Sv := ⟨k, ⟨#[]⟩, ⟨#[]⟩, (none, 0, 0), (none, 0, 0), (none, 0, 0), (none, 0, 0), ⟨#[]⟩, (none, 0, 0), (none, 0, 0), (none, 0, 0), false, (none, 0, 0)⟩
structure Bs (w : World) (b : Nat) (s : Sv) : Prop where
  row : w.heap[b]? = some (.cells #[.int .i64 s.k, .string s.tb, .string s.nm, .slice s.co.1 s.co.2.1 s.co.2.2, .slice s.ta.1 s.ta.2.1 s.ta.2.2, .slice s.va.1 s.va.2.1 s.va.2.2, .slice s.it.1 s.it.2.1 s.it.2.2, .string s.jn, .slice s.on.1 s.on.2.1 s.on.2.2, .slice s.wh.1 s.wh.2.1 s.wh.2.2, .slice s.od.1 s.od.2.1 s.od.2.2, .bool s.ds, .slice s.inn.1 s.inn.2.1 s.inn.2.2] 34 (0, 0))
theorem Bs.new (w : World) (s : Sv) : Bs (w.alloc (.cells #[.int .i64 s.k, .string s.tb, .string s.nm, .slice s.co.1 s.co.2.1 s.co.2.2, .slice s.ta.1 s.ta.2.1 s.ta.2.2, .slice s.va.1 s.va.2.1 s.va.2.2, .slice s.it.1 s.it.2.1 s.it.2.2, .string s.jn, .slice s.on.1 s.on.2.1 s.on.2.2, .slice s.wh.1 s.wh.2.1 s.wh.2.2, .slice s.od.1 s.od.2.1 s.od.2.2, .bool s.ds, .slice s.inn.1 s.inn.2.1 s.inn.2.2] 34)) w.heap.size s := ⟨heap_alloc_new w _⟩
theorem Bs.lt {w : World} {b : Nat} {s : Sv} (h : Bs w b s) : b < w.heap.size := (Array.getElem?_eq_some_iff.1 h.row).1
theorem Bs.keep {w w' : World} {b : Nat} {s : Sv} (h : Bs w b s) (hk : w'.heap[b]? = w.heap[b]?) : Bs w' b s := ⟨hk.trans h.row⟩
theorem Bs.later {w w' : World} {b : Nat} {s : Sv} (h : Bs w b s) (hb : Below w.heap.size w w') : Bs w' b s := h.keep (hb.block b h.lt)
theorem Bs.but {w w' : World} {b g : Nat} {s : Sv} (h : Bs w b s) (hb : But g w w') (hg : b ≠ g) : Bs w' b s := h.keep (hb.block b h.lt hg)
theorem Bs.cells {w : World} {b : Nat} {s : Sv} (h : Bs w b s) : w.cell? ⟨b, 0, none⟩ = some (.int .i64 s.k) ∧ w.cell? ⟨b, 1, none⟩ = some (.string s.tb) ∧ w.cell? ⟨b, 2, none⟩ = some (.string s.nm) ∧ w.cell? ⟨b, 3, none⟩ = some (.slice s.co.1 s.co.2.1 s.co.2.2) ∧ w.cell? ⟨b, 4, none⟩ = some (.slice s.ta.1 s.ta.2.1 s.ta.2.2) ∧ w.cell? ⟨b, 5, none⟩ = some (.slice s.va.1 s.va.2.1 s.va.2.2) ∧ w.cell? ⟨b, 6, none⟩ = some (.slice s.it.1 s.it.2.1 s.it.2.2) ∧ w.cell? ⟨b, 7, none⟩ = some (.string s.jn) ∧ w.cell? ⟨b, 8, none⟩ = some (.slice s.on.1 s.on.2.1 s.on.2.2) ∧ w.cell? ⟨b, 9, none⟩ = some (.slice s.wh.1 s.wh.2.1 s.wh.2.2) ∧ w.cell? ⟨b, 10, none⟩ = some (.slice s.od.1 s.od.2.1 s.od.2.2) ∧ w.cell? ⟨b, 11, none⟩ = some (.bool s.ds) ∧ w.cell? ⟨b, 12, none⟩ = some (.slice s.inn.1 s.inn.2.1 s.inn.2.2) := by
  unfold World.cell?; rw [h.row]; exact ⟨rfl, rfl, rfl, rfl, rfl, rfl, rfl, rfl, rfl, rfl, rfl, rfl, rfl⟩
theorem Bs.free {w : World} {b : Nat} {s : Sv} (h : Bs w b s) : w.frozen? ⟨b, 0, none⟩ = false ∧ w.frozen? ⟨b, 1, none⟩ = false ∧ w.frozen? ⟨b, 2, none⟩ = false ∧ w.frozen? ⟨b, 3, none⟩ = false ∧ w.frozen? ⟨b, 4, none⟩ = false ∧ w.frozen? ⟨b, 5, none⟩ = false ∧ w.frozen? ⟨b, 6, none⟩ = false ∧ w.frozen? ⟨b, 7, none⟩ = false ∧ w.frozen? ⟨b, 8, none⟩ = false ∧ w.frozen? ⟨b, 9, none⟩ = false ∧ w.frozen? ⟨b, 10, none⟩ = false ∧ w.frozen? ⟨b, 11, none⟩ = false ∧ w.frozen? ⟨b, 12, none⟩ = false := by
  unfold World.frozen?; rw [h.row]; exact ⟨rfl, rfl, rfl, rfl, rfl, rfl, rfl, rfl, rfl, rfl, rfl, rfl, rfl⟩
theorem Bs.other {w : World} {b : Nat} {s : Sv} (h : Bs w b s) {r : Nat} (hr : b ≠ r) (o : Nat) (v : Value) : Bs (w.setCell ⟨r, o, none⟩ v) b s := h.keep (Below.heap_setCell _ _ _ _ hr)
theorem Bs.set1 {w : World} {b : Nat} {s : Sv} (h : Bs w b s) (v : ByteArray) : Bs (w.setCell ⟨b, 1, none⟩ (.string v)) b { s with tb := v } := ⟨by simp [World.setCell, Array.getElem?_modify, h.row]⟩
theorem Bs.set2 {w : World} {b : Nat} {s : Sv} (h : Bs w b s) (v : ByteArray) : Bs (w.setCell ⟨b, 2, none⟩ (.string v)) b { s with nm := v } := ⟨by simp [World.setCell, Array.getElem?_modify, h.row]⟩
theorem Bs.set3 {w : World} {b : Nat} {s : Sv} (h : Bs w b s) (v : Sl) : Bs (w.setCell ⟨b, 3, none⟩ (.slice v.1 v.2.1 v.2.2)) b { s with co := v } := ⟨by simp [World.setCell, Array.getElem?_modify, h.row]⟩
theorem Bs.set4 {w : World} {b : Nat} {s : Sv} (h : Bs w b s) (v : Sl) : Bs (w.setCell ⟨b, 4, none⟩ (.slice v.1 v.2.1 v.2.2)) b { s with ta := v } := ⟨by simp [World.setCell, Array.getElem?_modify, h.row]⟩
theorem Bs.set5 {w : World} {b : Nat} {s : Sv} (h : Bs w b s) (v : Sl) : Bs (w.setCell ⟨b, 5, none⟩ (.slice v.1 v.2.1 v.2.2)) b { s with va := v } := ⟨by simp [World.setCell, Array.getElem?_modify, h.row]⟩
theorem Bs.set6 {w : World} {b : Nat} {s : Sv} (h : Bs w b s) (v : Sl) : Bs (w.setCell ⟨b, 6, none⟩ (.slice v.1 v.2.1 v.2.2)) b { s with it := v } := ⟨by simp [World.setCell, Array.getElem?_modify, h.row]⟩
theorem Bs.set7 {w : World} {b : Nat} {s : Sv} (h : Bs w b s) (v : ByteArray) : Bs (w.setCell ⟨b, 7, none⟩ (.string v)) b { s with jn := v } := ⟨by simp [World.setCell, Array.getElem?_modify, h.row]⟩
theorem Bs.set8 {w : World} {b : Nat} {s : Sv} (h : Bs w b s) (v : Sl) : Bs (w.setCell ⟨b, 8, none⟩ (.slice v.1 v.2.1 v.2.2)) b { s with on := v } := ⟨by simp [World.setCell, Array.getElem?_modify, h.row]⟩
theorem Bs.set9 {w : World} {b : Nat} {s : Sv} (h : Bs w b s) (v : Sl) : Bs (w.setCell ⟨b, 9, none⟩ (.slice v.1 v.2.1 v.2.2)) b { s with wh := v } := ⟨by simp [World.setCell, Array.getElem?_modify, h.row]⟩
theorem Bs.set10 {w : World} {b : Nat} {s : Sv} (h : Bs w b s) (v : Sl) : Bs (w.setCell ⟨b, 10, none⟩ (.slice v.1 v.2.1 v.2.2)) b { s with od := v } := ⟨by simp [World.setCell, Array.getElem?_modify, h.row]⟩
theorem Bs.set11 {w : World} {b : Nat} {s : Sv} (h : Bs w b s) (v : Bool) : Bs (w.setCell ⟨b, 11, none⟩ (.bool v)) b { s with ds := v } := ⟨by simp [World.setCell, Array.getElem?_modify, h.row]⟩
theorem Bs.set12 {w : World} {b : Nat} {s : Sv} (h : Bs w b s) (v : Sl) : Bs (w.setCell ⟨b, 12, none⟩ (.slice v.1 v.2.1 v.2.2)) b { s with inn := v } := ⟨by simp [World.setCell, Array.getElem?_modify, h.row]⟩
def set13 (w : World) (b : Nat) (s : Sv) : World := (((((((((((((w.setCell ⟨b, 0, none⟩ (.int .i64 s.k)).setCell ⟨b, 1, none⟩ (.string s.tb)).setCell ⟨b, 2, none⟩ (.string s.nm)).setCell ⟨b, 3, none⟩ (.slice s.co.1 s.co.2.1 s.co.2.2)).setCell ⟨b, 4, none⟩ (.slice s.ta.1 s.ta.2.1 s.ta.2.2)).setCell ⟨b, 5, none⟩ (.slice s.va.1 s.va.2.1 s.va.2.2)).setCell ⟨b, 6, none⟩ (.slice s.it.1 s.it.2.1 s.it.2.2)).setCell ⟨b, 7, none⟩ (.string s.jn)).setCell ⟨b, 8, none⟩ (.slice s.on.1 s.on.2.1 s.on.2.2)).setCell ⟨b, 9, none⟩ (.slice s.wh.1 s.wh.2.1 s.wh.2.2)).setCell ⟨b, 10, none⟩ (.slice s.od.1 s.od.2.1 s.od.2.2)).setCell ⟨b, 11, none⟩ (.bool s.ds)).setCell ⟨b, 12, none⟩ (.slice s.inn.1 s.inn.2.1 s.inn.2.2))
theorem But.set13 {g : Nat} {a w : World} (h : But g a w) {b : Nat} (hb : a.heap.size ≤ b) (s : Sv) : But g a (set13 w b s) := (((((((((((((h.new hb 0 _).new hb 1 _).new hb 2 _).new hb 3 _).new hb 4 _).new hb 5 _).new hb 6 _).new hb 7 _).new hb 8 _).new hb 9 _).new hb 10 _).new hb 11 _).new hb 12 _)
theorem set13_heap (w : World) (b : Nat) (s : Sv) {k : Nat} (hk : k ≠ b) : (set13 w b s).heap[k]? = w.heap[k]? := by
  unfold set13
  rw [Below.heap_setCell _ _ _ _ hk, Below.heap_setCell _ _ _ _ hk, Below.heap_setCell _ _ _ _ hk, Below.heap_setCell _ _ _ _ hk, Below.heap_setCell _ _ _ _ hk, Below.heap_setCell _ _ _ _ hk, Below.heap_setCell _ _ _ _ hk, Below.heap_setCell _ _ _ _ hk, Below.heap_setCell _ _ _ _ hk, Below.heap_setCell _ _ _ _ hk, Below.heap_setCell _ _ _ _ hk, Below.heap_setCell _ _ _ _ hk, Below.heap_setCell _ _ _ _ hk]

/-- The cells are the statement. -/
structure IsS (Q : Nat → Prop) (w : World) (m : Sm) (s : Sv) : Prop where
  k : s.k = m.kind
  tb : s.tb = m.table
  nm : s.nm = m.name
  co : RowIs eCol Q w (slV s.co) m.cols
  ta : RowIs eTag Q w (slV s.ta) m.tags
  va : RowIs eExpr Q w (slV s.va) m.values
  it : RowIs eItem Q w (slV s.it) m.items
  jn : s.jn = m.join
  on : RowIs eExpr Q w (slV s.on) m.on
  wh : RowIs eExpr Q w (slV s.wh) m.wh
  od : RowIs eExpr Q w (slV s.od) m.order
  ds : s.ds = m.desc
theorem IsS.keep {Q : Nat → Prop} {w w' : World} {m : Sm} {s : Sv} (hk : ∀ b, Q b → b < w.heap.size → w'.heap[b]? = w.heap[b]?) (h : IsS Q w m s) : IsS Q w' m s :=
  ⟨h.k, h.tb, h.nm, h.co.keep (by decide) hk, h.ta.keep (by decide) hk, h.va.keep (by decide) hk, h.it.keep (by decide) hk, h.jn, h.on.keep (by decide) hk, h.wh.keep (by decide) hk, h.od.keep (by decide) hk, h.ds⟩
theorem IsS.mono {Q Q' : Nat → Prop} {w : World} {m : Sm} {s : Sv} (hk : ∀ b, Q b → b < w.heap.size → Q' b) (h : IsS Q w m s) : IsS Q' w m s :=
  ⟨h.k, h.tb, h.nm, h.co.mono (by decide) hk, h.ta.mono (by decide) hk, h.va.mono (by decide) hk, h.it.mono (by decide) hk, h.jn, h.on.mono (by decide) hk, h.wh.mono (by decide) hk, h.od.mono (by decide) hk, h.ds⟩
theorem IsS.zero (Q : Nat → Prop) (w : World) (k : Int) : IsS Q w (sm k) (zS k) :=
  ⟨rfl, rfl, rfl, RowIs.nil _ _ _, RowIs.nil _ _ _, RowIs.nil _ _ _, RowIs.nil _ _ _, rfl, RowIs.nil _ _ _, RowIs.nil _ _ _, RowIs.nil _ _ _, rfl⟩
def eStmt : Ek Sm := ⟨13, fun Q w m cs => ∃ s, cs = svC s ∧ IsS Q w m s ∧ s.inn = (none, 0, 0), fun hk ⟨s, h1, h2, h3⟩ => ⟨s, h1, h2.keep hk, h3⟩, fun hk ⟨s, h1, h2, h3⟩ => ⟨s, h1, h2.mono hk, h3⟩⟩
/-- A statement, and those that stand in it. -/
abbrev Sf := Sm × List Sm
/-- A field is filled. -/
def fillR {α : Type} (P : List Tk → Re α) (f : Sm → α → Sm) (R : Re Sm) : Re Sm := thenR R fun m r => mapR (f m) (P r)
theorem fill_st {α : Type} (P : List Tk → Re α) (f : Sm → α → Sm) (R : Re Sm) : stO (fillR P f R) = stO (runP P (stO R)) := by
  cases R with
  | inl x => rfl
  | inr x => exact stO_mapR _ _
theorem fill_inr {α : Type} {P : List Tk → Re α} {f : Sm → α → Sm} {R : Re Sm} {m' : Sm} {r : List Tk} (h : fillR P f R = .inr (m', r)) : ∃ m q x, R = .inr (m, q) ∧ runP P (stO R) = .inr (x, r) ∧ m' = f m x := by
  obtain ⟨m, q, h1, h2⟩ := thenR_inr h
  obtain ⟨x, h3, h4⟩ := mapR_inr h2
  subst h1
  exact ⟨m, q, x, rfl, h3, h4⟩
def startR (k : Int) : Sa → Re Sm := runP fun ts => .inr (sm k, ts)
theorem start_st (k : Int) (S : Sa) : stO (startR k S) = S := by cases S <;> rfl

def up_tb (m : Sm) (x : ByteArray) : Sm := { m with table := x }
def up_nm (m : Sm) (x : ByteArray) : Sm := { m with name := x }
def up_jn (m : Sm) (x : ByteArray) : Sm := { m with join := x }
def up_co (m : Sm) (x : List Co) : Sm := { m with cols := x }
def up_ta (m : Sm) (x : List Int) : Sm := { m with tags := x }
def up_va (m : Sm) (x : List Tr) : Sm := { m with values := x }
def up_it (m : Sm) (x : List It) : Sm := { m with items := x }
def up_on (m : Sm) (x : List Tr) : Sm := { m with on := x }
def up_wh (m : Sm) (x : List Tr) : Sm := { m with wh := x }
def up_od (m : Sm) (x : List Tr) : Sm := { m with order := x }
def up_ds (m : Sm) (x : Bool) : Sm := { m with desc := x }
end Go.Proofs.Ytnboooaockgoiab
/- Rows of the call's own: an append in a region that draws; new cells. -/
namespace Go.Proofs.Ytnboooaockgoiab
open Go.RowKit
set_option linter.unusedVariables false

theorem OwnR.sl {ty k B : Nat} {w : World} {v : Value} {css : List (List Value)} (h : OwnR ty k B w v css) : ∃ ao n c, v = .slice ao n c := by
  rcases h.2.2 with ⟨rfl, h0⟩ | ⟨gg, cap, cur, rfl, hrest⟩
  · exact ⟨_, _, _, rfl⟩
  · exact ⟨_, _, _, rfl⟩
theorem OwnR.nil (ty k B : Nat) (w : World) : OwnR ty k B w (.slice none 0 0) [] := ⟨fun cs h => by simp at h, by simp, .inl ⟨rfl, rfl⟩⟩
/-- A law for just this append. -/
theorem step_guard {P : Program} {Y : Nat → Option Bool} {o : Oper} {a : Act} {w : World} {K : Act → World → Prop} {Q : Exit → Act → World → Prop} {E : Prop} (s x : Operand) (t : TypeId)
    (h : o.op = Op.call { callee := Callee.builtin Builtin.append, args := #[s, x], argTypes := #[t, t] }) (g : if Region.wanted o Y = true then Oper.wp P o a w K Q else E) : if Region.wanted o Y = true then Oper.wp P o a w K Q else E := g
theorem step_appR {t ety : TypeId} {z : Value} {k bytes B : Nat} {ops : Array Oper} {o : Oper} {a : Act} {w : World} {K : Act → World → Prop} {Q : Exit → Act → World → Prop} {E : Prop}
    (hgd : o.guard = none) (s x : Operand) (ho : o.op = .call { callee := .builtin .append, args := #[s, x], argTypes := #[t, t] })
    (ht : Try.prog.underlying t = some (.slice ety)) (hinf : (Try.prog.info? ety).map (fun i => (i.zero, i.size, i.bytes)) = some (some z, k, bytes)) (hzs : z.cells.size = k) (hk : 0 < k) (hby : bytes ≤ 1000)
    (v : Value) (css : List (List Value)) (g : Nat) (cs : List Value) (hs : a.eval s = v) (hx : a.eval x = .slice (some ⟨g, 0, none⟩) 1 1)
    (hown : OwnR ety k B w v css) (hcs : cs.length = k) (h1 : ∀ u ∈ cs, u.oneCell' = true) (hcell : ∀ j (hj : j < cs.length), w.cell? ⟨g, j, none⟩ = some cs[j]) (hl : css.length ≤ 1000) (hB : B ≤ w.heap.size)
    (h : ∀ v' w', OwnR ety k B w' v' (css ++ [cs]) → w.grownBy w' v.ownBlock → (v'.ownBlock = v.ownBlock ∨ v'.ownBlock = some w.heap.size) → K (a.put o.dst v') w') :
    if Region.wanted o (yielded ops a.tmps) = true then Oper.wp Try.prog o a w K Q else E := by
  have hw : Region.wanted o (yielded ops a.tmps) = true := by simp [Region.wanted, hgd]
  rw [if_pos hw]
  obtain ⟨v', w', hr, h2, h3, h4⟩ := run_appR ht hinf hzs hk hby w v css g cs hown hcs h1 hcell hl hB (ty := o.type)
  unfold Oper.wp execOp
  simp only [ho, resolve, invoke, builtin, Sem.run_bind, Sem.run_pure, Result.andThen_ok, List.map_toArray, List.map_cons, List.map_nil, hs, hx, hr]
  exact h v' w' h2 h3 h4
theorem new3 (w : World) (a b c : Value) (ty : TypeId) : ∀ j (hj : j < [a, b, c].length), (w.alloc (.cells #[a, b, c] ty)).cell? ⟨w.heap.size, j, none⟩ = some [a, b, c][j] := by
  intro j hj
  have hj' : j < 3 := hj
  match j, hj' with
  | 0, _ => exact cell_new w _ _ _ 0
  | 1, _ => exact cell_new w _ _ _ 1
  | 2, _ => exact cell_new w _ _ _ 2
theorem new7 (w : World) (a b c d e f h : Value) (ty : TypeId) : ∀ j (hj : j < [a, b, c, d, e, f, h].length), (w.alloc (.cells #[a, b, c, d, e, f, h] ty)).cell? ⟨w.heap.size, j, none⟩ = some [a, b, c, d, e, f, h][j] := by
  intro j hj
  have hj' : j < 7 := hj
  match j, hj' with
  | 0, _ => exact cell_new w _ _ _ 0
  | 1, _ => exact cell_new w _ _ _ 1
  | 2, _ => exact cell_new w _ _ _ 2
  | 3, _ => exact cell_new w _ _ _ 3
  | 4, _ => exact cell_new w _ _ _ 4
  | 5, _ => exact cell_new w _ _ _ 5
  | 6, _ => exact cell_new w _ _ _ 6
theorem one_item (k : Int) (a b : ByteArray) : ∀ u ∈ ([.int .i64 k, .string a, .string b] : List Value), u.oneCell' = true := by simp [Value.oneCell']
theorem one_col (a : ByteArray) (k : Int) (b : ByteArray) : ∀ u ∈ ([.string a, .int .i64 k, .string b] : List Value), u.oneCell' = true := by simp [Value.oneCell']
theorem one_expr (o : Int) (p : Pay) (a : Option Addr) (n c : Nat) : ∀ u ∈ ([.int .i64 o, .int .i64 p.1, .int .i64 p.2.1, .string p.2.2.1, .string p.2.2.2.1, .string p.2.2.2.2, .slice a n c] : List Value), u.oneCell' = true := by simp [Value.oneCell']

end Go.Proofs.Ytnboooaockgoiab
/- Schemas in memory: texts, tables, doors; the walks of their copies. -/
namespace Go.Proofs.Ytnboooaockgoiab
open Go.RowKit
set_option linter.unusedVariables false
set_option linter.unusedSimpArgs false

def eStr : Ek ByteArray := ⟨1, fun _ _ s cs => cs = [.string s], fun _ h => h, fun _ h => h⟩
structure Tbl where
  name : ByteArray
  cols : List Co
  index : List ByteArray
def eTbl : Ek Tbl := ⟨3, fun Q w t cs => ∃ a n c a' n' c', cs = [.string t.name, .slice a n c, .slice a' n' c'] ∧ RowIs eCol Q w (.slice a n c) t.cols ∧ RowIs eStr Q w (.slice a' n' c') t.index,
  fun hk ⟨a, n, c, a', n', c', h1, h2, h3⟩ => ⟨a, n, c, a', n', c', h1, h2.keep (by decide) hk, h3.keep (by decide) hk⟩, fun hk ⟨a, n, c, a', n', c', h1, h2, h3⟩ => ⟨a, n, c, a', n', c', h1, h2.mono (by decide) hk, h3.mono (by decide) hk⟩⟩
structure Vw where
  name : ByteArray
  strip : List Int
  act : Sm
def eVw : Ek Vw := ⟨15, fun Q w t cs => ∃ a n c s, cs = .string t.name :: .slice a n c :: svC s ∧ RowIs eTag Q w (.slice a n c) t.strip ∧ IsS Q w t.act s ∧ s.inn = (none, 0, 0),
  fun hk ⟨a, n, c, s, h1, h2, h3, h4⟩ => ⟨a, n, c, s, h1, h2.keep (by decide) hk, h3.keep hk, h4⟩, fun hk ⟨a, n, c, s, h1, h2, h3, h4⟩ => ⟨a, n, c, s, h1, h2.mono (by decide) hk, h3.mono hk, h4⟩⟩
/-- Texts that are not too long. -/
def StrB (s : ByteArray) : Prop := s.size ≤ 500
def ColB (c : Co) : Prop := c.1.size ≤ 500 ∧ c.2.2.size ≤ 500
def ItB (c : It) : Prop := c.2.1.size ≤ 500 ∧ c.2.2.size ≤ 500
def TrB : Tr → Prop
  | .nil => True
  | .node _ _ p l r => (p.2.2.1.size ≤ 500 ∧ p.2.2.2.1.size ≤ 500 ∧ p.2.2.2.2.size ≤ 500) ∧ TrB l ∧ TrB r
/-- A list of such ones. -/
def AllB {α : Type} (P : α → Prop) (l : List α) : Prop := l.length ≤ 500 ∧ ∀ x ∈ l, P x
def TblB (t : Tbl) : Prop := StrB t.name ∧ AllB ColB t.cols ∧ AllB StrB t.index
def SmB (m : Sm) : Prop := (StrB m.table ∧ StrB m.name ∧ StrB m.join) ∧ AllB ColB m.cols ∧ m.tags.length ≤ 500 ∧ AllB TrB m.values ∧ AllB ItB m.items ∧ AllB TrB m.on ∧ AllB TrB m.wh ∧ AllB TrB m.order
def VwB (v : Vw) : Prop := StrB v.name ∧ v.strip.length ≤ 500 ∧ SmB v.act

/-- What a call that tells a row tells. -/
def TeR {α : Type} (e : Ek α) (w : World) (l : List α) (en : Ending) (w' : World) : Prop :=
  ∃ a m d, en = .returned (.slice a m d) ∧ RowIs e (fun b => w.heap.size ≤ b) w' (.slice a m d) l ∧ Below w.heap.size w w'
/-- What a call that tells a row of its own tells. -/
def TeO {α : Type} (e : Ek α) (ty : TypeId) (w : World) (l : List α) (en : Ending) (w' : World) : Prop :=
  ∃ a m d css, en = .returned (.slice a m d) ∧ OwnR ty e.k w.heap.size w' (.slice a m d) css ∧ css.length = l.length ∧ (∀ i (h1 : i < l.length) (h2 : i < css.length), e.E (fun b => w.heap.size ≤ b ∧ some b ≠ (Value.slice a m d).ownBlock) w' l[i] css[i]) ∧ Below w.heap.size w w'
/-- A function that copies one thing. -/
def Cp {α : Type} (e : Ek α) (N : Nat) (x : α) : Prop := ∀ (Q : Nat → Prop) (w : World) (cs : List Value), e.E Q w x cs → Calls Try.prog N #[.agg cs.toArray] w fun en w' => ∃ cs', en = .returned (.agg cs'.toArray) ∧ e.E (fun b => w.heap.size ≤ b) w' x cs' ∧ Below w.heap.size w w'

/-- A block as it is. -/
structure Bk (w : World) (b : Nat) (o : Obj) : Prop where
  row : w.heap[b]? = some o
theorem Bk.new (w : World) (o : Obj) : Bk (w.alloc o) w.heap.size o := ⟨heap_alloc_new w o⟩
theorem Bk.lt {w : World} {b : Nat} {o : Obj} (h : Bk w b o) : b < w.heap.size := (Array.getElem?_eq_some_iff.1 h.row).1
theorem Bk.later {w w' : World} {b : Nat} {o : Obj} (h : Bk w b o) (hb : Below w.heap.size w w') : Bk w' b o := ⟨(hb.block b h.lt).trans h.row⟩
theorem Bk.cell {w : World} {b : Nat} {arr : Array Value} {t : TypeId} {mk : Nat × Nat} (h : Bk w b (.cells arr t mk)) (j : Nat) : w.cell? ⟨b, j, none⟩ = arr[j]? := by
  unfold World.cell?; rw [h.row]; rfl
theorem Bk.free {w : World} {b : Nat} {arr : Array Value} {t : TypeId} (h : Bk w b (.cells arr t (0, 0))) (j : Nat) : w.frozen? ⟨b, j, none⟩ = false := by
  unfold World.frozen?; rw [h.row]; rfl

theorem OwnR.later {ty k B : Nat} {w w' : World} {v : Value} {css : List (List Value)} (h : OwnR ty k B w v css) (hb : Below w.heap.size w w') : OwnR ty k B w' v css := by
  refine ⟨h.1, h.2.1, ?_⟩
  rcases h.2.2 with k | ⟨b, cap, cur, hv, hg', hh, r⟩
  · exact .inl k
  · exact .inr ⟨b, cap, cur, hv, hg', by rw [hb.block b (Array.getElem?_eq_some_iff.1 hh).1]; exact hh, r⟩
theorem Below.grownR {B : Nat} {a w w' : World} {row : Option Nat} (h : Below B a w) (hB : B ≤ w.heap.size) (hg : w.grownBy w' row) (hrow : ∀ k, row = some k → B ≤ k) : Below B a w' :=
  h.trans ⟨hg.os, hg.tape, hg.output, hg.size, fun k hk => hg.block k (by omega) fun e => by have := hrow k e.symm; omega⟩

/-- A row of the call's own, read, be it empty or not. -/
theorem OwnR.rowE {α : Type} {e : Ek α} {ty B : Nat} {w : World} {v : Value} {css : List (List Value)} {l : List α} {Q : Nat → Prop} (h : OwnR ty e.k B w v css) (hl : l.length = css.length) (hq : ∀ b, B ≤ b → b < w.heap.size → Q b)
    (hE : ∀ i (h1 : i < l.length) (h2 : i < css.length), e.E Q w l[i] css[i]) : RowIs e Q w v l := by
  by_cases hn : css = []
  · subst hn
    obtain rfl : l = [] := List.eq_nil_of_length_eq_zero hl
    rcases h.2.2 with ⟨rfl, _⟩ | ⟨b, cap, cur, rfl, _, _, h1, h2, _⟩
    · exact RowIs.nil _ _ _
    · exact ⟨_, _, cap, rfl, rfl, Nat.zero_le _, Nat.le_trans h2 (by decide), fun h => absurd h (by simp)⟩
  · exact OwnR.row h hl hn hq hE

theorem cellK3 {y : World} {b r j : Nat} {v x0 x1 x2 : Value} (hr : b ≠ r) (h : y.cell? ⟨b, j, none⟩ = some v) : (((y.setCell ⟨r, 0, none⟩ x0).setCell ⟨r, 1, none⟩ x1).setCell ⟨r, 2, none⟩ x2).cell? ⟨b, j, none⟩ = some v := by
  rw [World.cell?_setCell_far _ _ _ _ hr.symm, World.cell?_setCell_far _ _ _ _ hr.symm, World.cell?_setCell_far _ _ _ _ hr.symm]
  exact h
theorem heapK3 {y : World} {b r : Nat} {x0 x1 x2 : Value} (hr : b ≠ r) : (((y.setCell ⟨r, 0, none⟩ x0).setCell ⟨r, 1, none⟩ x1).setCell ⟨r, 2, none⟩ x2).heap[b]? = y.heap[b]? := by
  rw [Below.heap_setCell _ _ _ _ hr, Below.heap_setCell _ _ _ _ hr, Below.heap_setCell _ _ _ _ hr]
theorem cellK7 {y : World} {b r j : Nat} {v x0 x1 x2 x3 x4 x5 x6 : Value} (hr : b ≠ r) (h : y.cell? ⟨b, j, none⟩ = some v) : (((((((y.setCell ⟨r, 0, none⟩ x0).setCell ⟨r, 1, none⟩ x1).setCell ⟨r, 2, none⟩ x2).setCell ⟨r, 3, none⟩ x3).setCell ⟨r, 4, none⟩ x4).setCell ⟨r, 5, none⟩ x5).setCell ⟨r, 6, none⟩ x6).cell? ⟨b, j, none⟩ = some v := by
  rw [World.cell?_setCell_far _ _ _ _ hr.symm, World.cell?_setCell_far _ _ _ _ hr.symm, World.cell?_setCell_far _ _ _ _ hr.symm, World.cell?_setCell_far _ _ _ _ hr.symm, World.cell?_setCell_far _ _ _ _ hr.symm, World.cell?_setCell_far _ _ _ _ hr.symm, World.cell?_setCell_far _ _ _ _ hr.symm]
  exact h
theorem heapK7 {y : World} {b r : Nat} {x0 x1 x2 x3 x4 x5 x6 : Value} (hr : b ≠ r) : (((((((y.setCell ⟨r, 0, none⟩ x0).setCell ⟨r, 1, none⟩ x1).setCell ⟨r, 2, none⟩ x2).setCell ⟨r, 3, none⟩ x3).setCell ⟨r, 4, none⟩ x4).setCell ⟨r, 5, none⟩ x5).setCell ⟨r, 6, none⟩ x6).heap[b]? = y.heap[b]? := by
  rw [Below.heap_setCell _ _ _ _ hr, Below.heap_setCell _ _ _ _ hr, Below.heap_setCell _ _ _ _ hr, Below.heap_setCell _ _ _ _ hr, Below.heap_setCell _ _ _ _ hr, Below.heap_setCell _ _ _ _ hr, Below.heap_setCell _ _ _ _ hr]
theorem cellK13 {y : World} {b r j : Nat} {v x0 x1 x2 x3 x4 x5 x6 x7 x8 x9 x10 x11 x12 : Value} (hr : b ≠ r) (h : y.cell? ⟨b, j, none⟩ = some v) : (((((((((((((y.setCell ⟨r, 0, none⟩ x0).setCell ⟨r, 1, none⟩ x1).setCell ⟨r, 2, none⟩ x2).setCell ⟨r, 3, none⟩ x3).setCell ⟨r, 4, none⟩ x4).setCell ⟨r, 5, none⟩ x5).setCell ⟨r, 6, none⟩ x6).setCell ⟨r, 7, none⟩ x7).setCell ⟨r, 8, none⟩ x8).setCell ⟨r, 9, none⟩ x9).setCell ⟨r, 10, none⟩ x10).setCell ⟨r, 11, none⟩ x11).setCell ⟨r, 12, none⟩ x12).cell? ⟨b, j, none⟩ = some v := by
  rw [World.cell?_setCell_far _ _ _ _ hr.symm, World.cell?_setCell_far _ _ _ _ hr.symm, World.cell?_setCell_far _ _ _ _ hr.symm, World.cell?_setCell_far _ _ _ _ hr.symm, World.cell?_setCell_far _ _ _ _ hr.symm, World.cell?_setCell_far _ _ _ _ hr.symm, World.cell?_setCell_far _ _ _ _ hr.symm, World.cell?_setCell_far _ _ _ _ hr.symm, World.cell?_setCell_far _ _ _ _ hr.symm, World.cell?_setCell_far _ _ _ _ hr.symm, World.cell?_setCell_far _ _ _ _ hr.symm, World.cell?_setCell_far _ _ _ _ hr.symm, World.cell?_setCell_far _ _ _ _ hr.symm]
  exact h
theorem heapK13 {y : World} {b r : Nat} {x0 x1 x2 x3 x4 x5 x6 x7 x8 x9 x10 x11 x12 : Value} (hr : b ≠ r) : (((((((((((((y.setCell ⟨r, 0, none⟩ x0).setCell ⟨r, 1, none⟩ x1).setCell ⟨r, 2, none⟩ x2).setCell ⟨r, 3, none⟩ x3).setCell ⟨r, 4, none⟩ x4).setCell ⟨r, 5, none⟩ x5).setCell ⟨r, 6, none⟩ x6).setCell ⟨r, 7, none⟩ x7).setCell ⟨r, 8, none⟩ x8).setCell ⟨r, 9, none⟩ x9).setCell ⟨r, 10, none⟩ x10).setCell ⟨r, 11, none⟩ x11).setCell ⟨r, 12, none⟩ x12).heap[b]? = y.heap[b]? := by
  rw [Below.heap_setCell _ _ _ _ hr, Below.heap_setCell _ _ _ _ hr, Below.heap_setCell _ _ _ _ hr, Below.heap_setCell _ _ _ _ hr, Below.heap_setCell _ _ _ _ hr, Below.heap_setCell _ _ _ _ hr, Below.heap_setCell _ _ _ _ hr, Below.heap_setCell _ _ _ _ hr, Below.heap_setCell _ _ _ _ hr, Below.heap_setCell _ _ _ _ hr, Below.heap_setCell _ _ _ _ hr, Below.heap_setCell _ _ _ _ hr, Below.heap_setCell _ _ _ _ hr]
theorem cellK15 {y : World} {b r j : Nat} {v x0 x1 x2 x3 x4 x5 x6 x7 x8 x9 x10 x11 x12 x13 x14 : Value} (hr : b ≠ r) (h : y.cell? ⟨b, j, none⟩ = some v) : (((((((((((((((y.setCell ⟨r, 0, none⟩ x0).setCell ⟨r, 1, none⟩ x1).setCell ⟨r, 2, none⟩ x2).setCell ⟨r, 3, none⟩ x3).setCell ⟨r, 4, none⟩ x4).setCell ⟨r, 5, none⟩ x5).setCell ⟨r, 6, none⟩ x6).setCell ⟨r, 7, none⟩ x7).setCell ⟨r, 8, none⟩ x8).setCell ⟨r, 9, none⟩ x9).setCell ⟨r, 10, none⟩ x10).setCell ⟨r, 11, none⟩ x11).setCell ⟨r, 12, none⟩ x12).setCell ⟨r, 13, none⟩ x13).setCell ⟨r, 14, none⟩ x14).cell? ⟨b, j, none⟩ = some v := by
  rw [World.cell?_setCell_far _ _ _ _ hr.symm, World.cell?_setCell_far _ _ _ _ hr.symm, World.cell?_setCell_far _ _ _ _ hr.symm, World.cell?_setCell_far _ _ _ _ hr.symm, World.cell?_setCell_far _ _ _ _ hr.symm, World.cell?_setCell_far _ _ _ _ hr.symm, World.cell?_setCell_far _ _ _ _ hr.symm, World.cell?_setCell_far _ _ _ _ hr.symm, World.cell?_setCell_far _ _ _ _ hr.symm, World.cell?_setCell_far _ _ _ _ hr.symm, World.cell?_setCell_far _ _ _ _ hr.symm, World.cell?_setCell_far _ _ _ _ hr.symm, World.cell?_setCell_far _ _ _ _ hr.symm, World.cell?_setCell_far _ _ _ _ hr.symm, World.cell?_setCell_far _ _ _ _ hr.symm]
  exact h
theorem heapK15 {y : World} {b r : Nat} {x0 x1 x2 x3 x4 x5 x6 x7 x8 x9 x10 x11 x12 x13 x14 : Value} (hr : b ≠ r) : (((((((((((((((y.setCell ⟨r, 0, none⟩ x0).setCell ⟨r, 1, none⟩ x1).setCell ⟨r, 2, none⟩ x2).setCell ⟨r, 3, none⟩ x3).setCell ⟨r, 4, none⟩ x4).setCell ⟨r, 5, none⟩ x5).setCell ⟨r, 6, none⟩ x6).setCell ⟨r, 7, none⟩ x7).setCell ⟨r, 8, none⟩ x8).setCell ⟨r, 9, none⟩ x9).setCell ⟨r, 10, none⟩ x10).setCell ⟨r, 11, none⟩ x11).setCell ⟨r, 12, none⟩ x12).setCell ⟨r, 13, none⟩ x13).setCell ⟨r, 14, none⟩ x14).heap[b]? = y.heap[b]? := by
  rw [Below.heap_setCell _ _ _ _ hr, Below.heap_setCell _ _ _ _ hr, Below.heap_setCell _ _ _ _ hr, Below.heap_setCell _ _ _ _ hr, Below.heap_setCell _ _ _ _ hr, Below.heap_setCell _ _ _ _ hr, Below.heap_setCell _ _ _ _ hr, Below.heap_setCell _ _ _ _ hr, Below.heap_setCell _ _ _ _ hr, Below.heap_setCell _ _ _ _ hr, Below.heap_setCell _ _ _ _ hr, Below.heap_setCell _ _ _ _ hr, Below.heap_setCell _ _ _ _ hr, Below.heap_setCell _ _ _ _ hr, Below.heap_setCell _ _ _ _ hr]

/-- Block b is stored into, cell by cell, from its first on. -/
def stW (w : World) (b : Nat) (l : List Value) : World := w.setCells b 0 l
theorem Bk.there {w : World} {b : Nat} {arr : Array Value} {t : TypeId} (h : Bk w b (.cells arr t (0, 0))) {n : Nat} (hn : n = arr.size) : w.there b 0 n := fun j hj => by
  subst hn
  rw [Nat.zero_add, h.cell j, Array.getElem?_eq_getElem hj]
  exact ⟨rfl, h.free j⟩
theorem setCells_heap {b k : Nat} (hk : k ≠ b) : ∀ (l : List Value) (o : Nat) (w : World), (w.setCells b o l).heap[k]? = w.heap[k]?
  | [], _, _ => rfl
  | v :: r, o, w => by rw [World.setCells, setCells_heap hk r, Below.heap_setCell _ _ _ _ hk]
theorem setCells_below {B b : Nat} (hb : B ≤ b) {a : World} : ∀ (l : List Value) (o : Nat) (w : World), Below B a w → Below B a (w.setCells b o l)
  | [], _, _, h => h
  | v :: r, o, w, h => setCells_below hb r (o + 1) _ (h.setCell hb _)
theorem stW_heap {w : World} {b k : Nat} {l : List Value} (hk : k ≠ b) : (stW w b l).heap[k]? = w.heap[k]? := setCells_heap hk l 0 w
theorem stW_below {B b : Nat} {a w : World} {l : List Value} (h : Below B a w) (hb : B ≤ b) : Below B a (stW w b l) := setCells_below hb l 0 w h
theorem stW_far {w : World} {b k j : Nat} {l : List Value} {v : Value} (hk : k ≠ b) (h : w.cell? ⟨k, j, none⟩ = some v) : (stW w b l).cell? ⟨k, j, none⟩ = some v := (World.cell?_of_block (a := ⟨k, j, none⟩) (stW_heap hk)).trans h
theorem stW_cell {w : World} {b : Nat} {l : List Value} (ht : w.there b 0 l.length) {j : Nat} {v : Value} (hj : l[j]? = some v) : (stW w b l).cell? ⟨b, j, none⟩ = some v := by
  obtain ⟨hj1, hj2⟩ := List.getElem?_eq_some_iff.1 hj
  have := World.cell?_setCells_in b l 0 w (fun i hi => (ht i hi).1) j hj1
  rw [Nat.zero_add] at this
  unfold stW
  rw [this, hj2]
theorem stW_run {w : World} {b : Nat} {l : List Value} (ht : w.there b 0 l.length) (h1 : ∀ v ∈ l, v.oneCell' = true) : (storeCells ⟨b, 0, none⟩ l 0).run Try.prog w = .ok () (stW w b l) :=
  run_storeCells_cells (P := Try.prog) b 0 l 0 w (fun j hj => by simpa using (ht j hj).1) (fun j hj => by simpa using (ht j hj).2) h1
theorem stW_var {w : World} {b : Nat} {l : List Value} (ht : w.there b 0 l.length) (h1 : l.toArray.all (·.oneCell') = true) {ty : TypeId} (hi : (Try.prog.info? ty).map (·.size) = some l.length) : (storeVar ty ⟨b, 0, none⟩ (.agg l.toArray)).run Try.prog w = .ok () (stW w b l) :=
  run_storeVar_mid w b 0 ty l.toArray (by simpa using ht) (by simpa using hi) h1
theorem stW_at {w : World} {b : Nat} {l : List Value} (ht : w.there b 0 l.length) (h1 : l.toArray.all (·.oneCell') = true) {ty : TypeId} (hi : (Try.prog.info? ty).map (·.size) = some l.length) : (Instr.storeAt ty (.pointer (some ⟨b, 0, none⟩)) (.agg l.toArray)).run Try.prog w = .ok () (stW w b l) :=
  run_storeAt_mid w b 0 ty l.toArray (by simpa using ht) (by simpa using hi) h1

theorem TeO.row {α : Type} {e : Ek α} {ty : TypeId} {w : World} {l : List α} {en : Ending} {w' : World} (h : TeO e ty w l en w') : TeR e w l en w' := by
  obtain ⟨a, m, d, css, h1, h2, h3, h4, h5⟩ := h
  exact ⟨a, m, d, h1, OwnR.rowE h2 h3.symm (fun b hb _ => hb) fun i a b => e.mono (fun b hb _ => hb.1) (h4 i a b), h5⟩

set_option maxRecDepth 100000 in
set_option maxHeartbeats 2000000 in
theorem copyCol_any (c : Co) (hB : ColB c) (w : World) : Calls Try.prog 33 #[.agg #[.string c.1, .int .i64 c.2.1, .string c.2.2]] w fun e w' => e = .returned (.agg #[.string c.1, .int .i64 c.2.1, .string c.2.2]) ∧ Below w.heap.size w w' := by
  obtain ⟨a, k, f⟩ := c
  have H1 : Hid (∀ w, _) := hid fun w => clone_any a hB.1 w
  have H2 : Hid (∀ w, _) := hid fun w => clone_any f hB.2 w
  clear hB
  go_enter Try.func33, Try.ntmps33
  go_upto_region 1 with fail
  generalize hU : (w.alloc (.cells #[.string a, .int .i64 k, .string f] 36)).alloc (.cells #[.string ⟨#[]⟩, .int .i64 0, .string ⟨#[]⟩] 36) = U
  have b0 : Bk U w.heap.size (.cells #[.string a, .int .i64 k, .string f] 36) := hU ▸ (Bk.new w _).later (bal (Below.refl _ _) _)
  have bx : Bk U (w.heap.size + 1) (.cells #[.string ⟨#[]⟩, .int .i64 0, .string ⟨#[]⟩] 36) := by
    have := Bk.new (w.alloc (.cells #[.string a, .int .i64 k, .string f] 36)) (.cells #[.string ⟨#[]⟩, .int .i64 0, .string ⟨#[]⟩] 36)
    rw [World.size_alloc] at this
    exact hU ▸ this
  have hw : Below w.heap.size w U := hU ▸ bal (bal (Below.refl _ _) _) _
  have hs : U.heap.size = w.heap.size + 2 := by rw [← hU]; simp
  have hY : Below U.heap.size U U.drew := (Below.refl _ _).drew
  have c0 := b0.cell 0
  have c1 := b0.cell 1
  have c2 := b0.cell 2
  simp only [List.getElem?_toArray, List.getElem?_cons_zero, List.getElem?_cons_succ] at c0 c1 c2
  replace bx := bx.later hY
  clear  b0
  replace hs : Hid _ := hid hs
  clear hU
  generalize hz : w.heap.size + 1 = z at bx ⊢
  have hzw : w.heap.size < z := by omega
  replace hz : Hid _ := hid hz
  go_wp2
  refine wp_region_held_drew (S := fun w' => w'.cell? ⟨w.heap.size, 0, none⟩ = some (.string a) ∧ w'.cell? ⟨w.heap.size, 1, none⟩ = some (.int .i64 k) ∧ w'.cell? ⟨w.heap.size, 2, none⟩ = some (.string f)) (by kernel_rfl) (⟨cell_later hY c0, cell_later hY c1, cell_later hY c2⟩) (fun hHeld => ?_)
  refine wpAnyH_take (i := 0) (v := ?tv1) rfl (by kernel_rfl) (by kernel_rfl) (by kernel_rfl) (fun _ _ _ h => h) (Or.inl ⟨by rfl, ?hy1⟩) (by assumption) ?rs1
  case hy1 => (intro w9 hSw; (try dsimp only at hSw); go_simp; (try with_reducible rfl))
  (try simp only [Act.put, List.getElem_toArray, List.getElem_cons_zero, List.getElem_cons_succ, List.setIfInBounds_toArray, List.set_cons_zero, List.set_cons_succ])
  refine wpAnyH_take (i := 1) (v := ?tv2) rfl (by kernel_rfl) (by kernel_rfl) (by kernel_rfl) (fun _ _ _ h => h) (Or.inl ⟨by rfl, ?hy2⟩) (by assumption) ?rs2
  case hy2 => (intro w9 hSw; (try dsimp only at hSw); go_simp; (try with_reducible rfl))
  (try simp only [Act.put, List.getElem_toArray, List.getElem_cons_zero, List.getElem_cons_succ, List.setIfInBounds_toArray, List.set_cons_zero, List.set_cons_succ])
  refine wpAnyH_take (i := 3) (v := ?tv3) rfl (by kernel_rfl) (by kernel_rfl) (by kernel_rfl) (fun _ _ _ h => h) (Or.inl ⟨by rfl, ?hy3⟩) (by assumption) ?rs3
  case hy3 => (intro w9 hSw; (try dsimp only at hSw); go_simp; (try with_reducible rfl))
  (try simp only [Act.put, List.getElem_toArray, List.getElem_cons_zero, List.getElem_cons_succ, List.setIfInBounds_toArray, List.set_cons_zero, List.set_cons_succ])
  refine wpAnyH_take (i := 4) (v := ?tv4) rfl (by kernel_rfl) (by kernel_rfl) (by kernel_rfl) (fun _ _ _ h => h) (Or.inl ⟨by rfl, ?hy4⟩) (by assumption) ?rs4
  case hy4 => (intro w9 hSw; (try dsimp only at hSw); go_simp; (try with_reducible rfl))
  (try simp only [Act.put, List.getElem_toArray, List.getElem_cons_zero, List.getElem_cons_succ, List.setIfInBounds_toArray, List.set_cons_zero, List.set_cons_succ])
  refine wpAnyH_take (i := 5) (v := ?tv5) rfl (by kernel_rfl) (by kernel_rfl) (by kernel_rfl) (fun _ _ _ h => h) (Or.inl ⟨by rfl, ?hy5⟩) (by assumption) ?rs5
  case hy5 => (intro w9 hSw; (try dsimp only at hSw); go_simp; (try with_reducible rfl))
  (try simp only [Act.put, List.getElem_toArray, List.getElem_cons_zero, List.getElem_cons_succ, List.setIfInBounds_toArray, List.set_cons_zero, List.set_cons_succ])
  refine wpAnyH_take (i := 6) (v := ?tv6) rfl (by kernel_rfl) (by kernel_rfl) (by kernel_rfl) (fun _ _ _ h => h) (Or.inl ⟨by rfl, ?hy6⟩) (by assumption) ?rs6
  case hy6 => (intro w9 hSw; (try dsimp only at hSw); go_simp; (try with_reducible rfl))
  (try simp only [Act.put, List.getElem_toArray, List.getElem_cons_zero, List.getElem_cons_succ, List.setIfInBounds_toArray, List.set_cons_zero, List.set_cons_succ])
  refine wpAnyH_ready (rs := [2]) (by kernel_rfl) (by simp) ?_
  refine AllReadyH.cons rfl (fun K hK => ?_) AllReadyH.nil
  go_simp
  go_wp2_with (first | (go_at_call 24; (refine Calls.mono (H1.out _) ?_); rintro e y ⟨rfl, hby⟩; replace bx := bx.later hby; replace hY := Below.on hY hby))
  refine hK.out _ _ (⟨cell_later hY c0, cell_later hY c1, cell_later hY c2⟩) (fun hHeld => ?_)
  clear hK K
  (try simp only [Act.put, List.getElem_toArray, List.getElem_cons_zero, List.getElem_cons_succ, List.setIfInBounds_toArray, List.set_cons_zero, List.set_cons_succ])
  refine wpAnyH_ready (rs := [7]) (by kernel_rfl) (by simp) ?_
  refine AllReadyH.cons rfl (fun K hK => ?_) AllReadyH.nil
  go_simp
  go_wp2_with (first | (go_at_call 24; (refine Calls.mono (H2.out _) ?_); rintro e y ⟨rfl, hby⟩; replace bx := bx.later hby; replace hY := Below.on hY hby))
  refine hK.out _ _ (⟨cell_later hY c0, cell_later hY c1, cell_later hY c2⟩) (fun hHeld => ?_)
  clear hK K
  (try simp only [Act.put, List.getElem_toArray, List.getElem_cons_zero, List.getElem_cons_succ, List.setIfInBounds_toArray, List.set_cons_zero, List.set_cons_succ])
  refine wpAnyH_take (i := 8) (v := ?tv7) rfl (by kernel_rfl) (by kernel_rfl) (by kernel_rfl) (fun _ _ _ h => h) (Or.inl ⟨by rfl, ?hy7⟩) (by assumption) ?rs7
  case hy7 => (intro w9 hSw; (try dsimp only at hSw); go_simp; (try with_reducible rfl))
  (try simp only [Act.put, List.getElem_toArray, List.getElem_cons_zero, List.getElem_cons_succ, List.setIfInBounds_toArray, List.set_cons_zero, List.set_cons_succ])
  refine wpAnyH_ready (rs := [9]) (by kernel_rfl) (by simp) ?_
  refine AllReadyH.cons rfl (fun K hK => ?_) AllReadyH.nil
  have hth : y.there z 0 3 := bx.there rfl
  have z0 := stW_cell (l := [.string a, .int .i64 k, .string f]) hth (j := 0) rfl
  have z1 := stW_cell (l := [.string a, .int .i64 k, .string f]) hth (j := 1) rfl
  have z2 := stW_cell (l := [.string a, .int .i64 k, .string f]) hth (j := 2) rfl
  rw [if_pos (by rfl)]
  refine wp_store_mid _ _ _ rfl z 0 (List.toArray [.string a, .int .i64 k, .string f]) rfl rfl hth (by kernel_rfl) (by simp [Value.oneCell']) ?_
  show K _ (stW y z [.string a, .int .i64 k, .string f])
  refine hK.out _ _ (⟨stW_far (by omega) (cell_later hY c0), stW_far (by omega) (cell_later hY c1), stW_far (by omega) (cell_later hY c2)⟩) (fun hHeld => ?_)
  clear hK K hth
  (try simp only [Act.put, List.getElem_toArray, List.getElem_cons_zero, List.getElem_cons_succ, List.setIfInBounds_toArray, List.set_cons_zero, List.set_cons_succ])
  refine wpAnyH_done (by kernel_rfl) ?_ _
  ·
    have hW := Below.trans hw (hY.mono (by have := hw.size; omega))
    clear hY bx
    go_wp2
    refine bodyPost_ret (v := .agg #[.string a, .int .i64 k, .string f]) (by simp [results, Try.results33, go_sem, z0, z1, z2]) rfl ?_
    exact ⟨rfl, stW_below hW (by omega)⟩

theorem copyCol_cp (c : Co) (hB : ColB c) : Cp eCol 33 c := fun Q w cs h => by
  obtain rfl : cs = [.string c.1, .int .i64 c.2.1, .string c.2.2] := h
  exact ((copyCol_any c hB w).mono fun en w' ⟨h1, h2⟩ => ⟨_, h1, rfl, h2⟩)

set_option maxRecDepth 100000 in
set_option maxHeartbeats 2000000 in
theorem copyItem_any (c : It) (hB : ItB c) (w : World) : Calls Try.prog 58 #[.agg #[.int .i64 c.1, .string c.2.1, .string c.2.2]] w fun e w' => e = .returned (.agg #[.int .i64 c.1, .string c.2.1, .string c.2.2]) ∧ Below w.heap.size w w' := by
  obtain ⟨k, a, f⟩ := c
  have H1 : Hid (∀ w, _) := hid fun w => clone_any a hB.1 w
  have H2 : Hid (∀ w, _) := hid fun w => clone_any f hB.2 w
  clear hB
  go_enter Try.func58, Try.ntmps58
  go_upto_region 1 with fail
  generalize hU : (w.alloc (.cells #[.int .i64 k, .string a, .string f] 104)).alloc (.cells #[.int .i64 0, .string ⟨#[]⟩, .string ⟨#[]⟩] 104) = U
  have b0 : Bk U w.heap.size (.cells #[.int .i64 k, .string a, .string f] 104) := hU ▸ (Bk.new w _).later (bal (Below.refl _ _) _)
  have bx : Bk U (w.heap.size + 1) (.cells #[.int .i64 0, .string ⟨#[]⟩, .string ⟨#[]⟩] 104) := by
    have := Bk.new (w.alloc (.cells #[.int .i64 k, .string a, .string f] 104)) (.cells #[.int .i64 0, .string ⟨#[]⟩, .string ⟨#[]⟩] 104)
    rw [World.size_alloc] at this
    exact hU ▸ this
  have hw : Below w.heap.size w U := hU ▸ bal (bal (Below.refl _ _) _) _
  have hs : U.heap.size = w.heap.size + 2 := by rw [← hU]; simp
  have hY : Below U.heap.size U U.drew := (Below.refl _ _).drew
  have c0 := b0.cell 0
  have c1 := b0.cell 1
  have c2 := b0.cell 2
  simp only [List.getElem?_toArray, List.getElem?_cons_zero, List.getElem?_cons_succ] at c0 c1 c2
  replace bx := bx.later hY
  clear  b0
  replace hs : Hid _ := hid hs
  clear hU
  generalize hz : w.heap.size + 1 = z at bx ⊢
  have hzw : w.heap.size < z := by omega
  replace hz : Hid _ := hid hz
  go_wp2
  refine wp_region_held_drew (S := fun w' => w'.cell? ⟨w.heap.size, 0, none⟩ = some (.int .i64 k) ∧ w'.cell? ⟨w.heap.size, 1, none⟩ = some (.string a) ∧ w'.cell? ⟨w.heap.size, 2, none⟩ = some (.string f)) (by kernel_rfl) (⟨cell_later hY c0, cell_later hY c1, cell_later hY c2⟩) (fun hHeld => ?_)
  refine wpAnyH_take (i := 0) (v := ?tv8) rfl (by kernel_rfl) (by kernel_rfl) (by kernel_rfl) (fun _ _ _ h => h) (Or.inl ⟨by rfl, ?hy8⟩) (by assumption) ?rs8
  case hy8 => (intro w9 hSw; (try dsimp only at hSw); go_simp; (try with_reducible rfl))
  (try simp only [Act.put, List.getElem_toArray, List.getElem_cons_zero, List.getElem_cons_succ, List.setIfInBounds_toArray, List.set_cons_zero, List.set_cons_succ])
  refine wpAnyH_take (i := 1) (v := ?tv9) rfl (by kernel_rfl) (by kernel_rfl) (by kernel_rfl) (fun _ _ _ h => h) (Or.inl ⟨by rfl, ?hy9⟩) (by assumption) ?rs9
  case hy9 => (intro w9 hSw; (try dsimp only at hSw); go_simp; (try with_reducible rfl))
  (try simp only [Act.put, List.getElem_toArray, List.getElem_cons_zero, List.getElem_cons_succ, List.setIfInBounds_toArray, List.set_cons_zero, List.set_cons_succ])
  refine wpAnyH_take (i := 2) (v := ?tv10) rfl (by kernel_rfl) (by kernel_rfl) (by kernel_rfl) (fun _ _ _ h => h) (Or.inl ⟨by rfl, ?hy10⟩) (by assumption) ?rs10
  case hy10 => (intro w9 hSw; (try dsimp only at hSw); go_simp; (try with_reducible rfl))
  (try simp only [Act.put, List.getElem_toArray, List.getElem_cons_zero, List.getElem_cons_succ, List.setIfInBounds_toArray, List.set_cons_zero, List.set_cons_succ])
  refine wpAnyH_take (i := 3) (v := ?tv11) rfl (by kernel_rfl) (by kernel_rfl) (by kernel_rfl) (fun _ _ _ h => h) (Or.inl ⟨by rfl, ?hy11⟩) (by assumption) ?rs11
  case hy11 => (intro w9 hSw; (try dsimp only at hSw); go_simp; (try with_reducible rfl))
  (try simp only [Act.put, List.getElem_toArray, List.getElem_cons_zero, List.getElem_cons_succ, List.setIfInBounds_toArray, List.set_cons_zero, List.set_cons_succ])
  refine wpAnyH_take (i := 5) (v := ?tv12) rfl (by kernel_rfl) (by kernel_rfl) (by kernel_rfl) (fun _ _ _ h => h) (Or.inl ⟨by rfl, ?hy12⟩) (by assumption) ?rs12
  case hy12 => (intro w9 hSw; (try dsimp only at hSw); go_simp; (try with_reducible rfl))
  (try simp only [Act.put, List.getElem_toArray, List.getElem_cons_zero, List.getElem_cons_succ, List.setIfInBounds_toArray, List.set_cons_zero, List.set_cons_succ])
  refine wpAnyH_take (i := 6) (v := ?tv13) rfl (by kernel_rfl) (by kernel_rfl) (by kernel_rfl) (fun _ _ _ h => h) (Or.inl ⟨by rfl, ?hy13⟩) (by assumption) ?rs13
  case hy13 => (intro w9 hSw; (try dsimp only at hSw); go_simp; (try with_reducible rfl))
  (try simp only [Act.put, List.getElem_toArray, List.getElem_cons_zero, List.getElem_cons_succ, List.setIfInBounds_toArray, List.set_cons_zero, List.set_cons_succ])
  refine wpAnyH_ready (rs := [4]) (by kernel_rfl) (by simp) ?_
  refine AllReadyH.cons rfl (fun K hK => ?_) AllReadyH.nil
  go_simp
  go_wp2_with (first | (go_at_call 24; (refine Calls.mono (H1.out _) ?_); rintro e y ⟨rfl, hby⟩; replace bx := bx.later hby; replace hY := Below.on hY hby))
  refine hK.out _ _ (⟨cell_later hY c0, cell_later hY c1, cell_later hY c2⟩) (fun hHeld => ?_)
  clear hK K
  (try simp only [Act.put, List.getElem_toArray, List.getElem_cons_zero, List.getElem_cons_succ, List.setIfInBounds_toArray, List.set_cons_zero, List.set_cons_succ])
  refine wpAnyH_ready (rs := [7]) (by kernel_rfl) (by simp) ?_
  refine AllReadyH.cons rfl (fun K hK => ?_) AllReadyH.nil
  go_simp
  go_wp2_with (first | (go_at_call 24; (refine Calls.mono (H2.out _) ?_); rintro e y ⟨rfl, hby⟩; replace bx := bx.later hby; replace hY := Below.on hY hby))
  refine hK.out _ _ (⟨cell_later hY c0, cell_later hY c1, cell_later hY c2⟩) (fun hHeld => ?_)
  clear hK K
  (try simp only [Act.put, List.getElem_toArray, List.getElem_cons_zero, List.getElem_cons_succ, List.setIfInBounds_toArray, List.set_cons_zero, List.set_cons_succ])
  refine wpAnyH_take (i := 8) (v := ?tv14) rfl (by kernel_rfl) (by kernel_rfl) (by kernel_rfl) (fun _ _ _ h => h) (Or.inl ⟨by rfl, ?hy14⟩) (by assumption) ?rs14
  case hy14 => (intro w9 hSw; (try dsimp only at hSw); go_simp; (try with_reducible rfl))
  (try simp only [Act.put, List.getElem_toArray, List.getElem_cons_zero, List.getElem_cons_succ, List.setIfInBounds_toArray, List.set_cons_zero, List.set_cons_succ])
  refine wpAnyH_ready (rs := [9]) (by kernel_rfl) (by simp) ?_
  refine AllReadyH.cons rfl (fun K hK => ?_) AllReadyH.nil
  have hth : y.there z 0 3 := bx.there rfl
  have z0 := stW_cell (l := [.int .i64 k, .string a, .string f]) hth (j := 0) rfl
  have z1 := stW_cell (l := [.int .i64 k, .string a, .string f]) hth (j := 1) rfl
  have z2 := stW_cell (l := [.int .i64 k, .string a, .string f]) hth (j := 2) rfl
  rw [if_pos (by rfl)]
  refine wp_store_mid _ _ _ rfl z 0 (List.toArray [.int .i64 k, .string a, .string f]) rfl rfl hth (by kernel_rfl) (by simp [Value.oneCell']) ?_
  show K _ (stW y z [.int .i64 k, .string a, .string f])
  refine hK.out _ _ (⟨stW_far (by omega) (cell_later hY c0), stW_far (by omega) (cell_later hY c1), stW_far (by omega) (cell_later hY c2)⟩) (fun hHeld => ?_)
  clear hK K hth
  (try simp only [Act.put, List.getElem_toArray, List.getElem_cons_zero, List.getElem_cons_succ, List.setIfInBounds_toArray, List.set_cons_zero, List.set_cons_succ])
  refine wpAnyH_done (by kernel_rfl) ?_ _
  ·
    have hW := Below.trans hw (hY.mono (by have := hw.size; omega))
    clear hY bx
    go_wp2
    refine bodyPost_ret (v := .agg #[.int .i64 k, .string a, .string f]) (by simp [results, Try.results58, go_sem, z0, z1, z2]) rfl ?_
    exact ⟨rfl, stW_below hW (by omega)⟩

theorem copyItem_cp (c : It) (hB : ItB c) : Cp eItem 58 c := fun Q w cs h => by
  obtain rfl : cs = [.int .i64 c.1, .string c.2.1, .string c.2.2] := h
  exact ((copyItem_any c hB w).mono fun en w' ⟨h1, h2⟩ => ⟨_, h1, rfl, h2⟩)

end Go.Proofs.Ytnboooaockgoiab
