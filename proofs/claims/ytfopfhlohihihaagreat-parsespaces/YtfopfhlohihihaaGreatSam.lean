import Derived.Test.YtfopfhlohihihaaGreatSal
namespace Go.Proofs.YtfopfhlohihihaaGreat
open Go.RowKit
set_option linter.unusedVariables false
set_option linter.unusedSimpArgs false
abbrev Sl := Option Addr × Nat × Nat
abbrev slV (s : Sl) : Value := .slice s.1 s.2.1 s.2.2
structure Sv where
 k : Int
 tb : ByteArray
 nm : ByteArray
 co : Sl
 ta : Sl
 va : Sl
 it : Sl
 jn : ByteArray
 on : Sl
 wh : Sl
 od : Sl
 ds : Bool
 inn : Sl
def stV (s : Sv) : Value := .agg #[.int .i64 s.k,.string s.tb,.string s.nm,.slice s.co.1 s.co.2.1 s.co.2.2,.slice s.ta.1 s.ta.2.1 s.ta.2.2,.slice s.va.1 s.va.2.1 s.va.2.2,.slice s.it.1 s.it.2.1 s.it.2.2,.string s.jn,.slice s.on.1 s.on.2.1 s.on.2.2,.slice s.wh.1 s.wh.2.1 s.wh.2.2,.slice s.od.1 s.od.2.1 s.od.2.2,.bool s.ds,.slice s.inn.1 s.inn.2.1 s.inn.2.2]
def svC (s : Sv) : List Value := [.int .i64 s.k,.string s.tb,.string s.nm,.slice s.co.1 s.co.2.1 s.co.2.2,.slice s.ta.1 s.ta.2.1 s.ta.2.2,.slice s.va.1 s.va.2.1 s.va.2.2,.slice s.it.1 s.it.2.1 s.it.2.2,.string s.jn,.slice s.on.1 s.on.2.1 s.on.2.2,.slice s.wh.1 s.wh.2.1 s.wh.2.2,.slice s.od.1 s.od.2.1 s.od.2.2,.bool s.ds,.slice s.inn.1 s.inn.2.1 s.inn.2.2]
abbrev zS (k : Int) : Sv := ⟨k,⟨#[]⟩,⟨#[]⟩,(none,0,0),(none,0,0),(none,0,0),(none,0,0),⟨#[]⟩,(none,0,0),(none,0,0),(none,0,0),false,(none,0,0)⟩
structure Bs (w : World) (b : Nat) (s : Sv) : Prop where
 row : w.heap[b]? = some (.cells #[.int .i64 s.k,.string s.tb,.string s.nm,.slice s.co.1 s.co.2.1 s.co.2.2,.slice s.ta.1 s.ta.2.1 s.ta.2.2,.slice s.va.1 s.va.2.1 s.va.2.2,.slice s.it.1 s.it.2.1 s.it.2.2,.string s.jn,.slice s.on.1 s.on.2.1 s.on.2.2,.slice s.wh.1 s.wh.2.1 s.wh.2.2,.slice s.od.1 s.od.2.1 s.od.2.2,.bool s.ds,.slice s.inn.1 s.inn.2.1 s.inn.2.2] 30 (0,0))
theorem Bs.new (w : World) (s : Sv) : Bs (w.alloc (.cells #[.int .i64 s.k,.string s.tb,.string s.nm,.slice s.co.1 s.co.2.1 s.co.2.2,.slice s.ta.1 s.ta.2.1 s.ta.2.2,.slice s.va.1 s.va.2.1 s.va.2.2,.slice s.it.1 s.it.2.1 s.it.2.2,.string s.jn,.slice s.on.1 s.on.2.1 s.on.2.2,.slice s.wh.1 s.wh.2.1 s.wh.2.2,.slice s.od.1 s.od.2.1 s.od.2.2,.bool s.ds,.slice s.inn.1 s.inn.2.1 s.inn.2.2] 30)) w.heap.size s := ⟨heap_alloc_new w _⟩
theorem Bs.lt {w : World} {b : Nat} {s : Sv} (h : Bs w b s) : b < w.heap.size := (Array.getElem?_eq_some_iff.1 h.row).1
theorem Bs.keep {w w' : World} {b : Nat} {s : Sv} (h : Bs w b s) (hk : w'.heap[b]? = w.heap[b]?) : Bs w' b s := ⟨hk.trans h.row⟩
theorem Bs.later {w w' : World} {b : Nat} {s : Sv} (h : Bs w b s) (hb : Below w.heap.size w w') : Bs w' b s := h.keep (hb.block b h.lt)
theorem Bs.but {w w' : World} {b g : Nat} {s : Sv} (h : Bs w b s) (hb : But g w w') (hg : b ≠ g) : Bs w' b s := h.keep (hb.block b h.lt hg)
theorem Bs.cells {w : World} {b : Nat} {s : Sv} (h : Bs w b s) : w.cell? ⟨b,0,none⟩ = some (.int .i64 s.k) ∧ w.cell? ⟨b,1,none⟩ = some (.string s.tb) ∧ w.cell? ⟨b,2,none⟩ = some (.string s.nm) ∧ w.cell? ⟨b,3,none⟩ = some (.slice s.co.1 s.co.2.1 s.co.2.2) ∧ w.cell? ⟨b,4,none⟩ = some (.slice s.ta.1 s.ta.2.1 s.ta.2.2) ∧ w.cell? ⟨b,5,none⟩ = some (.slice s.va.1 s.va.2.1 s.va.2.2) ∧ w.cell? ⟨b,6,none⟩ = some (.slice s.it.1 s.it.2.1 s.it.2.2) ∧ w.cell? ⟨b,7,none⟩ = some (.string s.jn) ∧ w.cell? ⟨b,8,none⟩ = some (.slice s.on.1 s.on.2.1 s.on.2.2) ∧ w.cell? ⟨b,9,none⟩ = some (.slice s.wh.1 s.wh.2.1 s.wh.2.2) ∧ w.cell? ⟨b,10,none⟩ = some (.slice s.od.1 s.od.2.1 s.od.2.2) ∧ w.cell? ⟨b,11,none⟩ = some (.bool s.ds) ∧ w.cell? ⟨b,12,none⟩ = some (.slice s.inn.1 s.inn.2.1 s.inn.2.2) := by
 unfold World.cell?; rw [h.row]; exact ⟨rfl,rfl,rfl,rfl,rfl,rfl,rfl,rfl,rfl,rfl,rfl,rfl,rfl⟩
theorem Bs.free {w : World} {b : Nat} {s : Sv} (h : Bs w b s) : w.frozen? ⟨b,0,none⟩ = false ∧ w.frozen? ⟨b,1,none⟩ = false ∧ w.frozen? ⟨b,2,none⟩ = false ∧ w.frozen? ⟨b,3,none⟩ = false ∧ w.frozen? ⟨b,4,none⟩ = false ∧ w.frozen? ⟨b,5,none⟩ = false ∧ w.frozen? ⟨b,6,none⟩ = false ∧ w.frozen? ⟨b,7,none⟩ = false ∧ w.frozen? ⟨b,8,none⟩ = false ∧ w.frozen? ⟨b,9,none⟩ = false ∧ w.frozen? ⟨b,10,none⟩ = false ∧ w.frozen? ⟨b,11,none⟩ = false ∧ w.frozen? ⟨b,12,none⟩ = false := by
 unfold World.frozen?; rw [h.row]; exact ⟨rfl,rfl,rfl,rfl,rfl,rfl,rfl,rfl,rfl,rfl,rfl,rfl,rfl⟩
theorem Bs.other {w : World} {b : Nat} {s : Sv} (h : Bs w b s) {r : Nat} (hr : b ≠ r) (o : Nat) (v : Value) : Bs (w.setCell ⟨r,o,none⟩ v) b s := h.keep (Below.heap_setCell _ _ _ _ hr)
theorem Bs.set1 {w : World} {b : Nat} {s : Sv} (h : Bs w b s) (v : ByteArray) : Bs (w.setCell ⟨b,1,none⟩ (.string v)) b { s with tb := v } := ⟨by simp [World.setCell,Array.getElem?_modify,h.row]⟩
theorem Bs.set2 {w : World} {b : Nat} {s : Sv} (h : Bs w b s) (v : ByteArray) : Bs (w.setCell ⟨b,2,none⟩ (.string v)) b { s with nm := v } := ⟨by simp [World.setCell,Array.getElem?_modify,h.row]⟩
theorem Bs.set3 {w : World} {b : Nat} {s : Sv} (h : Bs w b s) (v : Sl) : Bs (w.setCell ⟨b,3,none⟩ (.slice v.1 v.2.1 v.2.2)) b { s with co := v } := ⟨by simp [World.setCell,Array.getElem?_modify,h.row]⟩
theorem Bs.set4 {w : World} {b : Nat} {s : Sv} (h : Bs w b s) (v : Sl) : Bs (w.setCell ⟨b,4,none⟩ (.slice v.1 v.2.1 v.2.2)) b { s with ta := v } := ⟨by simp [World.setCell,Array.getElem?_modify,h.row]⟩
theorem Bs.set5 {w : World} {b : Nat} {s : Sv} (h : Bs w b s) (v : Sl) : Bs (w.setCell ⟨b,5,none⟩ (.slice v.1 v.2.1 v.2.2)) b { s with va := v } := ⟨by simp [World.setCell,Array.getElem?_modify,h.row]⟩
theorem Bs.set6 {w : World} {b : Nat} {s : Sv} (h : Bs w b s) (v : Sl) : Bs (w.setCell ⟨b,6,none⟩ (.slice v.1 v.2.1 v.2.2)) b { s with it := v } := ⟨by simp [World.setCell,Array.getElem?_modify,h.row]⟩
theorem Bs.set7 {w : World} {b : Nat} {s : Sv} (h : Bs w b s) (v : ByteArray) : Bs (w.setCell ⟨b,7,none⟩ (.string v)) b { s with jn := v } := ⟨by simp [World.setCell,Array.getElem?_modify,h.row]⟩
theorem Bs.set8 {w : World} {b : Nat} {s : Sv} (h : Bs w b s) (v : Sl) : Bs (w.setCell ⟨b,8,none⟩ (.slice v.1 v.2.1 v.2.2)) b { s with on := v } := ⟨by simp [World.setCell,Array.getElem?_modify,h.row]⟩
theorem Bs.set9 {w : World} {b : Nat} {s : Sv} (h : Bs w b s) (v : Sl) : Bs (w.setCell ⟨b,9,none⟩ (.slice v.1 v.2.1 v.2.2)) b { s with wh := v } := ⟨by simp [World.setCell,Array.getElem?_modify,h.row]⟩
theorem Bs.set10 {w : World} {b : Nat} {s : Sv} (h : Bs w b s) (v : Sl) : Bs (w.setCell ⟨b,10,none⟩ (.slice v.1 v.2.1 v.2.2)) b { s with od := v } := ⟨by simp [World.setCell,Array.getElem?_modify,h.row]⟩
theorem Bs.set11 {w : World} {b : Nat} {s : Sv} (h : Bs w b s) (v : Bool) : Bs (w.setCell ⟨b,11,none⟩ (.bool v)) b { s with ds := v } := ⟨by simp [World.setCell,Array.getElem?_modify,h.row]⟩
theorem Bs.set12 {w : World} {b : Nat} {s : Sv} (h : Bs w b s) (v : Sl) : Bs (w.setCell ⟨b,12,none⟩ (.slice v.1 v.2.1 v.2.2)) b { s with inn := v } := ⟨by simp [World.setCell,Array.getElem?_modify,h.row]⟩
def set13 (w : World) (b : Nat) (s : Sv) : World := (((((((((((((w.setCell ⟨b,0,none⟩ (.int .i64 s.k)).setCell ⟨b,1,none⟩ (.string s.tb)).setCell ⟨b,2,none⟩ (.string s.nm)).setCell ⟨b,3,none⟩ (.slice s.co.1 s.co.2.1 s.co.2.2)).setCell ⟨b,4,none⟩ (.slice s.ta.1 s.ta.2.1 s.ta.2.2)).setCell ⟨b,5,none⟩ (.slice s.va.1 s.va.2.1 s.va.2.2)).setCell ⟨b,6,none⟩ (.slice s.it.1 s.it.2.1 s.it.2.2)).setCell ⟨b,7,none⟩ (.string s.jn)).setCell ⟨b,8,none⟩ (.slice s.on.1 s.on.2.1 s.on.2.2)).setCell ⟨b,9,none⟩ (.slice s.wh.1 s.wh.2.1 s.wh.2.2)).setCell ⟨b,10,none⟩ (.slice s.od.1 s.od.2.1 s.od.2.2)).setCell ⟨b,11,none⟩ (.bool s.ds)).setCell ⟨b,12,none⟩ (.slice s.inn.1 s.inn.2.1 s.inn.2.2))
theorem But.set13 {g : Nat} {a w : World} (h : But g a w) {b : Nat} (hb : a.heap.size ≤ b) (s : Sv) : But g a (set13 w b s) := (((((((((((((h.new hb 0 _).new hb 1 _).new hb 2 _).new hb 3 _).new hb 4 _).new hb 5 _).new hb 6 _).new hb 7 _).new hb 8 _).new hb 9 _).new hb 10 _).new hb 11 _).new hb 12 _)
theorem Rp.set13 {w : World} {g : Nat} {S : Sa} {d : Nat} (h : Rp w g S d) {b : Nat} (hb : g < b) (s : Sv) : Rp (set13 w b s) g S d := (((((((((((((h.other hb 0 _).other hb 1 _).other hb 2 _).other hb 3 _).other hb 4 _).other hb 5 _).other hb 6 _).other hb 7 _).other hb 8 _).other hb 9 _).other hb 10 _).other hb 11 _).other hb 12 _)
theorem set13_heap (w : World) (b : Nat) (s : Sv) {k : Nat} (hk : k ≠ b) : (set13 w b s).heap[k]? = w.heap[k]? := by
 unfold set13
 rw [Below.heap_setCell _ _ _ _ hk,Below.heap_setCell _ _ _ _ hk,Below.heap_setCell _ _ _ _ hk,Below.heap_setCell _ _ _ _ hk,Below.heap_setCell _ _ _ _ hk,Below.heap_setCell _ _ _ _ hk,Below.heap_setCell _ _ _ _ hk,Below.heap_setCell _ _ _ _ hk,Below.heap_setCell _ _ _ _ hk,Below.heap_setCell _ _ _ _ hk,Below.heap_setCell _ _ _ _ hk,Below.heap_setCell _ _ _ _ hk,Below.heap_setCell _ _ _ _ hk]
structure IsS (Q : Nat → Prop) (w : World) (m : Sm) (s : Sv) : Prop where
 k : s.k = m.kind
 tb : s.tb = m.table
 nm : s.nm = m.name
 co : RowIs eCol Q w (slV s.co) m.cols
 ta : RowIs eTag Q w (slV s.ta) m.tags
 va : RowIs eExpr Q w (slV s.va) m.values
 it : RowIs eItem Q w (slV s.it) m.items
 jn : s.jn = m.join
 on : RowIs eExpr Q w (slV s.on) m.on
 wh : RowIs eExpr Q w (slV s.wh) m.wh
 od : RowIs eExpr Q w (slV s.od) m.order
 ds : s.ds = m.desc
theorem IsS.keep {Q : Nat → Prop} {w w' : World} {m : Sm} {s : Sv} (hk : ∀ b,Q b → b < w.heap.size → w'.heap[b]? = w.heap[b]?) (h : IsS Q w m s) : IsS Q w' m s :=
 ⟨h.k,h.tb,h.nm,h.co.keep (by decide) hk,h.ta.keep (by decide) hk,h.va.keep (by decide) hk,h.it.keep (by decide) hk,h.jn,h.on.keep (by decide) hk,h.wh.keep (by decide) hk,h.od.keep (by decide) hk,h.ds⟩
theorem IsS.mono {Q Q' : Nat → Prop} {w : World} {m : Sm} {s : Sv} (hk : ∀ b,Q b → b < w.heap.size → Q' b) (h : IsS Q w m s) : IsS Q' w m s :=
 ⟨h.k,h.tb,h.nm,h.co.mono (by decide) hk,h.ta.mono (by decide) hk,h.va.mono (by decide) hk,h.it.mono (by decide) hk,h.jn,h.on.mono (by decide) hk,h.wh.mono (by decide) hk,h.od.mono (by decide) hk,h.ds⟩
theorem IsS.zero (Q : Nat → Prop) (w : World) (k : Int) : IsS Q w (sm k) (zS k) :=
 ⟨rfl,rfl,rfl,RowIs.nil _ _ _,RowIs.nil _ _ _,RowIs.nil _ _ _,RowIs.nil _ _ _,rfl,RowIs.nil _ _ _,RowIs.nil _ _ _,RowIs.nil _ _ _,rfl⟩
def eStmt : Ek Sm := ⟨13,fun Q w m cs => ∃ s,cs = svC s ∧ IsS Q w m s ∧ s.inn = (none,0,0),fun hk ⟨s,h1,h2,h3⟩ => ⟨s,h1,h2.keep hk,h3⟩,fun hk ⟨s,h1,h2,h3⟩ => ⟨s,h1,h2.mono hk,h3⟩⟩
abbrev Sf := Sm × List Sm
def TeS (g : Nat) (w : World) (R : Re Sm) (e : Ending) (w' : World) : Prop :=
 ∃ s,e = .returned (stV s) ∧ But g w w' ∧ Rp w' g (stO R) 0 ∧ ∀ m r,R = .inr (m,r) → IsS (fun b => w.heap.size ≤ b) w' m s ∧ s.inn = (none,0,0)
def TeF (g : Nat) (w : World) (R : Re Sf) (e : Ending) (w' : World) : Prop :=
 ∃ s,e = .returned (stV s) ∧ But g w w' ∧ Rp w' g (stO R) 0 ∧ ∀ m r,R = .inr (m,r) → IsS (fun b => w.heap.size ≤ b) w' m.1 s ∧ RowIs eStmt (fun b => w.heap.size ≤ b) w' (slV s.inn) m.2
def fillR {α : Type} (P : List Tk → Re α) (f : Sm → α → Sm) (R : Re Sm) : Re Sm := thenR R fun m r => mapR (f m) (P r)
theorem fill_st {α : Type} (P : List Tk → Re α) (f : Sm → α → Sm) (R : Re Sm) : stO (fillR P f R) = stO (runP P (stO R)) := by
 cases R with
 | inl x => rfl
 | inr x => exact stO_mapR _ _
theorem fill_inr {α : Type} {P : List Tk → Re α} {f : Sm → α → Sm} {R : Re Sm} {m' : Sm} {r : List Tk} (h : fillR P f R = .inr (m',r)) : ∃ m q x,R = .inr (m,q) ∧ runP P (stO R) = .inr (x,r) ∧ m' = f m x := by
 obtain ⟨m,q,h1,h2⟩ := thenR_inr h
 obtain ⟨x,h3,h4⟩ := mapR_inr h2
 subst h1
 exact ⟨m,q,x,rfl,h3,h4⟩
def startR (k : Int) : Sa → Re Sm := runP fun ts => .inr (sm k,ts)
theorem start_st (k : Int) (S : Sa) : stO (startR k S) = S := by cases S <;> rfl
structure Inv (g : Nat) (w : World) (R : Re Sm) (w1 : World) (s : Sv) : Prop where
 but : But g w w1
 rp : Rp w1 g (stO R) 0
 box : Bs w1 (w.heap.size + 1) s
 zero : Bs w1 w.heap.size (zS 0)
 is : ∀ m r,R = .inr (m,r) → IsS (fun b => w.heap.size + 2 ≤ b) w1 m s ∧ s.inn = (none,0,0)
theorem Inv.start {g : Nat} {w : World} {S : Sa} (h : Rp w g S 0) (k : Int) : Inv g w (startR k S) ((w.alloc (.cells #[.int .i64 (zS 0).k,.string (zS 0).tb,.string (zS 0).nm,.slice (zS 0).co.1 (zS 0).co.2.1 (zS 0).co.2.2,.slice (zS 0).ta.1 (zS 0).ta.2.1 (zS 0).ta.2.2,.slice (zS 0).va.1 (zS 0).va.2.1 (zS 0).va.2.2,.slice (zS 0).it.1 (zS 0).it.2.1 (zS 0).it.2.2,.string (zS 0).jn,.slice (zS 0).on.1 (zS 0).on.2.1 (zS 0).on.2.2,.slice (zS 0).wh.1 (zS 0).wh.2.1 (zS 0).wh.2.2,.slice (zS 0).od.1 (zS 0).od.2.1 (zS 0).od.2.2,.bool (zS 0).ds,.slice (zS 0).inn.1 (zS 0).inn.2.1 (zS 0).inn.2.2] 30)).alloc (.cells #[.int .i64 (zS k).k,.string (zS k).tb,.string (zS k).nm,.slice (zS k).co.1 (zS k).co.2.1 (zS k).co.2.2,.slice (zS k).ta.1 (zS k).ta.2.1 (zS k).ta.2.2,.slice (zS k).va.1 (zS k).va.2.1 (zS k).va.2.2,.slice (zS k).it.1 (zS k).it.2.1 (zS k).it.2.2,.string (zS k).jn,.slice (zS k).on.1 (zS k).on.2.1 (zS k).on.2.2,.slice (zS k).wh.1 (zS k).wh.2.1 (zS k).wh.2.2,.slice (zS k).od.1 (zS k).od.2.1 (zS k).od.2.2,.bool (zS k).ds,.slice (zS k).inn.1 (zS k).inn.2.1 (zS k).inn.2.2] 30)) (zS k) := by
 refine ⟨((But.refl g w).alloc _).alloc _,by rw [start_st]; exact (h.alloc _).alloc _,?_,(Bs.new w (zS 0)).later (bal (Below.refl _ _) _),fun m r e => ?_⟩
 ·have := Bs.new (w.alloc (.cells #[.int .i64 (zS 0).k,.string (zS 0).tb,.string (zS 0).nm,.slice (zS 0).co.1 (zS 0).co.2.1 (zS 0).co.2.2,.slice (zS 0).ta.1 (zS 0).ta.2.1 (zS 0).ta.2.2,.slice (zS 0).va.1 (zS 0).va.2.1 (zS 0).va.2.2,.slice (zS 0).it.1 (zS 0).it.2.1 (zS 0).it.2.2,.string (zS 0).jn,.slice (zS 0).on.1 (zS 0).on.2.1 (zS 0).on.2.2,.slice (zS 0).wh.1 (zS 0).wh.2.1 (zS 0).wh.2.2,.slice (zS 0).od.1 (zS 0).od.2.1 (zS 0).od.2.2,.bool (zS 0).ds,.slice (zS 0).inn.1 (zS 0).inn.2.1 (zS 0).inn.2.2] 30)) (zS k)
  rw [World.size_alloc] at this
  exact this
 ·cases S with
  | inl x => cases e
  | inr ts => cases e; exact ⟨IsS.zero _ _ k,rfl⟩
theorem Inv.lt {g : Nat} {w : World} {R : Re Sm} {w1 : World} {s : Sv} (h : Inv g w R w1 s) : w.heap.size + 2 ≤ w1.heap.size := by have := h.box.lt; omega
theorem Inv.want {g : Nat} {w : World} {R : Re Sm} {w1 w2 : World} {s : Sv} (h : Inv g w R w1 s) (hg : g < w.heap.size) {t : ByteArray} (hr : Rp w2 g (wantS t (stO R)) 0) (hb : But g w1 w2) : Inv g w (wantR t R) w2 s := by
 refine ⟨h.but.trans hb,by rw [stO_wantR]; exact hr,h.box.but hb (by omega),h.zero.but hb (by omega),fun m r e => ?_⟩
 obtain ⟨r',e'⟩ := wantR_inr e
 exact ⟨(h.is m r' e').1.keep fun b hq hlt => hb.block b hlt (by omega),(h.is m r' e').2⟩
theorem Inv.fill {α : Type} {g : Nat} {w : World} {R : Re Sm} {w1 w2 : World} {s s' : Sv} (h : Inv g w R w1 s) (hg : g < w.heap.size) {P : List Tk → Re α} {f : Sm → α → Sm} {i : Nat} {v : Value} (hb : But g w1 w2) (hr : Rp w2 g (stO (runP P (stO R))) 0)
  (hx : Bs w2 (w.heap.size + 1) s → Bs (w2.setCell ⟨w.heap.size + 1,i,none⟩ v) (w.heap.size + 1) s')
  (hi : ∀ m x q r,R = .inr (m,q) → runP P (stO R) = .inr (x,r) → IsS (fun b => w.heap.size + 2 ≤ b) w2 m s → s.inn = (none,0,0) → IsS (fun b => w.heap.size + 2 ≤ b) w2 (f m x) s' ∧ s'.inn = (none,0,0)) :
  Inv g w (fillR P f R) (w2.setCell ⟨w.heap.size + 1,i,none⟩ v) s' := by
 refine ⟨(h.but.trans hb).new (by omega) _ _,by rw [fill_st]; exact hr.other (by omega) _ _,hx (h.box.but hb (by omega)),(h.zero.but hb (by omega)).other (by omega) _ _,fun m r e => ?_⟩
 obtain ⟨m0,q,x,e1,e2,rfl⟩ := fill_inr e
 have h0 := h.is m0 q e1
 have := hi m0 x q r e1 e2 (h0.1.keep fun b hq hlt => hb.block b hlt (by omega)) h0.2
 exact ⟨this.1.keep fun b hq hlt => Below.heap_setCell _ _ _ _ (by show b ≠ w.heap.size + 1; omega),this.2⟩
theorem TeS.fin {g : Nat} {w w1 : World} {R R' : Re Sm} {s : Sv} (hR : R = R') (hg : g < w.heap.size) (h : Inv g w R' w1 s) : TeS g w R (.returned (stV s)) (set13 w1 w.heap.size s) := by
 subst hR
 refine ⟨s,rfl,h.but.set13 (Nat.le_refl _) s,h.rp.set13 hg s,fun m r e => ?_⟩
 obtain ⟨h1,h2⟩ := h.is m r e
 exact ⟨(h1.keep fun b hq hlt => set13_heap _ _ _ (by omega)).mono fun b hb _ => by omega,h2⟩
def up_tb (m : Sm) (x : ByteArray) : Sm := { m with table := x }
theorem Inv.tb {g : Nat} {w : World} {R : Re Sm} {w1 w2 : World} {s : Sv} (h : Inv g w R w1 s) (hg : g < w.heap.size) {x : ByteArray} (hb : But g w1 w2) (hr : Rp w2 g (stO (runP nameP (stO R))) 0) (hu : ∀ u r,runP nameP (stO R) = .inr (u,r) → x = u) :
  Inv g w (fillR nameP up_tb R) (w2.setCell ⟨w.heap.size + 1,1,none⟩ (.string x)) { s with tb := x } :=
 h.fill hg hb hr (fun hx => hx.set1 _) fun m u q r _ e his hin => ⟨{ his with tb := hu u r e },hin⟩
def up_nm (m : Sm) (x : ByteArray) : Sm := { m with name := x }
theorem Inv.nm {g : Nat} {w : World} {R : Re Sm} {w1 w2 : World} {s : Sv} (h : Inv g w R w1 s) (hg : g < w.heap.size) {x : ByteArray} (hb : But g w1 w2) (hr : Rp w2 g (stO (runP nameP (stO R))) 0) (hu : ∀ u r,runP nameP (stO R) = .inr (u,r) → x = u) :
  Inv g w (fillR nameP up_nm R) (w2.setCell ⟨w.heap.size + 1,2,none⟩ (.string x)) { s with nm := x } :=
 h.fill hg hb hr (fun hx => hx.set2 _) fun m u q r _ e his hin => ⟨{ his with nm := hu u r e },hin⟩
def up_jn (m : Sm) (x : ByteArray) : Sm := { m with join := x }
theorem Inv.jn {g : Nat} {w : World} {R : Re Sm} {w1 w2 : World} {s : Sv} (h : Inv g w R w1 s) (hg : g < w.heap.size) {x : ByteArray} (hb : But g w1 w2) (hr : Rp w2 g (stO (runP nameP (stO R))) 0) (hu : ∀ u r,runP nameP (stO R) = .inr (u,r) → x = u) :
  Inv g w (fillR nameP up_jn R) (w2.setCell ⟨w.heap.size + 1,7,none⟩ (.string x)) { s with jn := x } :=
 h.fill hg hb hr (fun hx => hx.set7 _) fun m u q r _ e his hin => ⟨{ his with jn := hu u r e },hin⟩
def up_co (m : Sm) (x : List Co) : Sm := { m with cols := x }
theorem Inv.co {g : Nat} {w : World} {R : Re Sm} {w1 w2 : World} {s : Sv} (h : Inv g w R w1 s) (hg : g < w.heap.size) {P : List Tk → Re (List Co)} {v : Sl} (hb : But g w1 w2) (hr : Rp w2 g (stO (runP P (stO R))) 0) (hu : ∀ u r,runP P (stO R) = .inr (u,r) → RowIs eCol (fun b => w1.heap.size ≤ b) w2 (slV v) u) :
  Inv g w (fillR P up_co R) (w2.setCell ⟨w.heap.size + 1,3,none⟩ (slV v)) { s with co := v } :=
 h.fill hg hb hr (fun hx => hx.set3 _) fun m u q r _ e his hin => ⟨{ his with co := (hu u r e).mono (by decide) fun b hb _ => by have := h.lt; omega },hin⟩
def up_ta (m : Sm) (x : List Int) : Sm := { m with tags := x }
theorem Inv.ta {g : Nat} {w : World} {R : Re Sm} {w1 w2 : World} {s : Sv} (h : Inv g w R w1 s) (hg : g < w.heap.size) {P : List Tk → Re (List Int)} {v : Sl} (hb : But g w1 w2) (hr : Rp w2 g (stO (runP P (stO R))) 0) (hu : ∀ u r,runP P (stO R) = .inr (u,r) → RowIs eTag (fun b => w1.heap.size ≤ b) w2 (slV v) u) :
  Inv g w (fillR P up_ta R) (w2.setCell ⟨w.heap.size + 1,4,none⟩ (slV v)) { s with ta := v } :=
 h.fill hg hb hr (fun hx => hx.set4 _) fun m u q r _ e his hin => ⟨{ his with ta := (hu u r e).mono (by decide) fun b hb _ => by have := h.lt; omega },hin⟩
def up_va (m : Sm) (x : List Tr) : Sm := { m with values := x }
theorem Inv.va {g : Nat} {w : World} {R : Re Sm} {w1 w2 : World} {s : Sv} (h : Inv g w R w1 s) (hg : g < w.heap.size) {P : List Tk → Re (List Tr)} {v : Sl} (hb : But g w1 w2) (hr : Rp w2 g (stO (runP P (stO R))) 0) (hu : ∀ u r,runP P (stO R) = .inr (u,r) → RowIs eExpr (fun b => w1.heap.size ≤ b) w2 (slV v) u) :
  Inv g w (fillR P up_va R) (w2.setCell ⟨w.heap.size + 1,5,none⟩ (slV v)) { s with va := v } :=
 h.fill hg hb hr (fun hx => hx.set5 _) fun m u q r _ e his hin => ⟨{ his with va := (hu u r e).mono (by decide) fun b hb _ => by have := h.lt; omega },hin⟩
def up_it (m : Sm) (x : List It) : Sm := { m with items := x }
theorem Inv.it {g : Nat} {w : World} {R : Re Sm} {w1 w2 : World} {s : Sv} (h : Inv g w R w1 s) (hg : g < w.heap.size) {P : List Tk → Re (List It)} {v : Sl} (hb : But g w1 w2) (hr : Rp w2 g (stO (runP P (stO R))) 0) (hu : ∀ u r,runP P (stO R) = .inr (u,r) → RowIs eItem (fun b => w1.heap.size ≤ b) w2 (slV v) u) :
  Inv g w (fillR P up_it R) (w2.setCell ⟨w.heap.size + 1,6,none⟩ (slV v)) { s with it := v } :=
 h.fill hg hb hr (fun hx => hx.set6 _) fun m u q r _ e his hin => ⟨{ his with it := (hu u r e).mono (by decide) fun b hb _ => by have := h.lt; omega },hin⟩
def up_on (m : Sm) (x : List Tr) : Sm := { m with on := x }
theorem Inv.on {g : Nat} {w : World} {R : Re Sm} {w1 w2 : World} {s : Sv} (h : Inv g w R w1 s) (hg : g < w.heap.size) {P : List Tk → Re (List Tr)} {v : Sl} (hb : But g w1 w2) (hr : Rp w2 g (stO (runP P (stO R))) 0) (hu : ∀ u r,runP P (stO R) = .inr (u,r) → RowIs eExpr (fun b => w1.heap.size ≤ b) w2 (slV v) u) :
  Inv g w (fillR P up_on R) (w2.setCell ⟨w.heap.size + 1,8,none⟩ (slV v)) { s with on := v } :=
 h.fill hg hb hr (fun hx => hx.set8 _) fun m u q r _ e his hin => ⟨{ his with on := (hu u r e).mono (by decide) fun b hb _ => by have := h.lt; omega },hin⟩
def up_wh (m : Sm) (x : List Tr) : Sm := { m with wh := x }
theorem Inv.wh {g : Nat} {w : World} {R : Re Sm} {w1 w2 : World} {s : Sv} (h : Inv g w R w1 s) (hg : g < w.heap.size) {P : List Tk → Re (List Tr)} {v : Sl} (hb : But g w1 w2) (hr : Rp w2 g (stO (runP P (stO R))) 0) (hu : ∀ u r,runP P (stO R) = .inr (u,r) → RowIs eExpr (fun b => w1.heap.size ≤ b) w2 (slV v) u) :
  Inv g w (fillR P up_wh R) (w2.setCell ⟨w.heap.size + 1,9,none⟩ (slV v)) { s with wh := v } :=
 h.fill hg hb hr (fun hx => hx.set9 _) fun m u q r _ e his hin => ⟨{ his with wh := (hu u r e).mono (by decide) fun b hb _ => by have := h.lt; omega },hin⟩
def up_od (m : Sm) (x : List Tr) : Sm := { m with order := x }
theorem Inv.od {g : Nat} {w : World} {R : Re Sm} {w1 w2 : World} {s : Sv} (h : Inv g w R w1 s) (hg : g < w.heap.size) {P : List Tk → Re (List Tr)} {v : Sl} (hb : But g w1 w2) (hr : Rp w2 g (stO (runP P (stO R))) 0) (hu : ∀ u r,runP P (stO R) = .inr (u,r) → RowIs eExpr (fun b => w1.heap.size ≤ b) w2 (slV v) u) :
  Inv g w (fillR P up_od R) (w2.setCell ⟨w.heap.size + 1,10,none⟩ (slV v)) { s with od := v } :=
 h.fill hg hb hr (fun hx => hx.set10 _) fun m u q r _ e his hin => ⟨{ his with od := (hu u r e).mono (by decide) fun b hb _ => by have := h.lt; omega },hin⟩
def up_ds (m : Sm) (x : Bool) : Sm := { m with desc := x }
theorem Inv.ds {g : Nat} {w : World} {R : Re Sm} {w1 w2 : World} {s : Sv} (h : Inv g w R w1 s) (hg : g < w.heap.size) {P : List Tk → Re Bool} {x : Bool} (hb : But g w1 w2) (hr : Rp w2 g (stO (runP P (stO R))) 0) (hu : ∀ u r,runP P (stO R) = .inr (u,r) → x = u) :
  Inv g w (fillR P up_ds R) (w2.setCell ⟨w.heap.size + 1,11,none⟩ (.bool x)) { s with ds := x } :=
 h.fill hg hb hr (fun hx => hx.set11 _) fun m u q r _ e his hin => ⟨{ his with ds := hu u r e },hin⟩
def tableP (ts : List Tk) : Re Sm := fillR (brP colP) up_co (fillR nameP up_nm (startR 1 (.inr ts)))
def indexP (ts : List Tk) : Re Sm := wantR ⟨#[41]⟩ (fillR nameP up_nm (wantR ⟨#[40]⟩ (fillR nameP up_tb (wantR ⟨#[111,110]⟩ (startR 2 (.inr ts))))))
def insertP (ts : List Tk) : Re Sm := fillR (brP (exprP 64)) up_va (wantR ⟨#[118,97,108,117,101,115]⟩ (fillR nameP up_tb (wantR ⟨#[105,110,116,111]⟩ (startR 5 (.inr ts)))))
def deleteP (ts : List Tk) : Re Sm := fillR behindP up_wh (fillR nameP up_tb (wantR ⟨#[102,114,111,109]⟩ (startR 8 (.inr ts))))
theorem shr_seq {α β γ : Type} {f : α → β → γ} {P : List Tk → Re α} {P' : List Tk → Re β} (h : Shr P) (h' : Shr P') : Shr (seqP f P P') := by
 intro ts t r e
 obtain ⟨a,q,h1,h2⟩ := thenR_inr e
 obtain ⟨b,h3,_⟩ := mapR_inr h2
 have := h ts a q h1
 have := h' q b r h3
 omega
theorem shr_want (s : ByteArray) : Shr (wantU s) := by
 intro ts t r e
 rw [wantU] at e
 split at e
 ·cases e; rw [List.length_tail]; omega
 ·cases e
theorem shr_opt {α : Type} {s : ByteArray} {z : α} {P : List Tk → Re α} (h : Shr P) : Shr (optP s z P) := by
 intro ts t r e
 rw [optP] at e
 split at e
 ·have := h _ t r e
  rw [List.length_tail] at this
  omega
 ·cases e; exact Nat.le_refl _
theorem shr_choice (l : List (ByteArray × Int)) : Shr (choiceP l) := by
 intro ts t r e
 rw [choiceP] at e
 split at e
 ·cases e
 ·cases e; rw [List.length_tail]; omega
theorem shr_col : Shr colP := shr_seq shr_name (shr_seq (shr_choice _) (shr_opt shr_name))
theorem shr_tag : Shr tagP := by
 intro ts t r e
 cases ts with
 | nil => cases e
 | cons x l =>
  rw [tagP] at e
  split at e
  ·split at e
   ·cases e
   ·cases e; simp
  ·cases e
theorem shr_item : Shr itemP := by
 intro ts t r e
 rw [itemP] at e
 split at e
 ·have := shr_seq (shr_want _) (shr_seq (shr_want _) (shr_want _)) _ t r e
  rw [List.length_tail] at this
  omega
 ·split at e
  ·obtain ⟨u,h1,_⟩ := mapR_inr e
   exact shr_column ts u r h1
  ·have := shr_seq (shr_want _) (shr_seq shr_column (shr_want _)) _ t r e
   rw [List.length_tail] at this
   omega
theorem part_expr (g : Nat) : PartV g (TeE g 0) (exprP 64) (.func (.func 80) #[.pointer (some ⟨g,0,none⟩)] #[]) := ⟨80,rfl,fun _ _ => by kernel_rfl,fun S w h => expr_any h⟩
theorem part_col (g : Nat) : PartV g (TeCol g) colP (.func (.func 98) #[.pointer (some ⟨g,0,none⟩)] #[]) := ⟨98,rfl,fun _ _ => by kernel_rfl,fun S w h => pCol_any h⟩
theorem part_item (g : Nat) : PartV g (TeItem g) itemP (.func (.func 77) #[.pointer (some ⟨g,0,none⟩)] #[]) := ⟨77,rfl,fun _ _ => by kernel_rfl,fun S w h => pItem_any h⟩
theorem part_tag (g : Nat) : PartV g (TeTag g) tagP (.func (.func 49) #[.pointer (some ⟨g,0,none⟩)] #[]) := ⟨49,rfl,fun _ _ => by kernel_rfl,fun S w h => pTag_any h⟩
theorem tableP_run (S : Sa) : runP tableP S = fillR (brP colP) up_co (fillR nameP up_nm (startR 1 S)) := by cases S <;> rfl
theorem indexP_run (S : Sa) : runP indexP S = wantR ⟨#[41]⟩ (fillR nameP up_nm (wantR ⟨#[40]⟩ (fillR nameP up_tb (wantR ⟨#[111,110]⟩ (startR 2 S))))) := by cases S <;> rfl
theorem insertP_run (S : Sa) : runP insertP S = fillR (brP (exprP 64)) up_va (wantR ⟨#[118,97,108,117,101,115]⟩ (fillR nameP up_tb (wantR ⟨#[105,110,116,111]⟩ (startR 5 S)))) := by cases S <;> rfl
theorem deleteP_run (S : Sa) : runP deleteP S = fillR behindP up_wh (fillR nameP up_tb (wantR ⟨#[102,114,111,109]⟩ (startR 8 S))) := by cases S <;> rfl
set_option maxRecDepth 100000 in
set_option maxHeartbeats 2000000 in
theorem pTable_any {g : Nat} {S : Sa} {w : World} (h : Rp w g S 0) : Calls Tryz.prog 72 #[.pointer (some ⟨g,0,none⟩)] w (TeS g w (runP tableP S)) := by
 have hgl := h.lt
 have hmf : ∀ (fn : Fn) (first cap : Array Value) (w : World),(Instr.makeFunc fn first cap).run Tryz.prog w = .ok (.func fn first cap) w := fun _ _ _ _ => rfl
 have I0 : Inv g w (startR 1 S) ((w.alloc (.cells #[.int .i64 0,.string ⟨#[]⟩,.string ⟨#[]⟩,.slice none 0 0,.slice none 0 0,.slice none 0 0,.slice none 0 0,.string ⟨#[]⟩,.slice none 0 0,.slice none 0 0,.slice none 0 0,.bool false,.slice none 0 0] 30)).alloc (.cells #[.int .i64 1,.string ⟨#[]⟩,.string ⟨#[]⟩,.slice none 0 0,.slice none 0 0,.slice none 0 0,.slice none 0 0,.string ⟨#[]⟩,.slice none 0 0,.slice none 0 0,.slice none 0 0,.bool false,.slice none 0 0] 30)) (zS 1) := Inv.start h 1
 have HR : Hid (runP tableP S = _) := hid (tableP_run S)
 clear h
 go_enter Tryz.func72,Tryz.ntmps72
 have H1 : Hid _ := hid (pName_any I0.rp)
 go_wp2_with fail
 refine Calls.mono H1.out ?_
 rintro e w1 ⟨s1,rfl,hb1,hr1,hu1⟩
 have y1 := I0.box.but hb1 (by omega)
 have cy1 := y1.cells.2.2.1
 have fy1 := y1.free.2.2.1
 have I1 := I0.nm hgl hb1 hr1 hu1
 clear H1 hr1 hb1 hu1 I0 y1
 have H2 : Hid _ := hid (pBrCol_any I1.rp (part_col g) shr_col)
 go_wp2_with fail
 refine Calls.mono H2.out ?_
 rintro e w2 ⟨ao2,ln2,cp2,rfl,hb2,hr2,hu2⟩
 have y2 := I1.box.but hb2 (by omega)
 have cy2 := y2.cells.2.2.2.1
 have fy2 := y2.free.2.2.2.1
 have I2 := I1.co (v := (ao2,ln2,cp2)) hgl hb2 hr2 hu2
 clear H2 hr2 hb2 hu2 I1 y2
 obtain ⟨sv,J⟩ : ∃ sv,Inv g w _ _ sv := ⟨_,I2⟩
 go_upto_region 4 with fail
 generalize w2.setCell ⟨w.heap.size + 1,3,none⟩ (.slice ao2 ln2 cp2) = W at *
 have hq := J.lt
 have T := TeS.fin HR.out hgl J
 obtain ⟨k0,k1,k2,k3,k4,k5,k6,k7,k8,k9,k10,k11,k12⟩ := J.box.cells
 obtain ⟨m0,m1,m2,m3,m4,m5,m6,m7,m8,m9,m10,m11,m12⟩ := J.zero.cells
 obtain ⟨n0,n1,n2,n3,n4,n5,n6,n7,n8,n9,n10,n11,n12⟩ := J.zero.free
 replace T : Hid _ := hid T
 clear I2 J HR
 go_wp2
 refine bodyPost_ret (v := stV sv) (by simp [results,Tryz.results72,go_sem,stV,m0,m1,m2,m3,m4,m5,m6,m7,m8,m9,m10,m11,m12]) rfl ?_
 exact T.out
set_option maxRecDepth 100000 in
set_option maxHeartbeats 2000000 in
theorem pIndex_any {g : Nat} {S : Sa} {w : World} (h : Rp w g S 0) : Calls Tryz.prog 73 #[.pointer (some ⟨g,0,none⟩)] w (TeS g w (runP indexP S)) := by
 have hgl := h.lt
 have hmf : ∀ (fn : Fn) (first cap : Array Value) (w : World),(Instr.makeFunc fn first cap).run Tryz.prog w = .ok (.func fn first cap) w := fun _ _ _ _ => rfl
 have I0 : Inv g w (startR 2 S) ((w.alloc (.cells #[.int .i64 0,.string ⟨#[]⟩,.string ⟨#[]⟩,.slice none 0 0,.slice none 0 0,.slice none 0 0,.slice none 0 0,.string ⟨#[]⟩,.slice none 0 0,.slice none 0 0,.slice none 0 0,.bool false,.slice none 0 0] 30)).alloc (.cells #[.int .i64 2,.string ⟨#[]⟩,.string ⟨#[]⟩,.slice none 0 0,.slice none 0 0,.slice none 0 0,.slice none 0 0,.string ⟨#[]⟩,.slice none 0 0,.slice none 0 0,.slice none 0 0,.bool false,.slice none 0 0] 30)) (zS 2) := Inv.start h 2
 have HR : Hid (runP indexP S = _) := hid (indexP_run S)
 clear h
 go_enter Tryz.func73,Tryz.ntmps73
 have H1 : Hid _ := hid (pWant1 I0.rp ⟨#[111,110]⟩ (b := w.heap.size + 1 + 1) (by simp))
 go_wp2_with fail
 refine Calls.mono H1.out ?_
 rintro e w1 ⟨rfl,hr1,hb1⟩
 have I1 := I0.want hgl hr1 hb1
 clear H1 hr1 hb1 I0
 have H2 : Hid _ := hid (pName_any I1.rp)
 go_wp2_with fail
 refine Calls.mono H2.out ?_
 rintro e w2 ⟨s2,rfl,hb2,hr2,hu2⟩
 have y2 := I1.box.but hb2 (by omega)
 have cy2 := y2.cells.2.1
 have fy2 := y2.free.2.1
 have I2 := I1.tb hgl hb2 hr2 hu2
 clear H2 hr2 hb2 hu2 I1 y2
 have H3 : Hid _ := hid (pWant1 I2.rp ⟨#[40]⟩ (sz_set _ _ _))
 go_wp2_with fail
 refine Calls.mono H3.out ?_
 rintro e w3 ⟨rfl,hr3,hb3⟩
 have I3 := I2.want hgl hr3 hb3
 clear H3 hr3 hb3 I2
 have H4 : Hid _ := hid (pName_any I3.rp)
 go_wp2_with fail
 refine Calls.mono H4.out ?_
 rintro e w4 ⟨s4,rfl,hb4,hr4,hu4⟩
 have y4 := I3.box.but hb4 (by omega)
 have cy4 := y4.cells.2.2.1
 have fy4 := y4.free.2.2.1
 have I4 := I3.nm hgl hb4 hr4 hu4
 clear H4 hr4 hb4 hu4 I3 y4
 have H5 : Hid _ := hid (pWant1 I4.rp ⟨#[41]⟩ (sz_set _ _ _))
 go_wp2_with fail
 refine Calls.mono H5.out ?_
 rintro e w5 ⟨rfl,hr5,hb5⟩
 have I5 := I4.want hgl hr5 hb5
 clear H5 hr5 hb5 I4
 obtain ⟨sv,J⟩ : ∃ sv,Inv g w _ _ sv := ⟨_,I5⟩
 have hq := J.lt
 have T := TeS.fin HR.out hgl J
 obtain ⟨k0,k1,k2,k3,k4,k5,k6,k7,k8,k9,k10,k11,k12⟩ := J.box.cells
 obtain ⟨m0,m1,m2,m3,m4,m5,m6,m7,m8,m9,m10,m11,m12⟩ := J.zero.cells
 obtain ⟨n0,n1,n2,n3,n4,n5,n6,n7,n8,n9,n10,n11,n12⟩ := J.zero.free
 replace T : Hid _ := hid T
 clear I5 J HR
 go_wp2
 refine bodyPost_ret (v := stV sv) (by simp [results,Tryz.results73,go_sem,stV,m0,m1,m2,m3,m4,m5,m6,m7,m8,m9,m10,m11,m12]) rfl ?_
 exact T.out
set_option maxRecDepth 100000 in
set_option maxHeartbeats 2000000 in
theorem pInsert_any {g : Nat} {S : Sa} {w : World} (h : Rp w g S 0) : Calls Tryz.prog 83 #[.pointer (some ⟨g,0,none⟩)] w (TeS g w (runP insertP S)) := by
 have hgl := h.lt
 have hmf : ∀ (fn : Fn) (first cap : Array Value) (w : World),(Instr.makeFunc fn first cap).run Tryz.prog w = .ok (.func fn first cap) w := fun _ _ _ _ => rfl
 have I0 : Inv g w (startR 5 S) ((w.alloc (.cells #[.int .i64 0,.string ⟨#[]⟩,.string ⟨#[]⟩,.slice none 0 0,.slice none 0 0,.slice none 0 0,.slice none 0 0,.string ⟨#[]⟩,.slice none 0 0,.slice none 0 0,.slice none 0 0,.bool false,.slice none 0 0] 30)).alloc (.cells #[.int .i64 5,.string ⟨#[]⟩,.string ⟨#[]⟩,.slice none 0 0,.slice none 0 0,.slice none 0 0,.slice none 0 0,.string ⟨#[]⟩,.slice none 0 0,.slice none 0 0,.slice none 0 0,.bool false,.slice none 0 0] 30)) (zS 5) := Inv.start h 5
 have HR : Hid (runP insertP S = _) := hid (insertP_run S)
 clear h
 go_enter Tryz.func83,Tryz.ntmps83
 have H1 : Hid _ := hid (pWant1 I0.rp ⟨#[105,110,116,111]⟩ (b := w.heap.size + 1 + 1) (by simp))
 go_wp2_with fail
 refine Calls.mono H1.out ?_
 rintro e w1 ⟨rfl,hr1,hb1⟩
 have I1 := I0.want hgl hr1 hb1
 clear H1 hr1 hb1 I0
 have H2 : Hid _ := hid (pName_any I1.rp)
 go_wp2_with fail
 refine Calls.mono H2.out ?_
 rintro e w2 ⟨s2,rfl,hb2,hr2,hu2⟩
 have y2 := I1.box.but hb2 (by omega)
 have cy2 := y2.cells.2.1
 have fy2 := y2.free.2.1
 have I2 := I1.tb hgl hb2 hr2 hu2
 clear H2 hr2 hb2 hu2 I1 y2
 have H3 : Hid _ := hid (pWant1 I2.rp ⟨#[118,97,108,117,101,115]⟩ (sz_set _ _ _))
 go_wp2_with fail
 refine Calls.mono H3.out ?_
 rintro e w3 ⟨rfl,hr3,hb3⟩
 have I3 := I2.want hgl hr3 hb3
 clear H3 hr3 hb3 I2
 have H4 : Hid _ := hid (pBrExpr_any I3.rp (part_expr g) (shr_expr 64))
 go_wp2_with fail
 refine Calls.mono H4.out ?_
 rintro e w4 ⟨ao4,ln4,cp4,rfl,hb4,hr4,hu4⟩
 have y4 := I3.box.but hb4 (by omega)
 have cy4 := y4.cells.2.2.2.2.2.1
 have fy4 := y4.free.2.2.2.2.2.1
 have I4 := I3.va (v := (ao4,ln4,cp4)) hgl hb4 hr4 hu4
 clear H4 hr4 hb4 hu4 I3 y4
 obtain ⟨sv,J⟩ : ∃ sv,Inv g w _ _ sv := ⟨_,I4⟩
 go_upto_region 6 with fail
 generalize w4.setCell ⟨w.heap.size + 1,5,none⟩ (.slice ao4 ln4 cp4) = W at *
 have hq := J.lt
 have T := TeS.fin HR.out hgl J
 obtain ⟨k0,k1,k2,k3,k4,k5,k6,k7,k8,k9,k10,k11,k12⟩ := J.box.cells
 obtain ⟨m0,m1,m2,m3,m4,m5,m6,m7,m8,m9,m10,m11,m12⟩ := J.zero.cells
 obtain ⟨n0,n1,n2,n3,n4,n5,n6,n7,n8,n9,n10,n11,n12⟩ := J.zero.free
 replace T : Hid _ := hid T
 clear I4 J HR
 go_wp2
 refine bodyPost_ret (v := stV sv) (by simp [results,Tryz.results83,go_sem,stV,m0,m1,m2,m3,m4,m5,m6,m7,m8,m9,m10,m11,m12]) rfl ?_
 exact T.out
set_option maxRecDepth 100000 in
set_option maxHeartbeats 2000000 in
theorem pDelete_any {g : Nat} {S : Sa} {w : World} (h : Rp w g S 0) : Calls Tryz.prog 85 #[.pointer (some ⟨g,0,none⟩)] w (TeS g w (runP deleteP S)) := by
 have hgl := h.lt
 have hmf : ∀ (fn : Fn) (first cap : Array Value) (w : World),(Instr.makeFunc fn first cap).run Tryz.prog w = .ok (.func fn first cap) w := fun _ _ _ _ => rfl
 have I0 : Inv g w (startR 8 S) ((w.alloc (.cells #[.int .i64 0,.string ⟨#[]⟩,.string ⟨#[]⟩,.slice none 0 0,.slice none 0 0,.slice none 0 0,.slice none 0 0,.string ⟨#[]⟩,.slice none 0 0,.slice none 0 0,.slice none 0 0,.bool false,.slice none 0 0] 30)).alloc (.cells #[.int .i64 8,.string ⟨#[]⟩,.string ⟨#[]⟩,.slice none 0 0,.slice none 0 0,.slice none 0 0,.slice none 0 0,.string ⟨#[]⟩,.slice none 0 0,.slice none 0 0,.slice none 0 0,.bool false,.slice none 0 0] 30)) (zS 8) := Inv.start h 8
 have HR : Hid (runP deleteP S = _) := hid (deleteP_run S)
 clear h
 go_enter Tryz.func85,Tryz.ntmps85
 have H1 : Hid _ := hid (pWant1 I0.rp ⟨#[102,114,111,109]⟩ (b := w.heap.size + 1 + 1) (by simp))
 go_wp2_with fail
 refine Calls.mono H1.out ?_
 rintro e w1 ⟨rfl,hr1,hb1⟩
 have I1 := I0.want hgl hr1 hb1
 clear H1 hr1 hb1 I0
 have H2 : Hid _ := hid (pName_any I1.rp)
 go_wp2_with fail
 refine Calls.mono H2.out ?_
 rintro e w2 ⟨s2,rfl,hb2,hr2,hu2⟩
 have y2 := I1.box.but hb2 (by omega)
 have cy2 := y2.cells.2.1
 have fy2 := y2.free.2.1
 have I2 := I1.tb hgl hb2 hr2 hu2
 clear H2 hr2 hb2 hu2 I1 y2
 have H3 : Hid _ := hid (pBehind_any ⟨#[119,104,101,114,101]⟩ I2.rp (part_expr g))
 go_wp2_with fail
 refine Calls.mono H3.out ?_
 rintro e w3 ⟨ao3,ln3,cp3,rfl,hb3,hr3,hu3⟩
 have y3 := I2.box.but hb3 (by omega)
 have cy3 := y3.cells.2.2.2.2.2.2.2.2.2.1
 have fy3 := y3.free.2.2.2.2.2.2.2.2.2.1
 have I3 := I2.wh (v := (ao3,ln3,cp3)) hgl hb3 hr3 hu3
 clear H3 hr3 hb3 hu3 I2 y3
 obtain ⟨sv,J⟩ : ∃ sv,Inv g w _ _ sv := ⟨_,I3⟩
 go_upto_region 5 with fail
 generalize w3.setCell ⟨w.heap.size + 1,9,none⟩ (.slice ao3 ln3 cp3) = W at *
 have hq := J.lt
 have T := TeS.fin HR.out hgl J
 obtain ⟨k0,k1,k2,k3,k4,k5,k6,k7,k8,k9,k10,k11,k12⟩ := J.box.cells
 obtain ⟨m0,m1,m2,m3,m4,m5,m6,m7,m8,m9,m10,m11,m12⟩ := J.zero.cells
 obtain ⟨n0,n1,n2,n3,n4,n5,n6,n7,n8,n9,n10,n11,n12⟩ := J.zero.free
 replace T : Hid _ := hid T
 clear I3 J HR
 go_wp2
 refine bodyPost_ret (v := stV sv) (by simp [results,Tryz.results85,go_sem,stV,m0,m1,m2,m3,m4,m5,m6,m7,m8,m9,m10,m11,m12]) rfl ?_
 exact T.out
end Go.Proofs.YtfopfhlohihihaaGreat
