import Derived.Test.YtnlaaejdianfjaaGreatQfab
import Derived.Test.YtnlaaejdianfjaaGreatQfaa
namespace Go.Proofs.YtnlaaejdianfjaaGreat
open Go.RowKit
set_option linter.unusedVariables false

/-- Picks lie in block g: their row, and how many are taken. -/
structure Pq2 (w : World) (g : Nat) (a : Option Addr) (len cap n : Nat) : Prop where
  row : w.heap[g]? = some (.cells #[.slice a len cap, .int .i64 (n : Int)] 101 (0, 0))
theorem Pq2.lt {w : World} {g : Nat} {a : Option Addr} {len cap n : Nat} (h : Pq2 w g a len cap n) : g < w.heap.size := (Array.getElem?_eq_some_iff.1 h.row).1
theorem Pq2.cells {w : World} {g : Nat} {a : Option Addr} {len cap n : Nat} (h : Pq2 w g a len cap n) : w.cell? ⟨g, 0, none⟩ = some (.slice a len cap) ∧ w.cell? ⟨g, 1, none⟩ = some (.int .i64 n) := by
  unfold World.cell?; rw [h.row]; exact ⟨rfl, rfl⟩
theorem Pq2.free {w : World} {g : Nat} {a : Option Addr} {len cap n : Nat} (h : Pq2 w g a len cap n) : w.frozen? ⟨g, 1, none⟩ = false := by
  unfold World.frozen?; rw [h.row]; rfl
theorem Pq2.set {w : World} {g : Nat} {a : Option Addr} {len cap n : Nat} (h : Pq2 w g a len cap n) (m : Nat) : Pq2 (w.setCell ⟨g, 1, none⟩ (.int .i64 (m : Int))) g a len cap m := ⟨by simp [World.setCell, Array.getElem?_modify, h.row]⟩
/-- How many are left, for a measure. -/
def left (g : Nat) (w : World) : Nat := match w.cell? ⟨g, 0, none⟩, w.cell? ⟨g, 1, none⟩ with
  | some (.slice _ len _), some (.int _ n) => len - n.toNat
  | _, _ => 0
/-- A row of texts that was just made. -/
theorem strs_new {g : Nat} {w w1 : World} (cs : Array Value) (hb : But g (w.alloc (.cells cs 9)) w1) (hg : g < w.heap.size) (k : Nat) (hk : k < cs.size) : w1.cell? ⟨w.heap.size, k, none⟩ = some cs[k] := by
  refine hb.cell ?_ (by show w.heap.size ≠ g; omega)
  unfold World.cell?
  rw [heap_alloc_new w _]
  simp [hk]
/-- A block of three cells: a value's. -/
structure Bv (w : World) (b : Nat) (k i : Int) (s : ByteArray) : Prop where
  row : w.heap[b]? = some (.cells #[.int .i64 k, .int .i64 i, .string s] 44 (0, 0))
theorem Bv.lt {w : World} {b : Nat} {k i : Int} {s : ByteArray} (h : Bv w b k i s) : b < w.heap.size := (Array.getElem?_eq_some_iff.1 h.row).1
theorem Bv.cells {w : World} {b : Nat} {k i : Int} {s : ByteArray} (h : Bv w b k i s) : w.cell? ⟨b, 0, none⟩ = some (.int .i64 k) ∧ w.cell? ⟨b, 1, none⟩ = some (.int .i64 i) ∧ w.cell? ⟨b, 2, none⟩ = some (.string s) := by
  unfold World.cell?; rw [h.row]; exact ⟨rfl, rfl, rfl⟩
theorem Bv.free {w : World} {b : Nat} {k i : Int} {s : ByteArray} (h : Bv w b k i s) : w.frozen? ⟨b, 0, none⟩ = false ∧ w.frozen? ⟨b, 1, none⟩ = false ∧ w.frozen? ⟨b, 2, none⟩ = false := by
  unfold World.frozen?; rw [h.row]; exact ⟨rfl, rfl, rfl⟩
theorem Bv.but {w w' : World} {b g : Nat} {k i : Int} {s : ByteArray} (h : Bv w b k i s) (hb : But g w w') (hg : b ≠ g) : Bv w' b k i s := ⟨(hb.block b h.lt hg).trans h.row⟩
theorem But.new3 {g : Nat} {a w : World} (h : But g a w) {b : Nat} (hb : a.heap.size ≤ b) (x y z : Value) : But g a (((w.setCell ⟨b, 0, none⟩ x).setCell ⟨b, 1, none⟩ y).setCell ⟨b, 2, none⟩ z) := ((h.new hb 0 _).new hb 1 _).new hb 2 _
/-- What Value tells. -/
def VaOK (k i : Int) (s : ByteArray) : Prop := (k = 2 ∧ i = 0 ∧ s ∈ [⟨#[97]⟩, ⟨#[98]⟩, ⟨#[]⟩, ⟨#[105, 116, 39, 115]⟩, ⟨#[122, 122]⟩]) ∨ (k = 1 ∧ s = ⟨#[]⟩ ∧ ((0 ≤ i ∧ i < 11) ∨ i = 9223372036854775807))
/-- Columns, each with its kind. -/
abbrev Cl2 := List (It × Int)
def eInt : Ek Int := ⟨1, fun _ _ z cs => cs = [.int .i64 z], fun _ h => h, fun _ h => h⟩
theorem RowIs.int1 {Q : Nat → Prop} {w : World} {a : Option Addr} {n c : Nat} {l : List Int} (h : RowIs eInt Q w (.slice a n c) l) {k : Nat} (hk : k < l.length) : ∃ b o, a = some ⟨b, o, none⟩ ∧ Q b ∧ w.cell? ⟨b, o + k, none⟩ = some (.int .i64 l[k]) := by
  obtain ⟨ao, n', c', hv, hl, hn, hc, hx⟩ := h
  cases hv
  obtain ⟨b, o, ha, hq, hi⟩ := hx (by omega)
  obtain ⟨cs, hcs, _, hc⟩ := hi k hk
  have hcs' : cs = [.int .i64 l[k]] := hcs
  subst hcs'
  have := hc 0 (show 0 < 1 by decide)
  rw [show o + k * eInt.k + 0 = o + k from by show o + k * 1 + 0 = o + k; omega] at this
  exact ⟨b, o, ha, hq, this⟩
end Go.Proofs.YtnlaaejdianfjaaGreat
namespace Go.Proofs.YtnlaaejdianfjaaGreat
open Go.RowKit
set_option linter.unusedVariables false
set_option linter.unusedSimpArgs false

/-- An expression without what stands in it: its way and its other fields. -/
abbrev Pg := Int × Pay
/-- Rows of expressions: the first one, what stands in it, those behind it. -/
abbrev Tg := Go.Deep.BT Pg
def toL : Tg → List (Pg × Tg)
  | .nil => []
  | .node _ _ p l r => (p, l) :: toL r
/-- The row's expressions lie from place o on in block b. -/
def FoG (Q : Nat → Prop) (w : World) : Tg → Nat → Nat → Prop
  | .nil, _, _ => True
  | .node _ _ p l r, b, o => (∃ ao n c, Ce w b o p.1 p.2 (.slice ao n c) ∧ (toL l).length = n ∧ n ≤ c ∧ c ≤ 9223372036854775807 ∧ (0 < n → ∃ b' o', ao = some ⟨b', o', none⟩ ∧ Q b' ∧ FoG Q w l b' o')) ∧ FoG Q w r b (o + 7)
theorem FoG.keep {Q : Nat → Prop} {w w' : World} (hk : ∀ k, Q k → k < w.heap.size → w'.heap[k]? = w.heap[k]?) : ∀ {f : Tg} {b o : Nat}, Q b → FoG Q w f b o → FoG Q w' f b o := by
  intro f
  induction f with
  | nil => intro b o _ _; trivial
  | node x y p l r ihl ihr =>
    rintro b o hb ⟨⟨ao, n, c, h1, h2, h3, h4, h5⟩, h6⟩
    refine ⟨⟨ao, n, c, h1.keep (hk b hb h1.lt), h2, h3, h4, fun hn => ?_⟩, ihr hb h6⟩
    obtain ⟨b', o', e, hq, hf⟩ := h5 hn
    exact ⟨b', o', e, hq, ihl hq hf⟩
theorem FoG.lt {Q : Nat → Prop} {w : World} {f : Tg} {b o : Nat} (h : FoG Q w f b o) (hn : 0 < (toL f).length) : b < w.heap.size := by
  cases f with
  | nil => simp [toL] at hn
  | node _ _ q l' r' =>
    obtain ⟨⟨_, _, _, hc, _⟩, _⟩ := h
    exact hc.lt
theorem FoG.mono {Q Q' : Nat → Prop} {w : World} (hk : ∀ k, Q k → k < w.heap.size → Q' k) : ∀ {f : Tg} {b o : Nat}, FoG Q w f b o → FoG Q' w f b o := by
  intro f
  induction f with
  | nil => intro b o _; trivial
  | node x y p l r ihl ihr =>
    rintro b o ⟨⟨ao, n, c, h1, h2, h3, h4, h5⟩, h6⟩
    refine ⟨⟨ao, n, c, h1, h2, h3, h4, fun hn => ?_⟩, ihr h6⟩
    obtain ⟨b', o', e, hq, hf⟩ := h5 hn
    exact ⟨b', o', e, hk b' hq (FoG.lt hf (by omega)), ihl hf⟩
/-- A slice of expressions that reads as the row. -/
def SlF (Q : Nat → Prop) (w : World) (ao : Option Addr) (n c : Nat) (f : Tg) : Prop := (toL f).length = n ∧ n ≤ c ∧ c ≤ 9223372036854775807 ∧ (0 < n → ∃ b o, ao = some ⟨b, o, none⟩ ∧ Q b ∧ FoG Q w f b o)
/-- An expression of any form. -/
def eG : Ek (Pg × Tg) := ⟨7, fun Q w t cs => ∃ a n c, cs = exC t.1.1 t.1.2 (.slice a n c) ∧ SlF Q w a n c t.2,
  fun hk ⟨a, n, c, h1, h2, h3, h4, h5⟩ => ⟨a, n, c, h1, h2, h3, h4, fun hn => by
    obtain ⟨b, o, e, hq, hf⟩ := h5 hn
    exact ⟨b, o, e, hq, FoG.keep hk hq hf⟩⟩,
  fun hk ⟨a, n, c, h1, h2, h3, h4, h5⟩ => ⟨a, n, c, h1, h2, h3, h4, fun hn => by
    obtain ⟨b, o, e, hq, hf⟩ := h5 hn
    exact ⟨b, o, e, hk b hq (FoG.lt hf (by omega)), FoG.mono hk hf⟩⟩⟩
theorem FoG.at {Q : Nat → Prop} {w : World} : ∀ {f : Tg} {b o : Nat}, FoG Q w f b o → ∀ i (h : i < (toL f).length), ∃ cs, eG.E Q w (toL f)[i] cs ∧ cs.length = 7 ∧ ∀ j (hj : j < cs.length), w.cell? ⟨b, o + i * 7 + j, none⟩ = some cs[j] := by
  intro f
  induction f with
  | nil => intro b o _ i h; simp [toL] at h
  | node x y p l r ihl ihr =>
    rintro b o ⟨⟨ao, n, c, h1, h2, h3, h4, h5⟩, h6⟩ i h
    cases i with
    | zero =>
      refine ⟨exC p.1 p.2 (.slice ao n c), ⟨ao, n, c, rfl, h2, h3, h4, h5⟩, rfl, fun j hj => ?_⟩
      obtain ⟨c0, c1, c2, c3, c4, c5, c6⟩ := h1
      have hj' : j < 7 := hj
      rw [show o + 0 * 7 + j = o + j from by omega]
      match j, hj' with
      | 0, _ => exact c0
      | 1, _ => exact c1
      | 2, _ => exact c2
      | 3, _ => exact c3
      | 4, _ => exact c4
      | 5, _ => exact c5
      | 6, _ => exact c6
    | succ i =>
      obtain ⟨cs, g1, g2, g3⟩ := ihr h6 i (by simpa [toL] using h)
      refine ⟨cs, by simpa [toL] using g1, g2, fun j hj => ?_⟩
      rw [show o + (i + 1) * 7 + j = o + 7 + i * 7 + j from by omega]
      exact g3 j hj
theorem SlF.row {Q : Nat → Prop} {w : World} {ao : Option Addr} {n c : Nat} {f : Tg} (h : SlF Q w ao n c f) : RowIs eG Q w (.slice ao n c) (toL f) := by
  obtain ⟨h1, h2, h3, h4⟩ := h
  refine ⟨ao, n, c, rfl, h1, h2, h3, fun hn => ?_⟩
  obtain ⟨b, o, e, hq, hf⟩ := h4 hn
  exact ⟨b, o, e, hq, fun i hi => hf.at i hi⟩
/-- The columns that an expression may name: table, name, kind. -/
abbrev Cl3 := ByteArray × ByteArray × Int
/-- The first error of a list. -/
def erL : List Int → Int
  | [] => 0
  | e :: l => if e = 0 then erL l else e
/-- The first error ahead of place n. -/
def erO (er : Nat → Int) (n : Nat) : Int := erL ((List.range n).map er)
theorem erL_app (l m : List Int) : erL (l ++ m) = if erL l = 0 then erL m else erL l := by
  induction l with
  | nil => rfl
  | cons x l ih =>
    rw [List.cons_append, erL, erL]
    split
    · exact ih
    · rfl
theorem erO_succ (er : Nat → Int) (n : Nat) : erO er (n + 1) = if erO er n = 0 then er n else erO er n := by
  rw [erO, List.range_succ, List.map_append, erL_app]
  by_cases h : erL ((List.range n).map er) = 0
  · rw [if_pos h, if_pos (show erO er n = 0 from h)]
    show (if er n = 0 then 0 else er n) = er n
    split
    · exact Eq.symm (by assumption)
    · rfl
  · rw [if_neg h, if_neg (show ¬ erO er n = 0 from h)]; rfl
theorem erO_stop {er : Nat → Int} {k n : Nat} (hk : k < n) (h0 : erO er k = 0) (he : er k ≠ 0) : erO er n = er k := by
  induction n with
  | zero => omega
  | succ n ih =>
    rw [erO_succ]
    by_cases h : k = n
    · subst h; rw [if_pos h0]
    · rw [ih (by omega), if_neg he]
theorem erO_list {l : List Int} {er : Nat → Int} (h : ∀ i (hi : i < l.length), er i = l[i]) : erO er l.length = erL l := by
  have : (List.range l.length).map er = l := by
    apply List.ext_getElem
    · simp
    · intro i h1 h2
      rw [List.getElem_map, List.getElem_range, h i h2]
  rw [erO, this]

end Go.Proofs.YtnlaaejdianfjaaGreat
namespace Go.Proofs.YtnlaaejdianfjaaGreat
open Go.RowKit
set_option linter.unusedVariables false

theorem below_grows {B : Nat} {a w w' : World} {row : Option Nat} (h : Below B a w) (hB : B ≤ w.heap.size) (hg : w.grownBy w' row) (hrow : ∀ k, row = some k → B ≤ k) : Below B a w' :=
  h.trans ⟨hg.os, hg.tape, hg.output, hg.size, fun i hi => hg.block i (by omega) fun e => by have := hrow i e.symm; omega⟩
/-- The cells of a column among those of a kind. -/
def itC (x : It) : List Value := [.int .i64 x.1, .string x.2.1, .string x.2.2]
end Go.Proofs.YtnlaaejdianfjaaGreat
namespace Go.Proofs.YtnlaaejdianfjaaGreat
open Go.RowKit
set_option linter.unusedVariables false
set_option linter.unusedSimpArgs false

/-- A value: its kind, its number, its text. -/
abbrev Vt := Int × Int × ByteArray
abbrev vZ : Vt := (0, 0, ⟨#[]⟩)
abbrev vV (v : Vt) : Value := .agg #[.int .i64 v.1, .int .i64 v.2.1, .string v.2.2]
def eVal : Ek Vt := ⟨3, fun _ _ v cs => cs = [.int .i64 v.1, .int .i64 v.2.1, .string v.2.2], fun _ h => h, fun _ h => h⟩
def trV (b : Bool) : Vt := (3, if b then 1 else 0, ⟨#[]⟩)
def knP (v : Vt) (k : Int) : Int × Int := if v.1 = k then (v.2.1, 0) else (0, 11)
def partsP (op : Int) : Int := if op = 1 then 0 else if op = 2 then 0 else if op = 3 then 1 else if op = 4 then 1 else if 5 ≤ op ∧ op ≤ 15 then 2 else -1
def standsP (op o : Int) : Bool := if op = 8 then decide (o = 0) else if op = 9 then !decide (o = 0) else if op = 10 then decide (o < 0) else if op = 11 then decide (o ≤ 0) else if op = 12 then decide (0 < o) else decide (0 ≤ o)
def cmpVt (a b : Vt) : Int := cmpV a.1 a.2.1 (nums a.2.2) b.1 b.2.1 (nums b.2.2)
def cmpdP (op : Int) (a b : Vt) : Vt × Int := if a.1 ≠ b.1 ∨ (a.1 ≠ 1 ∧ a.1 ≠ 2) then (vZ, 11) else (trV (standsP op (cmpVt a b)), 0)
/-- What a way makes of numbers. -/
def numP (op : Int) (l : List Int) : Int := if op = 3 then -(l.headD 0) else if op = 5 then l.headD 0 + l.tail.headD 0 else if op = 6 then l.headD 0 - l.tail.headD 0 else l.headD 0 * l.tail.headD 0
def isNumOp (op : Int) : Bool := decide (op = 3) || (decide (op = 5) || (decide (op = 6) || decide (op = 7)))
def recP (op : Int) (vs : List Vt) : Vt × Int := if erL (vs.map fun v => (knP v 1).2) ≠ 0 then (vZ, erL (vs.map fun v => (knP v 1).2)) else ((1, nV (numP op (vs.map fun v => v.2.1)), ⟨#[]⟩), nE (numP op (vs.map fun v => v.2.1)))
def madeP (op : Int) (vs : List Vt) : Vt × Int := if isNumOp op then recP op vs else if op = 4 then (trV (!decide ((knP (vs.headD vZ) 3).1 = 1)), (knP (vs.headD vZ) 3).2) else cmpdP op (vs.headD vZ) (vs.tail.headD vZ)
/-- The number of a truth, or an error. -/
def boP (r : Vt × Int) : Int × Int := if r.2 ≠ 0 then (0, r.2) else knP r.1 3
def upP (z : Int) (r0 r1 : Vt × Int) : Vt × Int := if (boP r0).2 ≠ 0 then (trV false, (boP r0).2) else if (boP r0).1 = z then (trV (decide (z = 1)), 0) else if (boP r1).2 ≠ 0 then (trV false, (boP r1).2) else (trV (decide ((boP r1).1 = 1)), 0)
/-- The column that is meant. -/
def itV (tb nm : ByteArray) (c : It) : Bool := eqS c.2.2 nm && (eqS tb ⟨#[]⟩ || eqS c.2.1 tb)
def colV (C : List It) (V : List Vt) (tb nm : ByteArray) : Vt × Int := if 0 ≤ fidx (itV tb nm) C ∧ (C.drop ((fidx (itV tb nm) C).toNat + 1)).any (itV tb nm) = false then ((V[(fidx (itV tb nm) C).toNat]?).getD vZ, 0) else (vZ, 10)
def ev1 (C : List It) (V : List Vt) (p : Pg) (rs : List (Vt × Int)) : Vt × Int :=
  if (rs.length : Int) ≠ partsP p.1 then (vZ, 1)
  else if p.1 = 1 then ((p.2.1, p.2.2.1, p.2.2.2.1), 0)
  else if p.1 = 2 then colV C V p.2.2.2.2.1 p.2.2.2.2.2
  else if p.1 = 14 then upP 0 (rs.headD (vZ, 0)) (rs.tail.headD (vZ, 0))
  else if p.1 = 15 then upP 1 (rs.headD (vZ, 0)) (rs.tail.headD (vZ, 0))
  else if erL (rs.map (·.2)) ≠ 0 then (vZ, erL (rs.map (·.2)))
  else madeP p.1 (rs.map (·.1))
def evs (C : List It) (V : List Vt) : Tg → List (Vt × Int)
  | .nil => []
  | .node _ _ p l r => ev1 C V p (evs C V l) :: evs C V r
def evT (C : List It) (V : List Vt) (t : Pg × Tg) : Vt × Int := ev1 C V t.1 (evs C V t.2)
theorem evs_map (C : List It) (V : List Vt) : ∀ f : Tg, evs C V f = (toL f).map (evT C V) := by
  intro f
  induction f with
  | nil => rfl
  | node x y p l r ihl ihr => rw [evs, toL, List.map_cons, ← ihr]; rfl
theorem evs_len (C : List It) (V : List Vt) (f : Tg) : (evs C V f).length = (toL f).length := by rw [evs_map, List.length_map]

set_option maxRecDepth 100000 in
theorem parts_any (op : Int) (w : World) : Calls Tryz.prog 122 #[.int .i64 op] w fun e w' => e = .returned (.int .i64 (partsP op)) ∧ w' = w := by
  by_cases h1 : op = 1
  · subst h1
    rw [show partsP 1 = 0 from rfl]
    go_enter Tryz.func122, Tryz.ntmps122
    go_wp2
    go_ret
    exact ⟨rfl, rfl⟩
  have g1 : decide (op = 1) = false := by simpa using h1
  by_cases h2 : op = 2
  · subst h2
    rw [show partsP 2 = 0 from rfl]
    go_enter Tryz.func122, Tryz.ntmps122
    go_wp2
    go_ret
    exact ⟨rfl, rfl⟩
  have g2 : decide (op = 2) = false := by simpa using h2
  by_cases h3 : op = 3
  · subst h3
    rw [show partsP 3 = 1 from rfl]
    go_enter Tryz.func122, Tryz.ntmps122
    go_wp2
    go_ret
    exact ⟨rfl, rfl⟩
  have g3 : decide (op = 3) = false := by simpa using h3
  by_cases h4 : op = 4
  · subst h4
    rw [show partsP 4 = 1 from rfl]
    go_enter Tryz.func122, Tryz.ntmps122
    go_wp2
    go_ret
    exact ⟨rfl, rfl⟩
  have g4 : decide (op = 4) = false := by simpa using h4
  by_cases h5 : 5 ≤ op
  · have g5 : decide (5 ≤ op) = true := by simpa using h5
    by_cases h6 : op ≤ 15
    · have g6 : decide (op ≤ 15) = true := by simpa using h6
      rw [show partsP op = 2 from by simp [partsP, h1, h2, h3, h4, h5, h6]]
      go_enter Tryz.func122, Tryz.ntmps122
      go_wp2
      go_ret
      exact ⟨rfl, rfl⟩
    · have g6 : decide (op ≤ 15) = false := by simpa using h6
      rw [show partsP op = -1 from by simp [partsP, h1, h2, h3, h4, h6]]
      go_enter Tryz.func122, Tryz.ntmps122
      go_wp2
      go_ret
      exact ⟨rfl, rfl⟩
  · have g5 : decide (5 ≤ op) = false := by simpa using h5
    rw [show partsP op = -1 from by simp [partsP, h1, h2, h3, h4, h5]]
    go_enter Tryz.func122, Tryz.ntmps122
    go_wp2
    go_ret
    exact ⟨rfl, rfl⟩

set_option maxRecDepth 100000 in
theorem truthE_any (b : Bool) (w : World) : Calls Tryz.prog 138 #[.bool b] w fun e w' => e = .returned (vV (trV b)) ∧ Below w.heap.size w w' := by
  have hw := bal (Below.refl w.heap.size w) (.cells #[.int .i64 0, .int .i64 0, .string ⟨#[]⟩] 44)
  cases b with
  | true =>
    go_enter Tryz.func138, Tryz.ntmps138
    go_wp2
    refine bodyPost_ret (v := .agg #[.int .i64 3, .int .i64 1, .string ⟨#[]⟩]) (by simp [results, Tryz.results138, go_sem]) rfl ⟨rfl, ?_⟩
    first | exact hw | exact bal (Below.refl _ _) _ | exact ((hw.setCell (Nat.le_refl _) _).setCell (Nat.le_refl _) _).setCell (Nat.le_refl _) _
  | false =>
    go_enter Tryz.func138, Tryz.ntmps138
    go_wp2
    refine bodyPost_ret (v := .agg #[.int .i64 3, .int .i64 0, .string ⟨#[]⟩]) (by simp [results, Tryz.results138, go_sem]) rfl ⟨rfl, ?_⟩
    first | exact hw | exact bal (Below.refl _ _) _ | exact ((hw.setCell (Nat.le_refl _) _).setCell (Nat.le_refl _) _).setCell (Nat.le_refl _) _

set_option maxRecDepth 100000 in
theorem intOfV_any (v : Vt) (k : Int) (w : World) : Calls Tryz.prog 137 #[vV v, .int .i64 k] w fun e w' => e = .returned (.tuple #[.int .i64 (knP v k).1, .int .i64 (knP v k).2]) ∧ Below w.heap.size w w' := by
  obtain ⟨v0, v1, v2⟩ := v
  have hw := bal (Below.refl w.heap.size w) (.cells #[.int .i64 v0, .int .i64 v1, .string v2] 44)
  by_cases h : v0 = k
  · rw [show knP (v0, v1, v2) k = (v1, 0) from if_pos h]
    subst h
    go_enter Tryz.func137, Tryz.ntmps137
    go_wp2
    exact bodyPost_ret (v := .tuple #[.int .i64 v1, .int .i64 0]) (by simp [results, Tryz.results137]) rfl ⟨rfl, hw⟩
  · rw [show knP (v0, v1, v2) k = (0, 11) from if_neg h]
    have h1 : (v0 != k) = true := by simpa using h
    have h2 : decide (v0 = k) = false := by simpa using h
    go_enter Tryz.func137, Tryz.ntmps137
    go_wp2
    exact bodyPost_ret (v := .tuple #[.int .i64 0, .int .i64 11]) (by simp [results, Tryz.results137]) rfl ⟨rfl, hw⟩

set_option maxRecDepth 100000 in
theorem stands_any (op o : Int) (w : World) : Calls Tryz.prog 149 #[.int .i64 op, .int .i64 o] w fun e w' => e = .returned (.bool (standsP op o)) ∧ w' = w := by
  by_cases h8 : op = 8
  · subst h8
    rw [show standsP 8 o = (decide (o = 0)) from rfl]
    go_enter Tryz.func149, Tryz.ntmps149
    go_wp2
    go_ret
    exact ⟨ret_bool (by first | rfl | (rw [Bool.eq_iff_iff]; simp)), rfl⟩
  have g8 : decide (op = 8) = false := by simpa using h8
  by_cases h9 : op = 9
  · subst h9
    rw [show standsP 9 o = (!decide (o = 0)) from rfl]
    go_enter Tryz.func149, Tryz.ntmps149
    go_wp2
    go_ret
    exact ⟨ret_bool (by first | rfl | (rw [Bool.eq_iff_iff]; simp)), rfl⟩
  have g9 : decide (op = 9) = false := by simpa using h9
  by_cases h10 : op = 10
  · subst h10
    rw [show standsP 10 o = (decide (o < 0)) from rfl]
    go_enter Tryz.func149, Tryz.ntmps149
    go_wp2
    go_ret
    exact ⟨ret_bool (by first | rfl | (rw [Bool.eq_iff_iff]; simp)), rfl⟩
  have g10 : decide (op = 10) = false := by simpa using h10
  by_cases h11 : op = 11
  · subst h11
    rw [show standsP 11 o = (decide (o ≤ 0)) from rfl]
    go_enter Tryz.func149, Tryz.ntmps149
    go_wp2
    go_ret
    exact ⟨ret_bool (by first | rfl | (rw [Bool.eq_iff_iff]; simp)), rfl⟩
  have g11 : decide (op = 11) = false := by simpa using h11
  by_cases h12 : op = 12
  · subst h12
    rw [show standsP 12 o = (decide (0 < o)) from rfl]
    go_enter Tryz.func149, Tryz.ntmps149
    go_wp2
    go_ret
    exact ⟨ret_bool (by first | rfl | (rw [Bool.eq_iff_iff]; simp)), rfl⟩
  have g12 : decide (op = 12) = false := by simpa using h12
  rw [show standsP op o = decide (0 ≤ o) from by simp [standsP, h8, h9, h10, h11, h12]]
  go_enter Tryz.func149, Tryz.ntmps149
  go_wp2
  go_ret
  exact ⟨ret_bool (by first | rfl | (rw [Bool.eq_iff_iff]; simp)), rfl⟩

end Go.Proofs.YtnlaaejdianfjaaGreat
namespace Go.Proofs.YtnlaaejdianfjaaGreat
open Go.RowKit
set_option linter.unusedVariables false
set_option linter.unusedSimpArgs false

set_option maxRecDepth 100000 in
set_option maxHeartbeats 4000000 in
theorem foldVExbo {l : List (Pg × Tg)} (hlen : l.length ≤ 500) {B : Nat} {Q : Nat → Prop} {w : World} (hBs : B ≤ w.heap.size) (hQ : ∀ b, Q b → b < B) {ao : Option Addr} {n c : Nat} (h : RowIs eG Q w (.slice ao n c) l) {N : Nat} {caps : Array Value} (hcf : ∀ args w', (callFunc N args).run Tryz.prog w' = .ok (.enter N args) w') (er : Nat → Int) (I : Nat → World → Bool → Prop)
    (hI : ∀ i w' a, I i w' a → Below B w w') (hA : ∀ i w' a o, I i w' a → I i (w'.alloc o) a) {a0 : Bool} (h0 : I 0 w a0)
    (hs : ∀ i (hi : i < l.length) (w' : World) (a : Bool) (cs : List Value), I i w' a → eG.E Q w' l[i] cs → Calls Tryz.prog N (#[.bool a, .agg cs.toArray] ++ caps) w' fun en w'' => ∃ a2, en = .returned (.tuple #[.bool a2, .int .i64 (er i)]) ∧ Below B w w'' ∧ (er i = 0 → I (i + 1) w'' a2)) :
    Calls Tryz.prog 93 #[.slice ao n c, .bool a0, .func (.func N) #[] caps] w fun en w' => ∃ a2, en = .returned (.tuple #[.bool a2, .int .i64 (erO er l.length)]) ∧ Below B w w' ∧ (erO er l.length = 0 → I l.length w' a2) ∧ (erO er l.length ≠ 0 → a2 = false) := by
  have HR : Hid (∀ w', Below B w w' → RowIs eG Q w' (.slice ao n c) l) := hid fun w' hb => h.keep (by decide) fun b hq _ => hb.block b (hQ b hq)
  have HS : Hid (∀ i (hi : i < l.length) (w' : World) (a : Bool) (cs : List Value), I i w' a → eG.E Q w' l[i] cs → _) := hid hs
  have HI : Hid (∀ i w' a, I i w' a → Below B w w') := hid hI
  have HA : Hid (∀ i w' a o, I i w' a → I i (w'.alloc o) a) := hid hA
  have H0 : Hid (I 0 w a0) := hid h0
  obtain ⟨ao', n', c', e', hn, hnc, hc, _⟩ := h
  cases e'
  subst hn
  clear hs hI hA h0 hQ
  go_enter Tryz.func93, Tryz.ntmps93
  go_wp2
  go_loopw [1, 14] (fun v1 v14 wr => ∃ k : Nat, ∃ a, k ≤ l.length ∧ v14 = .int .i64 k ∧ v1 = .bool a ∧ Hid (I k wr a) ∧ Hid (erO er k = 0)) (fun _ i _ => l.length - (intOf i).toNat)
  case atStart => exact ⟨0, _, Nat.zero_le _, rfl, rfl, H0, hid rfl⟩
  case round =>
    obtain ⟨k, a, hk, rfl, rfl, HK, HE⟩ := hrel
    by_cases hlt : k < l.length
    · have hB := HI.out _ _ _ HK.out
      obtain ⟨_, _, _, e', _, _, _, hx⟩ := HR.out wr hB
      cases e'
      obtain ⟨b, o, rfl, hq, hi⟩ := hx (by omega)
      obtain ⟨cs, hEx, h2, h3⟩ := hi k hlt
      obtain ⟨x, hxl⟩ : ∃ x, l[k] = x := ⟨_, rfl⟩
      rw [hxl] at hEx
      have hEx' := hEx
      obtain ⟨ea, en, ec, rfl, -⟩ := hEx'
      have c0 : wr.cell? ⟨b, o + k * 7, none⟩ = some (.int .i64 x.1.1) := by exact h3 0 (show 0 < 7 by decide)
      have c1 : wr.cell? ⟨b, o + k * 7 + 1, none⟩ = some (.int .i64 x.1.2.1) := by exact h3 1 (show 1 < 7 by decide)
      have c2 : wr.cell? ⟨b, o + k * 7 + 2, none⟩ = some (.int .i64 x.1.2.2.1) := by exact h3 2 (show 2 < 7 by decide)
      have c3 : wr.cell? ⟨b, o + k * 7 + 3, none⟩ = some (.string x.1.2.2.2.1) := by exact h3 3 (show 3 < 7 by decide)
      have c4 : wr.cell? ⟨b, o + k * 7 + 4, none⟩ = some (.string x.1.2.2.2.2.1) := by exact h3 4 (show 4 < 7 by decide)
      have c5 : wr.cell? ⟨b, o + k * 7 + 5, none⟩ = some (.string x.1.2.2.2.2.2) := by exact h3 5 (show 5 < 7 by decide)
      have c6 : wr.cell? ⟨b, o + k * 7 + 6, none⟩ = some (.slice ea en ec) := by exact h3 6 (show 6 < 7 by decide)
      have hkm : (k : Int) < (l.length : Int) := by omega
      have hk5 : k ≤ 500 := by omega
      clear h2 h3 hi hx
      have HX := HS.out k hlt (wr.alloc (.cells #[.int .i64 x.1.1, .int .i64 x.1.2.1, .int .i64 x.1.2.2.1, .string x.1.2.2.2.1, .string x.1.2.2.2.2.1, .string x.1.2.2.2.2.2, .slice ea en ec] 63)) a [.int .i64 x.1.1, .int .i64 x.1.2.1, .int .i64 x.1.2.2.1, .string x.1.2.2.2.1, .string x.1.2.2.2.2.1, .string x.1.2.2.2.2.2, .slice ea en ec] (HA.out _ _ _ _ HK.out) (by rw [hxl]; exact eG.keep (fun b _ hl => (bal (Below.refl _ _) _).block b hl) hEx)
      have bx := Bk.new wr (.cells #[.int .i64 x.1.1, .int .i64 x.1.2.1, .int .i64 x.1.2.2.1, .string x.1.2.2.2.1, .string x.1.2.2.2.2.1, .string x.1.2.2.2.2.2, .slice ea en ec] 63)
      clear hEx hxl
      go_upto_region 4 with fail
      generalize wr.alloc (.cells #[.int .i64 x.1.1, .int .i64 x.1.2.1, .int .i64 x.1.2.2.1, .string x.1.2.2.2.1, .string x.1.2.2.2.2.1, .string x.1.2.2.2.2.2, .slice ea en ec] 63) = W at *
      have d0 := bx.cell 0
      have d1 := bx.cell 1
      have d2 := bx.cell 2
      have d3 := bx.cell 3
      have d4 := bx.cell 4
      have d5 := bx.cell 5
      have d6 := bx.cell 6
      simp only [List.getElem?_toArray, List.getElem?_cons_zero, List.getElem?_cons_succ] at d0 d1 d2 d3 d4 d5 d6
      clear bx c0 c1 c2 c3 c4 c5 c6
      obtain ⟨z, hz⟩ : ∃ z, er k = z := ⟨_, rfl⟩
      rw [hz] at HX
      have HZ : Hid (er k = z) := hid hz
      replace HX : Hid _ := hid HX
      clear hz
      go_wp2_with fail
      refine Calls.mono HX.out ?_
      rintro e w4 ⟨a2, rfl, hb4, hi4⟩
      have HI4 : Hid _ := hid hi4
      clear HX hi4
      by_cases h0 : z = 0
      · subst h0
        have HE2 : Hid (erO er (k + 1) = 0) := hid (by rw [erO_succ, if_pos HE.out, HZ.out])
        go_wp2
        go_roundw
        case rel => exact ⟨k + 1, a2, hlt, by go_num, rfl, hid (HI4.out (by first | rfl | trivial)), HE2⟩
        case measure => simp only [intOf]; omega
      · have HE2 : Hid (erO er l.length = z) := hid (by rw [erO_stop hlt HE.out (by rw [HZ.out]; exact h0), HZ.out])
        have h0' : (z != 0) = true := by simpa using h0
        have h0d : decide (z = 0) = false := by simpa using h0
        go_wp2
        refine bodyPost_ret (v := .tuple #[.bool false, .int .i64 z]) (by simp [results, Tryz.results93]) rfl ⟨false, by rw [HE2.out], hb4, fun h => absurd (HE2.out.symm.trans h) h0, fun _ => rfl⟩
    · obtain rfl : k = l.length := by omega
      have hB := HI.out _ _ _ HK.out
      go_wp2
      refine bodyPost_ret (v := .tuple #[.bool a, .int .i64 0]) (by simp [results, Tryz.results93]) rfl ⟨a, by rw [HE.out], hB, fun _ => HK.out, fun h => absurd HE.out h⟩

set_option maxRecDepth 100000 in
set_option maxHeartbeats 4000000 in
theorem foldVExin {l : List (Pg × Tg)} (hlen : l.length ≤ 500) {B : Nat} {Q : Nat → Prop} {w : World} (hBs : B ≤ w.heap.size) (hQ : ∀ b, Q b → b < B) {ao : Option Addr} {n c : Nat} (h : RowIs eG Q w (.slice ao n c) l) {N : Nat} {caps : Array Value} (hcf : ∀ args w', (callFunc N args).run Tryz.prog w' = .ok (.enter N args) w') (er : Nat → Int) (I : Nat → World → Int → Prop)
    (hI : ∀ i w' a, I i w' a → Below B w w') (hA : ∀ i w' a o, I i w' a → I i (w'.alloc o) a) {a0 : Int} (h0 : I 0 w a0)
    (hs : ∀ i (hi : i < l.length) (w' : World) (a : Int) (cs : List Value), I i w' a → eG.E Q w' l[i] cs → Calls Tryz.prog N (#[.int .i64 a, .agg cs.toArray] ++ caps) w' fun en w'' => ∃ a2, en = .returned (.tuple #[.int .i64 a2, .int .i64 (er i)]) ∧ Below B w w'' ∧ (er i = 0 → I (i + 1) w'' a2)) :
    Calls Tryz.prog 135 #[.slice ao n c, .int .i64 a0, .func (.func N) #[] caps] w fun en w' => ∃ a2, en = .returned (.tuple #[.int .i64 a2, .int .i64 (erO er l.length)]) ∧ Below B w w' ∧ (erO er l.length = 0 → I l.length w' a2) ∧ (erO er l.length ≠ 0 → a2 = 0) := by
  have HR : Hid (∀ w', Below B w w' → RowIs eG Q w' (.slice ao n c) l) := hid fun w' hb => h.keep (by decide) fun b hq _ => hb.block b (hQ b hq)
  have HS : Hid (∀ i (hi : i < l.length) (w' : World) (a : Int) (cs : List Value), I i w' a → eG.E Q w' l[i] cs → _) := hid hs
  have HI : Hid (∀ i w' a, I i w' a → Below B w w') := hid hI
  have HA : Hid (∀ i w' a o, I i w' a → I i (w'.alloc o) a) := hid hA
  have H0 : Hid (I 0 w a0) := hid h0
  obtain ⟨ao', n', c', e', hn, hnc, hc, _⟩ := h
  cases e'
  subst hn
  clear hs hI hA h0 hQ
  go_enter Tryz.func135, Tryz.ntmps135
  go_wp2
  go_loopw [1, 14] (fun v1 v14 wr => ∃ k : Nat, ∃ a, k ≤ l.length ∧ v14 = .int .i64 k ∧ v1 = .int .i64 a ∧ Hid (I k wr a) ∧ Hid (erO er k = 0)) (fun _ i _ => l.length - (intOf i).toNat)
  case atStart => exact ⟨0, _, Nat.zero_le _, rfl, rfl, H0, hid rfl⟩
  case round =>
    obtain ⟨k, a, hk, rfl, rfl, HK, HE⟩ := hrel
    by_cases hlt : k < l.length
    · have hB := HI.out _ _ _ HK.out
      obtain ⟨_, _, _, e', _, _, _, hx⟩ := HR.out wr hB
      cases e'
      obtain ⟨b, o, rfl, hq, hi⟩ := hx (by omega)
      obtain ⟨cs, hEx, h2, h3⟩ := hi k hlt
      obtain ⟨x, hxl⟩ : ∃ x, l[k] = x := ⟨_, rfl⟩
      rw [hxl] at hEx
      have hEx' := hEx
      obtain ⟨ea, en, ec, rfl, -⟩ := hEx'
      have c0 : wr.cell? ⟨b, o + k * 7, none⟩ = some (.int .i64 x.1.1) := by exact h3 0 (show 0 < 7 by decide)
      have c1 : wr.cell? ⟨b, o + k * 7 + 1, none⟩ = some (.int .i64 x.1.2.1) := by exact h3 1 (show 1 < 7 by decide)
      have c2 : wr.cell? ⟨b, o + k * 7 + 2, none⟩ = some (.int .i64 x.1.2.2.1) := by exact h3 2 (show 2 < 7 by decide)
      have c3 : wr.cell? ⟨b, o + k * 7 + 3, none⟩ = some (.string x.1.2.2.2.1) := by exact h3 3 (show 3 < 7 by decide)
      have c4 : wr.cell? ⟨b, o + k * 7 + 4, none⟩ = some (.string x.1.2.2.2.2.1) := by exact h3 4 (show 4 < 7 by decide)
      have c5 : wr.cell? ⟨b, o + k * 7 + 5, none⟩ = some (.string x.1.2.2.2.2.2) := by exact h3 5 (show 5 < 7 by decide)
      have c6 : wr.cell? ⟨b, o + k * 7 + 6, none⟩ = some (.slice ea en ec) := by exact h3 6 (show 6 < 7 by decide)
      have hkm : (k : Int) < (l.length : Int) := by omega
      have hk5 : k ≤ 500 := by omega
      clear h2 h3 hi hx
      have HX := HS.out k hlt (wr.alloc (.cells #[.int .i64 x.1.1, .int .i64 x.1.2.1, .int .i64 x.1.2.2.1, .string x.1.2.2.2.1, .string x.1.2.2.2.2.1, .string x.1.2.2.2.2.2, .slice ea en ec] 63)) a [.int .i64 x.1.1, .int .i64 x.1.2.1, .int .i64 x.1.2.2.1, .string x.1.2.2.2.1, .string x.1.2.2.2.2.1, .string x.1.2.2.2.2.2, .slice ea en ec] (HA.out _ _ _ _ HK.out) (by rw [hxl]; exact eG.keep (fun b _ hl => (bal (Below.refl _ _) _).block b hl) hEx)
      have bx := Bk.new wr (.cells #[.int .i64 x.1.1, .int .i64 x.1.2.1, .int .i64 x.1.2.2.1, .string x.1.2.2.2.1, .string x.1.2.2.2.2.1, .string x.1.2.2.2.2.2, .slice ea en ec] 63)
      clear hEx hxl
      go_upto_region 4 with fail
      generalize wr.alloc (.cells #[.int .i64 x.1.1, .int .i64 x.1.2.1, .int .i64 x.1.2.2.1, .string x.1.2.2.2.1, .string x.1.2.2.2.2.1, .string x.1.2.2.2.2.2, .slice ea en ec] 63) = W at *
      have d0 := bx.cell 0
      have d1 := bx.cell 1
      have d2 := bx.cell 2
      have d3 := bx.cell 3
      have d4 := bx.cell 4
      have d5 := bx.cell 5
      have d6 := bx.cell 6
      simp only [List.getElem?_toArray, List.getElem?_cons_zero, List.getElem?_cons_succ] at d0 d1 d2 d3 d4 d5 d6
      clear bx c0 c1 c2 c3 c4 c5 c6
      obtain ⟨z, hz⟩ : ∃ z, er k = z := ⟨_, rfl⟩
      rw [hz] at HX
      have HZ : Hid (er k = z) := hid hz
      replace HX : Hid _ := hid HX
      clear hz
      go_wp2_with fail
      refine Calls.mono HX.out ?_
      rintro e w4 ⟨a2, rfl, hb4, hi4⟩
      have HI4 : Hid _ := hid hi4
      clear HX hi4
      by_cases h0 : z = 0
      · subst h0
        have HE2 : Hid (erO er (k + 1) = 0) := hid (by rw [erO_succ, if_pos HE.out, HZ.out])
        go_wp2
        go_roundw
        case rel => exact ⟨k + 1, a2, hlt, by go_num, rfl, hid (HI4.out (by first | rfl | trivial)), HE2⟩
        case measure => simp only [intOf]; omega
      · have HE2 : Hid (erO er l.length = z) := hid (by rw [erO_stop hlt HE.out (by rw [HZ.out]; exact h0), HZ.out])
        have h0' : (z != 0) = true := by simpa using h0
        have h0d : decide (z = 0) = false := by simpa using h0
        go_wp2
        refine bodyPost_ret (v := .tuple #[.int .i64 0, .int .i64 z]) (by simp [results, Tryz.results135]) rfl ⟨0, by rw [HE2.out], hb4, fun h => absurd (HE2.out.symm.trans h) h0, fun _ => rfl⟩
    · obtain rfl : k = l.length := by omega
      have hB := HI.out _ _ _ HK.out
      go_wp2
      refine bodyPost_ret (v := .tuple #[.int .i64 a, .int .i64 0]) (by simp [results, Tryz.results135]) rfl ⟨a, by rw [HE.out], hB, fun _ => HK.out, fun h => absurd HE.out h⟩

set_option maxRecDepth 100000 in
set_option maxHeartbeats 4000000 in
theorem foldVExsl {l : List (Pg × Tg)} (hlen : l.length ≤ 500) {B : Nat} {Q : Nat → Prop} {w : World} (hBs : B ≤ w.heap.size) (hQ : ∀ b, Q b → b < B) {ao : Option Addr} {n c : Nat} (h : RowIs eG Q w (.slice ao n c) l) {N : Nat} {caps : Array Value} (hcf : ∀ args w', (callFunc N args).run Tryz.prog w' = .ok (.enter N args) w') (er : Nat → Int) (I : Nat → World → Option Addr → Nat → Nat → Prop)
    (hI : ∀ i w' a m d, I i w' a m d → Below B w w') (hA : ∀ i w' a m d o, I i w' a m d → I i (w'.alloc o) a m d) {a0 : Option Addr} {m0 : Nat} {d0 : Nat} (h0 : I 0 w a0 m0 d0)
    (hs : ∀ i (hi : i < l.length) (w' : World) (a : Option Addr) (m : Nat) (d : Nat) (cs : List Value), I i w' a m d → eG.E Q w' l[i] cs → Calls Tryz.prog N (#[.slice a m d, .agg cs.toArray] ++ caps) w' fun en w'' => ∃ a2 m2 d2, en = .returned (.tuple #[.slice a2 m2 d2, .int .i64 (er i)]) ∧ Below B w w'' ∧ (er i = 0 → I (i + 1) w'' a2 m2 d2)) :
    Calls Tryz.prog 139 #[.slice ao n c, .slice a0 m0 d0, .func (.func N) #[] caps] w fun en w' => ∃ a2 m2 d2, en = .returned (.tuple #[.slice a2 m2 d2, .int .i64 (erO er l.length)]) ∧ Below B w w' ∧ (erO er l.length = 0 → I l.length w' a2 m2 d2) ∧ (erO er l.length ≠ 0 → True) := by
  have HR : Hid (∀ w', Below B w w' → RowIs eG Q w' (.slice ao n c) l) := hid fun w' hb => h.keep (by decide) fun b hq _ => hb.block b (hQ b hq)
  have HS : Hid (∀ i (hi : i < l.length) (w' : World) (a : Option Addr) (m : Nat) (d : Nat) (cs : List Value), I i w' a m d → eG.E Q w' l[i] cs → _) := hid hs
  have HI : Hid (∀ i w' a m d, I i w' a m d → Below B w w') := hid hI
  have HA : Hid (∀ i w' a m d o, I i w' a m d → I i (w'.alloc o) a m d) := hid hA
  have H0 : Hid (I 0 w a0 m0 d0) := hid h0
  obtain ⟨ao', n', c', e', hn, hnc, hc, _⟩ := h
  cases e'
  subst hn
  clear hs hI hA h0 hQ
  go_enter Tryz.func139, Tryz.ntmps139
  go_wp2
  go_loopw [1, 14] (fun v1 v14 wr => ∃ k : Nat, ∃ a m d, k ≤ l.length ∧ v14 = .int .i64 k ∧ v1 = .slice a m d ∧ Hid (I k wr a m d) ∧ Hid (erO er k = 0)) (fun _ i _ => l.length - (intOf i).toNat)
  case atStart => exact ⟨0, _, _, _, Nat.zero_le _, rfl, rfl, H0, hid rfl⟩
  case round =>
    obtain ⟨k, a, m, d, hk, rfl, rfl, HK, HE⟩ := hrel
    by_cases hlt : k < l.length
    · have hB := HI.out _ _ _ _ _ HK.out
      obtain ⟨_, _, _, e', _, _, _, hx⟩ := HR.out wr hB
      cases e'
      obtain ⟨b, o, rfl, hq, hi⟩ := hx (by omega)
      obtain ⟨cs, hEx, h2, h3⟩ := hi k hlt
      obtain ⟨x, hxl⟩ : ∃ x, l[k] = x := ⟨_, rfl⟩
      rw [hxl] at hEx
      have hEx' := hEx
      obtain ⟨ea, en, ec, rfl, -⟩ := hEx'
      have c0 : wr.cell? ⟨b, o + k * 7, none⟩ = some (.int .i64 x.1.1) := by exact h3 0 (show 0 < 7 by decide)
      have c1 : wr.cell? ⟨b, o + k * 7 + 1, none⟩ = some (.int .i64 x.1.2.1) := by exact h3 1 (show 1 < 7 by decide)
      have c2 : wr.cell? ⟨b, o + k * 7 + 2, none⟩ = some (.int .i64 x.1.2.2.1) := by exact h3 2 (show 2 < 7 by decide)
      have c3 : wr.cell? ⟨b, o + k * 7 + 3, none⟩ = some (.string x.1.2.2.2.1) := by exact h3 3 (show 3 < 7 by decide)
      have c4 : wr.cell? ⟨b, o + k * 7 + 4, none⟩ = some (.string x.1.2.2.2.2.1) := by exact h3 4 (show 4 < 7 by decide)
      have c5 : wr.cell? ⟨b, o + k * 7 + 5, none⟩ = some (.string x.1.2.2.2.2.2) := by exact h3 5 (show 5 < 7 by decide)
      have c6 : wr.cell? ⟨b, o + k * 7 + 6, none⟩ = some (.slice ea en ec) := by exact h3 6 (show 6 < 7 by decide)
      have hkm : (k : Int) < (l.length : Int) := by omega
      have hk5 : k ≤ 500 := by omega
      clear h2 h3 hi hx
      have HX := HS.out k hlt (wr.alloc (.cells #[.int .i64 x.1.1, .int .i64 x.1.2.1, .int .i64 x.1.2.2.1, .string x.1.2.2.2.1, .string x.1.2.2.2.2.1, .string x.1.2.2.2.2.2, .slice ea en ec] 63)) a m d [.int .i64 x.1.1, .int .i64 x.1.2.1, .int .i64 x.1.2.2.1, .string x.1.2.2.2.1, .string x.1.2.2.2.2.1, .string x.1.2.2.2.2.2, .slice ea en ec] (HA.out _ _ _ _ _ _ HK.out) (by rw [hxl]; exact eG.keep (fun b _ hl => (bal (Below.refl _ _) _).block b hl) hEx)
      have bx := Bk.new wr (.cells #[.int .i64 x.1.1, .int .i64 x.1.2.1, .int .i64 x.1.2.2.1, .string x.1.2.2.2.1, .string x.1.2.2.2.2.1, .string x.1.2.2.2.2.2, .slice ea en ec] 63)
      clear hEx hxl
      go_upto_region 4 with fail
      generalize wr.alloc (.cells #[.int .i64 x.1.1, .int .i64 x.1.2.1, .int .i64 x.1.2.2.1, .string x.1.2.2.2.1, .string x.1.2.2.2.2.1, .string x.1.2.2.2.2.2, .slice ea en ec] 63) = W at *
      have d0 := bx.cell 0
      have d1 := bx.cell 1
      have d2 := bx.cell 2
      have d3 := bx.cell 3
      have d4 := bx.cell 4
      have d5 := bx.cell 5
      have d6 := bx.cell 6
      simp only [List.getElem?_toArray, List.getElem?_cons_zero, List.getElem?_cons_succ] at d0 d1 d2 d3 d4 d5 d6
      clear bx c0 c1 c2 c3 c4 c5 c6
      obtain ⟨z, hz⟩ : ∃ z, er k = z := ⟨_, rfl⟩
      rw [hz] at HX
      have HZ : Hid (er k = z) := hid hz
      replace HX : Hid _ := hid HX
      clear hz
      go_wp2_with fail
      refine Calls.mono HX.out ?_
      rintro e w4 ⟨a2, m2, d2, rfl, hb4, hi4⟩
      have HI4 : Hid _ := hid hi4
      clear HX hi4
      by_cases h0 : z = 0
      · subst h0
        have HE2 : Hid (erO er (k + 1) = 0) := hid (by rw [erO_succ, if_pos HE.out, HZ.out])
        go_wp2
        go_roundw
        case rel => exact ⟨k + 1, a2, m2, d2, hlt, by go_num, rfl, hid (HI4.out (by first | rfl | trivial)), HE2⟩
        case measure => simp only [intOf]; omega
      · have HE2 : Hid (erO er l.length = z) := hid (by rw [erO_stop hlt HE.out (by rw [HZ.out]; exact h0), HZ.out])
        have h0' : (z != 0) = true := by simpa using h0
        have h0d : decide (z = 0) = false := by simpa using h0
        go_wp2
        refine bodyPost_ret (v := .tuple #[.slice none 0 0, .int .i64 z]) (by simp [results, Tryz.results139]) rfl ⟨none, 0, 0, by rw [HE2.out], hb4, fun h => absurd (HE2.out.symm.trans h) h0, fun _ => trivial⟩
    · obtain rfl : k = l.length := by omega
      have hB := HI.out _ _ _ _ _ HK.out
      go_wp2
      refine bodyPost_ret (v := .tuple #[.slice a m d, .int .i64 0]) (by simp [results, Tryz.results139]) rfl ⟨a, m, d, by rw [HE.out], hB, fun _ => HK.out, fun h => absurd HE.out h⟩

end Go.Proofs.YtnlaaejdianfjaaGreat
