import Derived.Test.YtnlaaejdianfjaaGreatQfaa
import Derived.Lib.Bytealg
import Derived.Shelf.LaysM
import Derived.Shelf.Strconv.Clone
import Derived.Deep.RegionHeld3
import Derived.Deep.Trees
import Derived.Maps.AppendAt
import Derived.Deep.RegionLaw
import Derived.Deep.MidRow
namespace Go.Proofs.YtnlaaejdianfjaaGreat
open Go.RowKit
set_option linter.unusedVariables false

/-- But for block g all that lay in w lies in w' as it did. -/
structure But (g : Nat) (w w' : World) : Prop where
  os : w'.os = w.os
  tape : w'.tape = w.tape
  output : w'.output = w.output
  size : w.heap.size ≤ w'.heap.size
  block : ∀ k, k < w.heap.size → k ≠ g → w'.heap[k]? = w.heap[k]?
theorem But.refl (g : Nat) (w : World) : But g w w := ⟨rfl, rfl, rfl, Nat.le_refl _, fun _ _ _ => rfl⟩
theorem But.trans {g : Nat} {a b c : World} (h : But g a b) (k : But g b c) : But g a c :=
  ⟨k.os.trans h.os, k.tape.trans h.tape, k.output.trans h.output, Nat.le_trans h.size k.size, fun i hi hg => (k.block i (Nat.lt_of_lt_of_le hi h.size) hg).trans (h.block i hi hg)⟩
theorem But.of {g : Nat} {w w' : World} (h : Below w.heap.size w w') : But g w w' := ⟨h.os, h.tape, h.output, h.size, fun k hk _ => h.block k hk⟩
theorem But.set (g o : Nat) (w : World) (v : Value) : But g w (w.setCell ⟨g, o, none⟩ v) := ⟨rfl, rfl, rfl, by simp [World.setCell], fun k _ hk => Below.heap_setCell _ _ _ _ hk⟩
theorem But.below {g B : Nat} {a w w' : World} (h : Below B a w) (k : But g w w') (hB : B ≤ g) (hw : B ≤ w.heap.size) : Below B a w' :=
  h.trans ⟨k.os, k.tape, k.output, k.size, fun i hi => k.block i (by omega) (by omega)⟩
theorem But.cell {g : Nat} {w w' : World} (h : But g w w') {a : Addr} {v : Value} (hc : w.cell? a = some v) (hg : a.block ≠ g) : w'.cell? a = some v :=
  (World.cell?_of_block (h.block a.block (World.block_lt_of_cell? _ _ hc) hg)).trans hc
theorem But.rdrew {g : Nat} {w w' : World} (h : But g w w') (n : Nat) : But g w (w'.drewN n) := ⟨h.os, h.tape, h.output, h.size, h.block⟩

end Go.Proofs.YtnlaaejdianfjaaGreat
namespace Go.Proofs
open Go.Shelf
def Tryz.laysM316_ren : Go.Shelf.Ren := ⟨fun | 316 => 130 | n => n, fun | 9 => 9 | 3 => 3 | 4 => 4 | 37 => 22 | 0 => 0 | 127 => 203 | 5 => 5 | n => n, fun | n => n⟩
theorem Tryz.laysM316 : Go.Proofs.LaysM.n316 Tryz.prog Tryz.laysM316_ren := {
  mixed := by kernel_rfl
  f316 := Tryz.func130.trans (congrArg some (by kernel_rfl))
  t0 := Tryz.underlying0
  a0 := Tryz.isAgg0
  z0 := Tryz.sizeOf0
  v0 := Tryz.zeroValue0
  t3 := Tryz.underlying3
  a3 := Tryz.isAgg3
  z3 := Tryz.sizeOf3
  v3 := Tryz.zeroValue3
  t4 := Tryz.underlying4
  a4 := Tryz.isAgg4
  z4 := Tryz.sizeOf4
  v4 := Tryz.zeroValue4
  t9 := Tryz.underlying9
  a9 := Tryz.isAgg9
  z9 := Tryz.sizeOf9
  v9 := Tryz.zeroValue9
  t37 := Tryz.underlying22
  a37 := Tryz.isAgg22
  z37 := Tryz.sizeOf22
  v37 := Tryz.zeroValue22
  t127 := Tryz.underlying203
  a127 := Tryz.isAgg203
  z127 := Tryz.sizeOf203
  v127 := Tryz.zeroValue203
  t5 := Tryz.underlying5
  a5 := Tryz.isAgg5
  z5 := Tryz.sizeOf5
  v5 := Tryz.zeroValue5
  i0 := by kernel_rfl
  i3 := by kernel_rfl
  i4 := by kernel_rfl
  i5 := by kernel_rfl
  i9 := by kernel_rfl
  i37 := by kernel_rfl
  i127 := by kernel_rfl }
open Go.RowKit in
/-- internal/stringslite.Clone: the same bytes. -/
theorem Tryz.stringslite_Clone (s : ByteArray) (w : World) (hlim : s.size ≤ 281474976710656) :
    Calls Tryz.prog 130 #[.string s] w fun e w' => e = .returned (.string s) ∧ Below w.heap.size w w' := Any.stringslite_Clone Tryz.laysM316 s w hlim
end Go.Proofs
namespace Go.Proofs.YtnlaaejdianfjaaGreat
open Go.RowKit
set_option linter.unusedVariables false

/-- A step on. -/
theorem Below.on {a w w' : World} (h : Below a.heap.size a w) (k : Below w.heap.size w w') : Below a.heap.size a w' := h.trans (k.mono h.size)
/-- Are two texts the same? -/
def eqS (s t : ByteArray) : Bool := decide (s = t)
theorem same_str (s t : ByteArray) : (s.toList == t.toList) = decide (s = t) := by
  rw [Bool.eq_iff_iff]
  simp only [beq_iff_eq, decide_eq_true_eq]
  constructor
  · intro h
    rw [ByteArray.toList_eq, ByteArray.toList_eq] at h
    exact ByteArray.ext (Array.toList_inj.1 h)
  · intro h; rw [h]
end Go.Proofs.YtnlaaejdianfjaaGreat
namespace Go.Proofs.YtnlaaejdianfjaaGreat
open Go.RowKit
set_option linter.unusedVariables false

theorem cell_new (w : World) (arr : Array Value) (e : TypeId) (mk : Nat × Nat) (j : Nat) : (w.alloc (.cells arr e mk)).cell? ⟨w.heap.size, j, none⟩ = arr[j]? := by
  have : (w.alloc (.cells arr e mk)).heap[w.heap.size]? = some (.cells arr e mk) := heap_alloc_new w _
  unfold World.cell?
  rw [this]
  rfl
end Go.Proofs.YtnlaaejdianfjaaGreat
namespace Go.Proofs.YtnlaaejdianfjaaGreat
open Go.RowKit
set_option linter.unusedVariables false

theorem But.new {g : Nat} {w w' : World} (h : But g w w') {r : Nat} (hr : w.heap.size ≤ r) (o : Nat) (v : Value) : But g w (w'.setCell ⟨r, o, none⟩ v) :=
  ⟨h.os, h.tape, h.output, by simp [World.setCell]; exact h.size, fun k hk hg => (Below.heap_setCell _ _ _ _ (by show k ≠ r; omega)).trans (h.block k hk hg)⟩
theorem But.alloc {g : Nat} {w w' : World} (h : But g w w') (o : Obj) : But g w (w'.alloc o) :=
  h.trans (But.of ((Below.refl _ _).alloc (Nat.le_refl _) o))
end Go.Proofs.YtnlaaejdianfjaaGreat
namespace Go.Proofs.YtnlaaejdianfjaaGreat
open Go.RowKit
set_option linter.unusedVariables false

end Go.Proofs.YtnlaaejdianfjaaGreat
namespace Go.Proofs.YtnlaaejdianfjaaGreat
open Go.RowKit
set_option linter.unusedVariables false

end Go.Proofs.YtnlaaejdianfjaaGreat
namespace Go.Proofs.YtnlaaejdianfjaaGreat
open Go.RowKit
set_option linter.unusedVariables false

end Go.Proofs.YtnlaaejdianfjaaGreat
namespace Go.Proofs.YtnlaaejdianfjaaGreat
open Go.RowKit
set_option linter.unusedVariables false

end Go.Proofs.YtnlaaejdianfjaaGreat
namespace Go.Proofs.YtnlaaejdianfjaaGreat
open Go.RowKit
set_option linter.unusedVariables false

end Go.Proofs.YtnlaaejdianfjaaGreat
namespace Go.Proofs.YtnlaaejdianfjaaGreat
open Go.RowKit
set_option linter.unusedVariables false

end Go.Proofs.YtnlaaejdianfjaaGreat
namespace Go.Proofs.YtnlaaejdianfjaaGreat
open Go.RowKit
set_option linter.unusedVariables false

end Go.Proofs.YtnlaaejdianfjaaGreat
namespace Go.Proofs.YtnlaaejdianfjaaGreat
open Go.RowKit
set_option linter.unusedVariables false

/-- What a node of an expression has besides its number: Value (Kind, Int, Text), Table, Name. -/
abbrev Pay := Int × Int × ByteArray × ByteArray × ByteArray
/-- An expression: '.node 0 number payload left right'. -/
abbrev Tr := Go.Deep.BT Pay
/-- A fault's place and the fault; or what was read, and the words behind it. -/
abbrev Re (α : Type) := Sum (Int × Int) (α × List Tk)
/-- A fault's place and the fault; or the words that are yet to be read. -/
abbrev Sa := Sum (Int × Int) (List Tk)
/-- What may lie one deeper, where n may. -/
def below (f : Nat → List Tk → Re Tr) : Nat → Option (List Tk → Re Tr)
  | 0 => none
  | n + 1 => some (f n)
end Go.Proofs.YtnlaaejdianfjaaGreat
namespace Go.Proofs.YtnlaaejdianfjaaGreat
open Go.RowKit
set_option linter.unusedVariables false

end Go.Proofs.YtnlaaejdianfjaaGreat
namespace Go.Proofs.YtnlaaejdianfjaaGreat
open Go.RowKit
set_option linter.unusedVariables false

theorem hid {p : Prop} (h : p) : Hid p := h
end Go.Proofs.YtnlaaejdianfjaaGreat
namespace Go.Proofs.YtnlaaejdianfjaaGreat
open Go.RowKit
set_option linter.unusedVariables false

end Go.Proofs.YtnlaaejdianfjaaGreat
namespace Go.Proofs.YtnlaaejdianfjaaGreat
open Go.RowKit
set_option linter.unusedVariables false

/-- The seven cells of an expression from place o on in block b. -/
def Ce (w : World) (b o : Nat) (op : Int) (p : Pay) (sl : Value) : Prop :=
  w.cell? ⟨b, o, none⟩ = some (.int .i64 op) ∧ w.cell? ⟨b, o + 1, none⟩ = some (.int .i64 p.1) ∧ w.cell? ⟨b, o + 2, none⟩ = some (.int .i64 p.2.1) ∧ w.cell? ⟨b, o + 3, none⟩ = some (.string p.2.2.1) ∧ w.cell? ⟨b, o + 4, none⟩ = some (.string p.2.2.2.1) ∧ w.cell? ⟨b, o + 5, none⟩ = some (.string p.2.2.2.2) ∧ w.cell? ⟨b, o + 6, none⟩ = some sl
theorem Ce.keep {w w' : World} {b o : Nat} {op : Int} {p : Pay} {sl : Value} (h : Ce w b o op p sl) (hk : w'.heap[b]? = w.heap[b]?) : Ce w' b o op p sl := by
  obtain ⟨h0, h1, h2, h3, h4, h5, h6⟩ := h
  exact ⟨(World.cell?_of_block (a := ⟨b, _, none⟩) hk).trans h0, (World.cell?_of_block (a := ⟨b, _, none⟩) hk).trans h1, (World.cell?_of_block (a := ⟨b, _, none⟩) hk).trans h2, (World.cell?_of_block (a := ⟨b, _, none⟩) hk).trans h3, (World.cell?_of_block (a := ⟨b, _, none⟩) hk).trans h4, (World.cell?_of_block (a := ⟨b, _, none⟩) hk).trans h5, (World.cell?_of_block (a := ⟨b, _, none⟩) hk).trans h6⟩
theorem Ce.lt {w : World} {b o : Nat} {op : Int} {p : Pay} {sl : Value} (h : Ce w b o op p sl) : b < w.heap.size := World.block_lt_of_cell? _ _ h.1
theorem bal {a w : World} (h : Below a.heap.size a w) (o : Obj) : Below a.heap.size a (w.alloc o) := h.alloc h.size o

abbrev zE : Obj := .cells #[.int .i64 0, .int .i64 0, .int .i64 0, .string ⟨#[]⟩, .string ⟨#[]⟩, .string ⟨#[]⟩, .slice none 0 0] 63

end Go.Proofs.YtnlaaejdianfjaaGreat
namespace Go.Proofs.YtnlaaejdianfjaaGreat
open Go.RowKit
set_option linter.unusedVariables false

end Go.Proofs.YtnlaaejdianfjaaGreat
namespace Go.Proofs.YtnlaaejdianfjaaGreat
open Go.RowKit
set_option linter.unusedVariables false

end Go.Proofs.YtnlaaejdianfjaaGreat
namespace Go.Proofs.YtnlaaejdianfjaaGreat
open Go.RowKit
set_option linter.unusedVariables false

end Go.Proofs.YtnlaaejdianfjaaGreat
namespace Go.Proofs.YtnlaaejdianfjaaGreat
open Go.RowKit
set_option linter.unusedVariables false

end Go.Proofs.YtnlaaejdianfjaaGreat
namespace Go.Proofs.YtnlaaejdianfjaaGreat
open Go.RowKit
set_option linter.unusedVariables false

end Go.Proofs.YtnlaaejdianfjaaGreat
namespace Go.Proofs.YtnlaaejdianfjaaGreat
open Go.RowKit
set_option linter.unusedVariables false

end Go.Proofs.YtnlaaejdianfjaaGreat
namespace Go.Proofs.YtnlaaejdianfjaaGreat
open Go.RowKit
set_option linter.unusedVariables false

/-- A kind of thing in memory: how many cells, and when they are it. -/
structure Ek (α : Type) where
  k : Nat
  E : (Nat → Prop) → World → α → List Value → Prop
  keep : ∀ {Q : Nat → Prop} {w w' : World} {t : α} {cs : List Value}, (∀ b, Q b → b < w.heap.size → w'.heap[b]? = w.heap[b]?) → E Q w t cs → E Q w' t cs
  mono : ∀ {Q Q' : Nat → Prop} {w : World} {t : α} {cs : List Value}, (∀ b, Q b → b < w.heap.size → Q' b) → E Q w t cs → E Q' w t cs
abbrev Co := ByteArray × Int × ByteArray
def eCol : Ek Co := ⟨3, fun _ _ c cs => cs = [.string c.1, .int .i64 c.2.1, .string c.2.2], fun _ h => h, fun _ h => h⟩
abbrev It := Int × ByteArray × ByteArray
def eItem : Ek It := ⟨3, fun _ _ c cs => cs = [.int .i64 c.1, .string c.2.1, .string c.2.2], fun _ h => h, fun _ h => h⟩
def exC (o : Int) (p : Pay) (sl : Value) : List Value := [.int .i64 o, .int .i64 p.1, .int .i64 p.2.1, .string p.2.2.1, .string p.2.2.2.1, .string p.2.2.2.2, sl]
/-- The value is a slice that reads as the list; its rows lie in blocks that Q lets. -/
def RowIs {α : Type} (e : Ek α) (Q : Nat → Prop) (w : World) (v : Value) (l : List α) : Prop :=
  ∃ ao n c, v = .slice ao n c ∧ l.length = n ∧ n ≤ c ∧ c ≤ 9223372036854775807 ∧ (0 < n → ∃ b o, ao = some ⟨b, o, none⟩ ∧ Q b ∧ ∀ i (h : i < l.length), ∃ cs, e.E Q w l[i] cs ∧ cs.length = e.k ∧ ∀ j (hj : j < cs.length), w.cell? ⟨b, o + i * e.k + j, none⟩ = some cs[j])
theorem RowIs.nil {α : Type} (e : Ek α) (Q : Nat → Prop) (w : World) : RowIs e Q w (.slice none 0 0) [] := ⟨none, 0, 0, rfl, rfl, Nat.le_refl _, by omega, fun h => absurd h (Nat.lt_irrefl _)⟩
theorem RowIs.keep {α : Type} {e : Ek α} (he : 0 < e.k) {Q : Nat → Prop} {w w' : World} {v : Value} {l : List α} (hk : ∀ b, Q b → b < w.heap.size → w'.heap[b]? = w.heap[b]?) (h : RowIs e Q w v l) : RowIs e Q w' v l := by
  obtain ⟨ao, n, c, hv, hl, hn, hc, hx⟩ := h
  refine ⟨ao, n, c, hv, hl, hn, hc, fun hp => ?_⟩
  obtain ⟨b, o, ha, hq, hi⟩ := hx hp
  refine ⟨b, o, ha, hq, fun i h => ?_⟩
  obtain ⟨cs, h1, h2, h3⟩ := hi i h
  have hb : b < w.heap.size := World.block_lt_of_cell? _ _ (h3 0 (by omega))
  exact ⟨cs, e.keep hk h1, h2, fun j hj => (World.cell?_of_block (a := ⟨b, _, none⟩) (hk b hq hb)).trans (h3 j hj)⟩
theorem RowIs.mono {α : Type} {e : Ek α} (he : 0 < e.k) {Q Q' : Nat → Prop} {w : World} {v : Value} {l : List α} (hk : ∀ b, Q b → b < w.heap.size → Q' b) (h : RowIs e Q w v l) : RowIs e Q' w v l := by
  obtain ⟨ao, n, c, hv, hl, hn, hc, hx⟩ := h
  refine ⟨ao, n, c, hv, hl, hn, hc, fun hp => ?_⟩
  obtain ⟨b, o, ha, hq, hi⟩ := hx hp
  have hb : b < w.heap.size := by
    obtain ⟨cs, h1, h2, h3⟩ := hi 0 (by omega)
    exact World.block_lt_of_cell? _ _ (h3 0 (by omega))
  exact ⟨b, o, ha, hk b hq hb, fun i h => by
    obtain ⟨cs, h1, h2, h3⟩ := hi i h
    exact ⟨cs, e.mono hk h1, h2, h3⟩⟩

/-- A row of the call's own, thing by thing. -/
def OwnR (ty k B : Nat) (w : World) (v : Value) (css : List (List Value)) : Prop := (∀ cs ∈ css, cs.length = k) ∧ w.ownsRow B ty k v css.length css.flatten
theorem flat_at {k : Nat} : ∀ {css : List (List Value)}, (∀ cs ∈ css, cs.length = k) → ∀ {i j : Nat} (hi : i < css.length) (hj : j < k), css.flatten[i * k + j]? = (css[i])[j]? := by
  intro css
  induction css with
  | nil => intro _ i j hi; simp at hi
  | cons c l ih =>
    intro h i j hi hj
    have hc := h c (by simp)
    cases i with
    | zero => rw [List.flatten_cons, List.getElem?_append_left (by omega)]; simp
    | succ i =>
      rw [List.flatten_cons, List.getElem?_append_right (by rw [hc, Nat.succ_mul]; omega), show (i + 1) * k + j - c.length = i * k + j from by rw [hc, Nat.succ_mul]; omega]
      exact ih (fun x hx => h x (by simp [hx])) (by simpa using hi) hj
theorem OwnR.row {α : Type} {e : Ek α} {ty B : Nat} {w : World} {v : Value} {css : List (List Value)} {l : List α} {Q : Nat → Prop} (h : OwnR ty e.k B w v css) (hl : l.length = css.length) (hn : css ≠ []) (hq : ∀ b, B ≤ b → b < w.heap.size → Q b)
    (hE : ∀ i (h1 : i < l.length) (h2 : i < css.length), e.E Q w l[i] css[i]) : RowIs e Q w v l := by
  rcases h.2.2 with ⟨rfl, h0⟩ | ⟨g, cap, cur, rfl, hb, hg, hnc, hc, hs, ht⟩
  · exact absurd (List.eq_nil_of_length_eq_zero h0) hn
  · have hgl : g < w.heap.size := (Array.getElem?_eq_some_iff.1 hg).1
    refine ⟨_, css.length, cap, rfl, hl, hnc, by simpa [maxLen] using hc, fun hp => ⟨g, 0, rfl, hq g hb hgl, fun i hi => ⟨css[i]'(by omega), hE i hi (by omega), h.1 _ (List.getElem_mem _), fun j hj => ?_⟩⟩⟩
    have hk := h.1 _ (List.getElem_mem (l := css) (n := i) (by omega))
    have hlt : i * e.k + j < css.length * e.k := by
      have : (i + 1) * e.k ≤ css.length * e.k := Nat.mul_le_mul_right _ (by omega)
      rw [Nat.succ_mul] at this
      omega
    have c0 := World.ownsRow.cellAt h.2 (i * e.k + j) hlt
    rw [Nat.zero_add, c0, flat_at h.1 (by omega) (by omega)]
    exact List.getElem?_eq_getElem hj
theorem OwnR.but {ty k B g : Nat} {w w' : World} {v : Value} {css : List (List Value)} (h : OwnR ty k B w v css) (hb : But g w w') (hg : g < B) : OwnR ty k B w' v css := by
  refine ⟨h.1, h.2.1, ?_⟩
  rcases h.2.2 with k | ⟨b, cap, cur, hv, hg', hh, r⟩
  · exact .inl k
  · exact .inr ⟨b, cap, cur, hv, hg', by rw [hb.block b (Array.getElem?_eq_some_iff.1 hh).1 (by omega)]; exact hh, r⟩
theorem OwnR.alloc {ty k B : Nat} {w : World} {v : Value} {css : List (List Value)} (h : OwnR ty k B w v css) (o : Obj) : OwnR ty k B (w.alloc o) v css := ⟨h.1, World.ownsRow.alloc h.2 o⟩
theorem OwnR.lit (ty k B : Nat) (w : World) (cs : List Value) (hk : cs.length = k) (hB : B ≤ w.heap.size) : OwnR ty k B (w.alloc (.cells cs.toArray ty)) (.slice (some ⟨w.heap.size, 0, none⟩) 1 1) [cs] := by
  subst hk
  refine ⟨fun c hc => by simp at hc; rw [hc], by simp, .inr ⟨w.heap.size, 1, cs.toArray, rfl, hB, heap_alloc_new w _, Nat.le_refl _, by simp [maxLen], by simp, by simp⟩⟩
theorem run_appR {t ty e : TypeId} {z : Value} {k bytes B : Nat} (ht : Tryz.prog.underlying t = some (.slice e)) (hinf : (Tryz.prog.info? e).map (fun i => (i.zero, i.size, i.bytes)) = some (some z, k, bytes)) (hzs : z.cells.size = k) (hk : 0 < k) (hby : bytes ≤ 1000)
    (w : World) (v : Value) (css : List (List Value)) (g : Nat) (cs : List Value) (hown : OwnR e k B w v css) (hcs : cs.length = k) (h1 : ∀ u ∈ cs, u.oneCell' = true) (hx : ∀ j (hj : j < cs.length), w.cell? ⟨g, j, none⟩ = some cs[j]) (hl : css.length ≤ 1000) (hB : B ≤ w.heap.size) :
    ∃ v' w', (Builtin.append_ #[t, t] ty #[v, .slice (some ⟨g, 0, none⟩) 1 1]).run Tryz.prog w = .ok v' w' ∧ OwnR e k B w' v' (css ++ [cs]) ∧ w.grownBy w' v.ownBlock ∧ (v'.ownBlock = v.ownBlock ∨ v'.ownBlock = some w.heap.size) := by
  obtain ⟨i, hi, hz, hsz, hb⟩ := info_parts hinf
  obtain ⟨v', w', hr, h2, h3, _, h5⟩ := run_append_own_at (P := Tryz.prog) w B t ty e i z k bytes ht hi hz hsz hb hzs hk v css.length _ hown.2 ⟨g, 0, none⟩ 1 1 cs (by omega)
    (by
      intro j u hj
      obtain ⟨hj1, hj2⟩ := List.getElem?_eq_some_iff.1 hj
      have := hx j hj1
      rw [hj2] at this
      have e : (⟨g, 0, none⟩ : Addr).add j = ⟨g, j, none⟩ := by unfold Addr.add; split <;> simp_all
      rw [e]
      exact this)
    h1 (by unfold maxLen; omega) (by have : (css.length + 1) * bytes ≤ 1001 * 1000 := Nat.mul_le_mul (by omega) hby; omega) hB
  refine ⟨v', w', hr, ⟨?_, ?_⟩, h3, h5⟩
  · intro c hc
    rw [List.mem_append, List.mem_singleton] at hc
    rcases hc with hc | rfl
    · exact hown.1 c hc
    · exact hcs
  · simpa using h2
theorem wpList_appR {t e : TypeId} {z : Value} {k bytes B : Nat} (ht : Tryz.prog.underlying t = some (.slice e)) (hinf : (Tryz.prog.info? e).map (fun i => (i.zero, i.size, i.bytes)) = some (some z, k, bytes)) (hzs : z.cells.size = k) (hk : 0 < k) (hby : bytes ≤ 1000)
    {w : World} {ops : Array Oper} {rest : List Oper} {o : Oper} {a : Act} {Q : Exit → Act → World → Prop} (hgd : o.guard = none) (s x : Operand)
    (ho : o.op = .call { callee := .builtin .append, args := #[s, x], argTypes := #[t, t] }) (v : Value) (css : List (List Value)) (g : Nat) (cs : List Value) (hs : a.eval s = v) (hx : a.eval x = .slice (some ⟨g, 0, none⟩) 1 1)
    (hown : OwnR e k B w v css) (hcs : cs.length = k) (h1 : ∀ u ∈ cs, u.oneCell' = true) (hcell : ∀ j (hj : j < cs.length), w.cell? ⟨g, j, none⟩ = some cs[j]) (hl : css.length ≤ 1000) (hB : B ≤ w.heap.size)
    (h : ∀ v' w', OwnR e k B w' v' (css ++ [cs]) → w.grownBy w' v.ownBlock → (v'.ownBlock = v.ownBlock ∨ v'.ownBlock = some w.heap.size) → wpList Tryz.prog ops Q rest (a.put o.dst v') w') : wpList Tryz.prog ops Q (o :: rest) a w :=
  wpList_plain hgd fun _ hK => by
    obtain ⟨v', w', hr, h2, h3, h4⟩ := run_appR ht hinf hzs hk hby w v css g cs hown hcs h1 hcell hl hB (ty := o.type)
    unfold Oper.wp execOp
    simp only [ho, resolve, invoke, builtin, Sem.run_bind, Sem.run_pure, Result.andThen_ok, List.map_toArray, List.map_cons, List.map_nil, hs, hx, hr]
    exact hK _ _ (h v' w' h2 h3 h4)

/-- A statement without what stands in it. -/
structure Sm where
  kind : Int
  table : ByteArray
  name : ByteArray
  cols : List Co
  tags : List Int
  values : List Tr
  items : List It
  join : ByteArray
  on : List Tr
  wh : List Tr
  order : List Tr
  desc : Bool
end Go.Proofs.YtnlaaejdianfjaaGreat
namespace Go.Proofs.YtnlaaejdianfjaaGreat
open Go.RowKit
set_option linter.unusedVariables false

theorem Ek.grow {α : Type} (e : Ek α) {w5 w6 : World} {B : Nat} {row own : Option Nat} {u : α} {ds : List Value} (hE : e.E (fun b => B ≤ b ∧ some b ≠ row) w5 u ds) (hg : w5.grownBy w6 row) (hown : own = row ∨ own = some w5.heap.size) : e.E (fun b => B ≤ b ∧ some b ≠ own) w6 u ds :=
  e.mono (fun b hq _ => ⟨hq.1, hq.2.2⟩) (e.keep (w := w5) (fun b hq hlt => hg.block b hlt hq.2.1) (e.mono (Q' := fun b => B ≤ b ∧ some b ≠ row ∧ some b ≠ own) (fun b hq hlt => ⟨hq.1, hq.2, by
    rcases hown with h | h
    · rw [h]; exact hq.2
    · rw [h]; simp; omega⟩) hE))
theorem OwnR.blk {ty k B : Nat} {w : World} {v : Value} {css : List (List Value)} (h : OwnR ty k B w v css) : ∀ b, v.ownBlock = some b → B ≤ b ∧ b < w.heap.size := fun b e => World.ownsRow.lt h.2 b e

end Go.Proofs.YtnlaaejdianfjaaGreat
namespace Go.Proofs.YtnlaaejdianfjaaGreat
open Go.RowKit
set_option linter.unusedVariables false

end Go.Proofs.YtnlaaejdianfjaaGreat
namespace Go.Proofs.YtnlaaejdianfjaaGreat
open Go.RowKit
set_option linter.unusedVariables false

end Go.Proofs.YtnlaaejdianfjaaGreat
namespace Go.Proofs.YtnlaaejdianfjaaGreat
open Go.RowKit
set_option linter.unusedVariables false

end Go.Proofs.YtnlaaejdianfjaaGreat
namespace Go.Proofs.YtnlaaejdianfjaaGreat
open Go.RowKit
set_option linter.unusedVariables false

end Go.Proofs.YtnlaaejdianfjaaGreat
namespace Go.Proofs.YtnlaaejdianfjaaGreat
open Go.RowKit
set_option linter.unusedVariables false

end Go.Proofs.YtnlaaejdianfjaaGreat
namespace Go.Proofs.YtnlaaejdianfjaaGreat
open Go.RowKit
set_option linter.unusedVariables false

end Go.Proofs.YtnlaaejdianfjaaGreat
namespace Go.Proofs.YtnlaaejdianfjaaGreat
open Go.RowKit
set_option linter.unusedVariables false

end Go.Proofs.YtnlaaejdianfjaaGreat
namespace Go.Proofs.YtnlaaejdianfjaaGreat
open Go.RowKit
set_option linter.unusedVariables false

/-- A slice's address, length, capacity. -/
abbrev Sl := Option Addr × Nat × Nat
abbrev slV (s : Sl) : Value := .slice s.1 s.2.1 s.2.2
/-- The cells of a statement. -/
structure Sv where
  k : Int
  tb : ByteArray
  nm : ByteArray
  co : Sl
  ta : Sl
  va : Sl
  it : Sl
  jn : ByteArray
  on : Sl
  wh : Sl
  od : Sl
  ds : Bool
  inn : Sl
def stV (s : Sv) : Value := .agg #[.int .i64 s.k, .string s.tb, .string s.nm, .slice s.co.1 s.co.2.1 s.co.2.2, .slice s.ta.1 s.ta.2.1 s.ta.2.2, .slice s.va.1 s.va.2.1 s.va.2.2, .slice s.it.1 s.it.2.1 s.it.2.2, .string s.jn, .slice s.on.1 s.on.2.1 s.on.2.2, .slice s.wh.1 s.wh.2.1 s.wh.2.2, .slice s.od.1 s.od.2.1 s.od.2.2, .bool s.ds, .slice s.inn.1 s.inn.2.1 s.inn.2.2]
abbrev zS (k : Int) : Sv := ⟨k, ⟨#[]⟩, ⟨#[]⟩, (none, 0, 0), (none, 0, 0), (none, 0, 0), (none, 0, 0), ⟨#[]⟩, (none, 0, 0), (none, 0, 0), (none, 0, 0), false, (none, 0, 0)⟩
structure Bs (w : World) (b : Nat) (s : Sv) : Prop where
  row : w.heap[b]? = some (.cells #[.int .i64 s.k, .string s.tb, .string s.nm, .slice s.co.1 s.co.2.1 s.co.2.2, .slice s.ta.1 s.ta.2.1 s.ta.2.2, .slice s.va.1 s.va.2.1 s.va.2.2, .slice s.it.1 s.it.2.1 s.it.2.2, .string s.jn, .slice s.on.1 s.on.2.1 s.on.2.2, .slice s.wh.1 s.wh.2.1 s.wh.2.2, .slice s.od.1 s.od.2.1 s.od.2.2, .bool s.ds, .slice s.inn.1 s.inn.2.1 s.inn.2.2] 30 (0, 0))
theorem Bs.lt {w : World} {b : Nat} {s : Sv} (h : Bs w b s) : b < w.heap.size := (Array.getElem?_eq_some_iff.1 h.row).1
theorem Bs.keep {w w' : World} {b : Nat} {s : Sv} (h : Bs w b s) (hk : w'.heap[b]? = w.heap[b]?) : Bs w' b s := ⟨hk.trans h.row⟩
theorem Bs.later {w w' : World} {b : Nat} {s : Sv} (h : Bs w b s) (hb : Below w.heap.size w w') : Bs w' b s := h.keep (hb.block b h.lt)
theorem Bs.cells {w : World} {b : Nat} {s : Sv} (h : Bs w b s) : w.cell? ⟨b, 0, none⟩ = some (.int .i64 s.k) ∧ w.cell? ⟨b, 1, none⟩ = some (.string s.tb) ∧ w.cell? ⟨b, 2, none⟩ = some (.string s.nm) ∧ w.cell? ⟨b, 3, none⟩ = some (.slice s.co.1 s.co.2.1 s.co.2.2) ∧ w.cell? ⟨b, 4, none⟩ = some (.slice s.ta.1 s.ta.2.1 s.ta.2.2) ∧ w.cell? ⟨b, 5, none⟩ = some (.slice s.va.1 s.va.2.1 s.va.2.2) ∧ w.cell? ⟨b, 6, none⟩ = some (.slice s.it.1 s.it.2.1 s.it.2.2) ∧ w.cell? ⟨b, 7, none⟩ = some (.string s.jn) ∧ w.cell? ⟨b, 8, none⟩ = some (.slice s.on.1 s.on.2.1 s.on.2.2) ∧ w.cell? ⟨b, 9, none⟩ = some (.slice s.wh.1 s.wh.2.1 s.wh.2.2) ∧ w.cell? ⟨b, 10, none⟩ = some (.slice s.od.1 s.od.2.1 s.od.2.2) ∧ w.cell? ⟨b, 11, none⟩ = some (.bool s.ds) ∧ w.cell? ⟨b, 12, none⟩ = some (.slice s.inn.1 s.inn.2.1 s.inn.2.2) := by
  unfold World.cell?; rw [h.row]; exact ⟨rfl, rfl, rfl, rfl, rfl, rfl, rfl, rfl, rfl, rfl, rfl, rfl, rfl⟩
/-- A statement, and those that stand in it. -/
abbrev Sf := Sm × List Sm
end Go.Proofs.YtnlaaejdianfjaaGreat
namespace Go.Proofs.YtnlaaejdianfjaaGreat
open Go.RowKit
set_option linter.unusedVariables false

theorem OwnR.sl {ty k B : Nat} {w : World} {v : Value} {css : List (List Value)} (h : OwnR ty k B w v css) : ∃ ao n c, v = .slice ao n c := by
  rcases h.2.2 with ⟨rfl, h0⟩ | ⟨gg, cap, cur, rfl, hrest⟩
  · exact ⟨_, _, _, rfl⟩
  · exact ⟨_, _, _, rfl⟩
theorem OwnR.nil (ty k B : Nat) (w : World) : OwnR ty k B w (.slice none 0 0) [] := ⟨fun cs h => by simp at h, by simp, .inl ⟨rfl, rfl⟩⟩
theorem step_appR {t ety : TypeId} {z : Value} {k bytes B : Nat} {ops : Array Oper} {o : Oper} {a : Act} {w : World} {K : Act → World → Prop} {Q : Exit → Act → World → Prop} {E : Prop}
    (hgd : o.guard = none) (s x : Operand) (ho : o.op = .call { callee := .builtin .append, args := #[s, x], argTypes := #[t, t] })
    (ht : Tryz.prog.underlying t = some (.slice ety)) (hinf : (Tryz.prog.info? ety).map (fun i => (i.zero, i.size, i.bytes)) = some (some z, k, bytes)) (hzs : z.cells.size = k) (hk : 0 < k) (hby : bytes ≤ 1000)
    (v : Value) (css : List (List Value)) (g : Nat) (cs : List Value) (hs : a.eval s = v) (hx : a.eval x = .slice (some ⟨g, 0, none⟩) 1 1)
    (hown : OwnR ety k B w v css) (hcs : cs.length = k) (h1 : ∀ u ∈ cs, u.oneCell' = true) (hcell : ∀ j (hj : j < cs.length), w.cell? ⟨g, j, none⟩ = some cs[j]) (hl : css.length ≤ 1000) (hB : B ≤ w.heap.size)
    (h : ∀ v' w', OwnR ety k B w' v' (css ++ [cs]) → w.grownBy w' v.ownBlock → (v'.ownBlock = v.ownBlock ∨ v'.ownBlock = some w.heap.size) → K (a.put o.dst v') w') :
    if Region.wanted o (yielded ops a.tmps) = true then Oper.wp Tryz.prog o a w K Q else E := by
  have hw : Region.wanted o (yielded ops a.tmps) = true := by simp [Region.wanted, hgd]
  rw [if_pos hw]
  obtain ⟨v', w', hr, h2, h3, h4⟩ := run_appR ht hinf hzs hk hby w v css g cs hown hcs h1 hcell hl hB (ty := o.type)
  unfold Oper.wp execOp
  simp only [ho, resolve, invoke, builtin, Sem.run_bind, Sem.run_pure, Result.andThen_ok, List.map_toArray, List.map_cons, List.map_nil, hs, hx, hr]
  exact h v' w' h2 h3 h4
theorem new3 (w : World) (a b c : Value) (ty : TypeId) : ∀ j (hj : j < [a, b, c].length), (w.alloc (.cells #[a, b, c] ty)).cell? ⟨w.heap.size, j, none⟩ = some [a, b, c][j] := by
  intro j hj
  have hj' : j < 3 := hj
  match j, hj' with
  | 0, _ => exact cell_new w _ _ _ 0
  | 1, _ => exact cell_new w _ _ _ 1
  | 2, _ => exact cell_new w _ _ _ 2
end Go.Proofs.YtnlaaejdianfjaaGreat
namespace Go.Proofs.YtnlaaejdianfjaaGreat
open Go.RowKit
set_option linter.unusedVariables false
set_option linter.unusedSimpArgs false

def eStr : Ek ByteArray := ⟨1, fun _ _ s cs => cs = [.string s], fun _ h => h, fun _ h => h⟩
structure Tbl where
  name : ByteArray
  cols : List Co
  index : List ByteArray
def eTbl : Ek Tbl := ⟨3, fun Q w t cs => ∃ a n c a' n' c', cs = [.string t.name, .slice a n c, .slice a' n' c'] ∧ RowIs eCol Q w (.slice a n c) t.cols ∧ RowIs eStr Q w (.slice a' n' c') t.index,
  fun hk ⟨a, n, c, a', n', c', h1, h2, h3⟩ => ⟨a, n, c, a', n', c', h1, h2.keep (by decide) hk, h3.keep (by decide) hk⟩, fun hk ⟨a, n, c, a', n', c', h1, h2, h3⟩ => ⟨a, n, c, a', n', c', h1, h2.mono (by decide) hk, h3.mono (by decide) hk⟩⟩
/-- Texts that are not too long. -/
def StrB (s : ByteArray) : Prop := s.size ≤ 500
def ColB (c : Co) : Prop := c.1.size ≤ 500 ∧ c.2.2.size ≤ 500
/-- A list of such ones. -/
def AllB {α : Type} (P : α → Prop) (l : List α) : Prop := l.length ≤ 500 ∧ ∀ x ∈ l, P x
def TblB (t : Tbl) : Prop := StrB t.name ∧ AllB ColB t.cols ∧ AllB StrB t.index
/-- A block as it is. -/
structure Bk (w : World) (b : Nat) (o : Obj) : Prop where
  row : w.heap[b]? = some o
theorem Bk.new (w : World) (o : Obj) : Bk (w.alloc o) w.heap.size o := ⟨heap_alloc_new w o⟩
theorem Bk.lt {w : World} {b : Nat} {o : Obj} (h : Bk w b o) : b < w.heap.size := (Array.getElem?_eq_some_iff.1 h.row).1
theorem Bk.later {w w' : World} {b : Nat} {o : Obj} (h : Bk w b o) (hb : Below w.heap.size w w') : Bk w' b o := ⟨(hb.block b h.lt).trans h.row⟩
theorem Bk.cell {w : World} {b : Nat} {arr : Array Value} {t : TypeId} {mk : Nat × Nat} (h : Bk w b (.cells arr t mk)) (j : Nat) : w.cell? ⟨b, j, none⟩ = arr[j]? := by
  unfold World.cell?; rw [h.row]; rfl
theorem Bk.free {w : World} {b : Nat} {arr : Array Value} {t : TypeId} (h : Bk w b (.cells arr t (0, 0))) (j : Nat) : w.frozen? ⟨b, j, none⟩ = false := by
  unfold World.frozen?; rw [h.row]; rfl

theorem OwnR.later {ty k B : Nat} {w w' : World} {v : Value} {css : List (List Value)} (h : OwnR ty k B w v css) (hb : Below w.heap.size w w') : OwnR ty k B w' v css := by
  refine ⟨h.1, h.2.1, ?_⟩
  rcases h.2.2 with k | ⟨b, cap, cur, hv, hg', hh, r⟩
  · exact .inl k
  · exact .inr ⟨b, cap, cur, hv, hg', by rw [hb.block b (Array.getElem?_eq_some_iff.1 hh).1]; exact hh, r⟩
theorem Below.grownR {B : Nat} {a w w' : World} {row : Option Nat} (h : Below B a w) (hB : B ≤ w.heap.size) (hg : w.grownBy w' row) (hrow : ∀ k, row = some k → B ≤ k) : Below B a w' :=
  h.trans ⟨hg.os, hg.tape, hg.output, hg.size, fun k hk => hg.block k (by omega) fun e => by have := hrow k e.symm; omega⟩

/-- A row of the call's own, read, be it empty or not. -/
theorem OwnR.rowE {α : Type} {e : Ek α} {ty B : Nat} {w : World} {v : Value} {css : List (List Value)} {l : List α} {Q : Nat → Prop} (h : OwnR ty e.k B w v css) (hl : l.length = css.length) (hq : ∀ b, B ≤ b → b < w.heap.size → Q b)
    (hE : ∀ i (h1 : i < l.length) (h2 : i < css.length), e.E Q w l[i] css[i]) : RowIs e Q w v l := by
  by_cases hn : css = []
  · subst hn
    obtain rfl : l = [] := List.eq_nil_of_length_eq_zero hl
    rcases h.2.2 with ⟨rfl, _⟩ | ⟨b, cap, cur, rfl, _, _, h1, h2, _⟩
    · exact RowIs.nil _ _ _
    · exact ⟨_, _, cap, rfl, rfl, Nat.zero_le _, Nat.le_trans h2 (by decide), fun h => absurd h (by simp)⟩
  · exact OwnR.row h hl hn hq hE

/-- Block b is stored into, cell by cell, from its first on. -/
def stW (w : World) (b : Nat) (l : List Value) : World := w.setCells b 0 l
theorem Bk.there {w : World} {b : Nat} {arr : Array Value} {t : TypeId} (h : Bk w b (.cells arr t (0, 0))) {n : Nat} (hn : n = arr.size) : w.there b 0 n := fun j hj => by
  subst hn
  rw [Nat.zero_add, h.cell j, Array.getElem?_eq_getElem hj]
  exact ⟨rfl, h.free j⟩
theorem setCells_heap {b k : Nat} (hk : k ≠ b) : ∀ (l : List Value) (o : Nat) (w : World), (w.setCells b o l).heap[k]? = w.heap[k]?
  | [], _, _ => rfl
  | v :: r, o, w => by rw [World.setCells, setCells_heap hk r, Below.heap_setCell _ _ _ _ hk]
theorem setCells_below {B b : Nat} (hb : B ≤ b) {a : World} : ∀ (l : List Value) (o : Nat) (w : World), Below B a w → Below B a (w.setCells b o l)
  | [], _, _, h => h
  | v :: r, o, w, h => setCells_below hb r (o + 1) _ (h.setCell hb _)
theorem stW_heap {w : World} {b k : Nat} {l : List Value} (hk : k ≠ b) : (stW w b l).heap[k]? = w.heap[k]? := setCells_heap hk l 0 w
theorem stW_below {B b : Nat} {a w : World} {l : List Value} (h : Below B a w) (hb : B ≤ b) : Below B a (stW w b l) := setCells_below hb l 0 w h
theorem stW_far {w : World} {b k j : Nat} {l : List Value} {v : Value} (hk : k ≠ b) (h : w.cell? ⟨k, j, none⟩ = some v) : (stW w b l).cell? ⟨k, j, none⟩ = some v := (World.cell?_of_block (a := ⟨k, j, none⟩) (stW_heap hk)).trans h
theorem stW_cell {w : World} {b : Nat} {l : List Value} (ht : w.there b 0 l.length) {j : Nat} {v : Value} (hj : l[j]? = some v) : (stW w b l).cell? ⟨b, j, none⟩ = some v := by
  obtain ⟨hj1, hj2⟩ := List.getElem?_eq_some_iff.1 hj
  have := World.cell?_setCells_in b l 0 w (fun i hi => (ht i hi).1) j hj1
  rw [Nat.zero_add] at this
  unfold stW
  rw [this, hj2]
end Go.Proofs.YtnlaaejdianfjaaGreat
namespace Go.Proofs.YtnlaaejdianfjaaGreat
open Go.RowKit
set_option linter.unusedVariables false
set_option linter.unusedSimpArgs false

/-- Where the first such one stands; -1: there is none. -/
def fidx {α : Type} (p : α → Bool) (l : List α) : Int := if l.findIdx p < l.length then (l.findIdx p : Int) else -1
theorem fidx_hit {α : Type} {p : α → Bool} {l : List α} {k : Nat} (hk : k < l.length) (h : ∀ i (hi : i < l.length), i < k → p l[i] = false) (hp : p l[k] = true) : fidx p l = k := by
  have : l.findIdx p = k := (List.findIdx_eq hk).2 ⟨hp, fun j hj => by simpa using h j (by omega) hj⟩
  rw [fidx, this, if_pos hk]
theorem fidx_none {α : Type} {p : α → Bool} {l : List α} (h : ∀ i (hi : i < l.length), p l[i] = false) : fidx p l = -1 := by
  have : l.findIdx p = l.length := List.findIdx_eq_length.2 fun x hx => by
    obtain ⟨i, hi, rfl⟩ := List.mem_iff_getElem.1 hx
    simpa using h i hi
  rw [fidx, this, if_neg (Nat.lt_irrefl _)]
theorem fidx_vals {α : Type} (p : α → Bool) (l : List α) : fidx p l = -1 ∨ ∃ k : Nat, fidx p l = k ∧ k < l.length := by
  unfold fidx
  split
  · exact .inr ⟨_, rfl, by assumption⟩
  · exact .inl rfl
theorem fidx_at {α : Type} {p : α → Bool} {l : List α} {k : Nat} (h : fidx p l = k) : ∃ hk : k < l.length, p l[k] = true := by
  unfold fidx at h
  split at h
  · rename_i hlt
    obtain rfl : l.findIdx p = k := by omega
    exact ⟨hlt, List.findIdx_getElem⟩
  · omega
/-- A function value that answers p of a thing in memory. -/
def SuchZ {α : Type} (e : Ek α) (p : α → Bool) (w : World) (v : Value) : Prop := ∃ N caps, v = .func (.func N) #[] caps ∧ (∀ args w', (callFunc N args).run Tryz.prog w' = .ok (.enter N args) w') ∧ ∀ (x : α) (Q : Nat → Prop) (cs : List Value) (w' : World), Below w.heap.size w w' → e.E Q w' x cs → Calls Tryz.prog N (#[.agg cs.toArray] ++ caps) w' fun en w'' => en = .returned (.bool (p x)) ∧ Below w'.heap.size w' w''
end Go.Proofs.YtnlaaejdianfjaaGreat
