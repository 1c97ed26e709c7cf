import Derived.Test.YtljmlacnfnmjbaaGreatRows
import Derived.WalkKit
import Derived.WalkSpells
import Derived.WalkLawsBesides
import Derived.BigQuiet
import Derived.Deep.QuietTactic
import Derived.Deep.RegionLaw
import Derived.Deep.DeepCutAuto
import Derived.Deep.CutBlock
import Derived.Laws.BitsAllLaws
import Derived.Laws.BytesArg
import Derived.Shelf.LaysM
import Derived.Shelf.Strconv.Clone
import Derived.Deep.AppendSrc
import Derived.Lib.Bytealg
import Derived.Deep.RegionHeld3
import Derived.Deep.Trees
import Derived.Maps.AppendAt
namespace Go.Proofs.YtljmlacnfnmjbaaGreat
open Go.RowKit
set_option linter.unusedVariables false

theorem ret_bool {a b : Bool} (h : a = b) : Ending.returned (.bool a) = .returned (.bool b) := by rw [h]
theorem ret_int {k : IntKind} {a b : Int} (h : a = b) : Ending.returned (.int k a) = .returned (.int k b) := by rw [h]
set_option linter.unusedVariables false

set_option linter.unusedVariables false

set_option linter.unusedVariables false

set_option linter.unusedVariables false

end Go.Proofs.YtljmlacnfnmjbaaGreat
namespace Go.Proofs
open Go.Shelf
def Tryz.laysM316_ren : Go.Shelf.Ren := ⟨fun | 316 => 138 | n => n, fun | 9 => 9 | 3 => 3 | 4 => 4 | 37 => 48 | 0 => 0 | 127 => 201 | 5 => 5 | n => n, fun | n => n⟩
theorem Tryz.laysM316 : Go.Proofs.LaysM.n316 Tryz.prog Tryz.laysM316_ren := {
  mixed := by kernel_rfl
  f316 := Tryz.func138.trans (congrArg some (by kernel_rfl))
  t0 := Tryz.underlying0
  a0 := Tryz.isAgg0
  z0 := Tryz.sizeOf0
  v0 := Tryz.zeroValue0
  t3 := Tryz.underlying3
  a3 := Tryz.isAgg3
  z3 := Tryz.sizeOf3
  v3 := Tryz.zeroValue3
  t4 := Tryz.underlying4
  a4 := Tryz.isAgg4
  z4 := Tryz.sizeOf4
  v4 := Tryz.zeroValue4
  t9 := Tryz.underlying9
  a9 := Tryz.isAgg9
  z9 := Tryz.sizeOf9
  v9 := Tryz.zeroValue9
  t37 := Tryz.underlying48
  a37 := Tryz.isAgg48
  z37 := Tryz.sizeOf48
  v37 := Tryz.zeroValue48
  t127 := Tryz.underlying201
  a127 := Tryz.isAgg201
  z127 := Tryz.sizeOf201
  v127 := Tryz.zeroValue201
  t5 := Tryz.underlying5
  a5 := Tryz.isAgg5
  z5 := Tryz.sizeOf5
  v5 := Tryz.zeroValue5
  i0 := by kernel_rfl
  i3 := by kernel_rfl
  i4 := by kernel_rfl
  i5 := by kernel_rfl
  i9 := by kernel_rfl
  i37 := by kernel_rfl
  i127 := by kernel_rfl }
open Go.RowKit in
/-- internal/stringslite.Clone: the same bytes. -/
theorem Tryz.stringslite_Clone (s : ByteArray) (w : World) (hlim : s.size ≤ 281474976710656) :
    Calls Tryz.prog 138 #[.string s] w fun e w' => e = .returned (.string s) ∧ Below w.heap.size w w' := Any.stringslite_Clone Tryz.laysM316 s w hlim
end Go.Proofs
namespace Go.Proofs.YtljmlacnfnmjbaaGreat
open Go.RowKit
set_option linter.unusedVariables false

/-- Does a whole number fit 64 bits with a sign? -/
abbrev Fits (z : Int) : Prop := -9223372036854775808 ≤ z ∧ z ≤ 9223372036854775807
end Go.Proofs.YtljmlacnfnmjbaaGreat
namespace Go.Proofs.YtljmlacnfnmjbaaGreat
open Go.RowKit
set_option linter.unusedVariables false

end Go.Proofs.YtljmlacnfnmjbaaGreat
namespace Go.Proofs.YtljmlacnfnmjbaaGreat
open Go.RowKit
set_option linter.unusedVariables false

/-- A word: Kind, Text, Int, At. -/
abbrev Tk := Int × ByteArray × Int × Int
end Go.Proofs.YtljmlacnfnmjbaaGreat
namespace Go.Proofs.YtljmlacnfnmjbaaGreat
open Go.RowKit
set_option linter.unusedVariables false

end Go.Proofs.YtljmlacnfnmjbaaGreat
namespace Go.Proofs.YtljmlacnfnmjbaaGreat
open Go.RowKit
set_option linter.unusedVariables false

end Go.Proofs.YtljmlacnfnmjbaaGreat
namespace Go.Proofs.YtljmlacnfnmjbaaGreat
open Go.RowKit
set_option linter.unusedVariables false

/-- A step on. -/
theorem Below.on {a w w' : World} (h : Below a.heap.size a w) (k : Below w.heap.size w w') : Below a.heap.size a w' := h.trans (k.mono h.size)
/-- Are two texts the same? -/
def eqS (s t : ByteArray) : Bool := decide (s = t)
theorem same_str (s t : ByteArray) : (s.toList == t.toList) = decide (s = t) := by
  rw [Bool.eq_iff_iff]
  simp only [beq_iff_eq, decide_eq_true_eq]
  constructor
  · intro h
    rw [ByteArray.toList_eq, ByteArray.toList_eq] at h
    exact ByteArray.ext (Array.toList_inj.1 h)
  · intro h; rw [h]
end Go.Proofs.YtljmlacnfnmjbaaGreat
namespace Go.Proofs.YtljmlacnfnmjbaaGreat
open Go.RowKit
set_option linter.unusedVariables false

theorem clone_any (s : ByteArray) (hs : s.size ≤ 500) (w : World) : Calls Tryz.prog 125 #[.string s] w fun e w' => e = .returned (.string s) ∧ Below w.heap.size w w' := by
  have H : Hid _ := Tryz.stringslite_Clone s w (by omega)
  go_enter Tryz.func125, Tryz.ntmps125
  go_wp2_with fail
  refine Calls.mono H.out ?_
  rintro e w1 ⟨rfl, hb⟩
  clear H
  go_wp2
  go_ret
  exact ⟨rfl, hb⟩

theorem cell_new (w : World) (arr : Array Value) (e : TypeId) (mk : Nat × Nat) (j : Nat) : (w.alloc (.cells arr e mk)).cell? ⟨w.heap.size, j, none⟩ = arr[j]? := by
  have : (w.alloc (.cells arr e mk)).heap[w.heap.size]? = some (.cells arr e mk) := heap_alloc_new w _
  unfold World.cell?
  rw [this]
  rfl
end Go.Proofs.YtljmlacnfnmjbaaGreat
namespace Go.Proofs.YtljmlacnfnmjbaaGreat
open Go.RowKit
set_option linter.unusedVariables false

end Go.Proofs.YtljmlacnfnmjbaaGreat
namespace Go.Proofs.YtljmlacnfnmjbaaGreat
open Go.RowKit
set_option linter.unusedVariables false

end Go.Proofs.YtljmlacnfnmjbaaGreat
namespace Go.Proofs.YtljmlacnfnmjbaaGreat
open Go.RowKit
set_option linter.unusedVariables false

end Go.Proofs.YtljmlacnfnmjbaaGreat
namespace Go.Proofs.YtljmlacnfnmjbaaGreat
open Go.RowKit
set_option linter.unusedVariables false

end Go.Proofs.YtljmlacnfnmjbaaGreat
namespace Go.Proofs.YtljmlacnfnmjbaaGreat
open Go.RowKit
set_option linter.unusedVariables false

end Go.Proofs.YtljmlacnfnmjbaaGreat
namespace Go.Proofs.YtljmlacnfnmjbaaGreat
open Go.RowKit
set_option linter.unusedVariables false

end Go.Proofs.YtljmlacnfnmjbaaGreat
namespace Go.Proofs.YtljmlacnfnmjbaaGreat
open Go.RowKit
set_option linter.unusedVariables false

end Go.Proofs.YtljmlacnfnmjbaaGreat
namespace Go.Proofs.YtljmlacnfnmjbaaGreat
open Go.RowKit
set_option linter.unusedVariables false

end Go.Proofs.YtljmlacnfnmjbaaGreat
namespace Go.Proofs.YtljmlacnfnmjbaaGreat
open Go.RowKit
set_option linter.unusedVariables false

/-- What a node of an expression has besides its number: Value (Kind, Int, Text), Table, Name. -/
abbrev Pay := Int × Int × ByteArray × ByteArray × ByteArray
/-- An expression: '.node 0 number payload left right'. -/
abbrev Tr := Go.Deep.BT Pay
/-- A fault's place and the fault; or what was read, and the words behind it. -/
abbrev Re (α : Type) := Sum (Int × Int) (α × List Tk)
/-- A fault's place and the fault; or the words that are yet to be read. -/
abbrev Sa := Sum (Int × Int) (List Tk)
end Go.Proofs.YtljmlacnfnmjbaaGreat
namespace Go.Proofs.YtljmlacnfnmjbaaGreat
open Go.RowKit
set_option linter.unusedVariables false

end Go.Proofs.YtljmlacnfnmjbaaGreat
namespace Go.Proofs.YtljmlacnfnmjbaaGreat
open Go.RowKit
set_option linter.unusedVariables false

theorem hid {p : Prop} (h : p) : Hid p := h
end Go.Proofs.YtljmlacnfnmjbaaGreat
namespace Go.Proofs.YtljmlacnfnmjbaaGreat
open Go.RowKit
set_option linter.unusedVariables false

end Go.Proofs.YtljmlacnfnmjbaaGreat
namespace Go.Proofs.YtljmlacnfnmjbaaGreat
open Go.RowKit
set_option linter.unusedVariables false

/-- The seven cells of an expression from place o on in block b. -/
def Ce (w : World) (b o : Nat) (op : Int) (p : Pay) (sl : Value) : Prop :=
  w.cell? ⟨b, o, none⟩ = some (.int .i64 op) ∧ w.cell? ⟨b, o + 1, none⟩ = some (.int .i64 p.1) ∧ w.cell? ⟨b, o + 2, none⟩ = some (.int .i64 p.2.1) ∧ w.cell? ⟨b, o + 3, none⟩ = some (.string p.2.2.1) ∧ w.cell? ⟨b, o + 4, none⟩ = some (.string p.2.2.2.1) ∧ w.cell? ⟨b, o + 5, none⟩ = some (.string p.2.2.2.2) ∧ w.cell? ⟨b, o + 6, none⟩ = some sl
theorem Ce.keep {w w' : World} {b o : Nat} {op : Int} {p : Pay} {sl : Value} (h : Ce w b o op p sl) (hk : w'.heap[b]? = w.heap[b]?) : Ce w' b o op p sl := by
  obtain ⟨h0, h1, h2, h3, h4, h5, h6⟩ := h
  exact ⟨(World.cell?_of_block (a := ⟨b, _, none⟩) hk).trans h0, (World.cell?_of_block (a := ⟨b, _, none⟩) hk).trans h1, (World.cell?_of_block (a := ⟨b, _, none⟩) hk).trans h2, (World.cell?_of_block (a := ⟨b, _, none⟩) hk).trans h3, (World.cell?_of_block (a := ⟨b, _, none⟩) hk).trans h4, (World.cell?_of_block (a := ⟨b, _, none⟩) hk).trans h5, (World.cell?_of_block (a := ⟨b, _, none⟩) hk).trans h6⟩
theorem Ce.lt {w : World} {b o : Nat} {op : Int} {p : Pay} {sl : Value} (h : Ce w b o op p sl) : b < w.heap.size := World.block_lt_of_cell? _ _ h.1
theorem bal {a w : World} (h : Below a.heap.size a w) (o : Obj) : Below a.heap.size a (w.alloc o) := h.alloc h.size o

abbrev zE : Obj := .cells #[.int .i64 0, .int .i64 0, .int .i64 0, .string ⟨#[]⟩, .string ⟨#[]⟩, .string ⟨#[]⟩, .slice none 0 0] 28

end Go.Proofs.YtljmlacnfnmjbaaGreat
namespace Go.Proofs.YtljmlacnfnmjbaaGreat
open Go.RowKit
set_option linter.unusedVariables false

end Go.Proofs.YtljmlacnfnmjbaaGreat
namespace Go.Proofs.YtljmlacnfnmjbaaGreat
open Go.RowKit
set_option linter.unusedVariables false

end Go.Proofs.YtljmlacnfnmjbaaGreat
namespace Go.Proofs.YtljmlacnfnmjbaaGreat
open Go.RowKit
set_option linter.unusedVariables false

end Go.Proofs.YtljmlacnfnmjbaaGreat
namespace Go.Proofs.YtljmlacnfnmjbaaGreat
open Go.RowKit
set_option linter.unusedVariables false

end Go.Proofs.YtljmlacnfnmjbaaGreat
namespace Go.Proofs.YtljmlacnfnmjbaaGreat
open Go.RowKit
set_option linter.unusedVariables false

end Go.Proofs.YtljmlacnfnmjbaaGreat
namespace Go.Proofs.YtljmlacnfnmjbaaGreat
open Go.RowKit
set_option linter.unusedVariables false

end Go.Proofs.YtljmlacnfnmjbaaGreat
namespace Go.Proofs.YtljmlacnfnmjbaaGreat
open Go.RowKit
set_option linter.unusedVariables false

/-- A kind of thing in memory: how many cells, and when they are it. -/
structure Ek (α : Type) where
  k : Nat
  E : (Nat → Prop) → World → α → List Value → Prop
  keep : ∀ {Q : Nat → Prop} {w w' : World} {t : α} {cs : List Value}, (∀ b, Q b → b < w.heap.size → w'.heap[b]? = w.heap[b]?) → E Q w t cs → E Q w' t cs
  mono : ∀ {Q Q' : Nat → Prop} {w : World} {t : α} {cs : List Value}, (∀ b, Q b → b < w.heap.size → Q' b) → E Q w t cs → E Q' w t cs
abbrev Co := ByteArray × Int × ByteArray
def eCol : Ek Co := ⟨3, fun _ _ c cs => cs = [.string c.1, .int .i64 c.2.1, .string c.2.2], fun _ h => h, fun _ h => h⟩
abbrev It := Int × ByteArray × ByteArray
def eItem : Ek It := ⟨3, fun _ _ c cs => cs = [.int .i64 c.1, .string c.2.1, .string c.2.2], fun _ h => h, fun _ h => h⟩
def exC (o : Int) (p : Pay) (sl : Value) : List Value := [.int .i64 o, .int .i64 p.1, .int .i64 p.2.1, .string p.2.2.1, .string p.2.2.2.1, .string p.2.2.2.2, sl]
/-- The value is a slice that reads as the list; its rows lie in blocks that Q lets. -/
def RowIs {α : Type} (e : Ek α) (Q : Nat → Prop) (w : World) (v : Value) (l : List α) : Prop :=
  ∃ ao n c, v = .slice ao n c ∧ l.length = n ∧ n ≤ c ∧ c ≤ 9223372036854775807 ∧ (0 < n → ∃ b o, ao = some ⟨b, o, none⟩ ∧ Q b ∧ ∀ i (h : i < l.length), ∃ cs, e.E Q w l[i] cs ∧ cs.length = e.k ∧ ∀ j (hj : j < cs.length), w.cell? ⟨b, o + i * e.k + j, none⟩ = some cs[j])
theorem RowIs.nil {α : Type} (e : Ek α) (Q : Nat → Prop) (w : World) : RowIs e Q w (.slice none 0 0) [] := ⟨none, 0, 0, rfl, rfl, Nat.le_refl _, by omega, fun h => absurd h (Nat.lt_irrefl _)⟩
theorem RowIs.keep {α : Type} {e : Ek α} (he : 0 < e.k) {Q : Nat → Prop} {w w' : World} {v : Value} {l : List α} (hk : ∀ b, Q b → b < w.heap.size → w'.heap[b]? = w.heap[b]?) (h : RowIs e Q w v l) : RowIs e Q w' v l := by
  obtain ⟨ao, n, c, hv, hl, hn, hc, hx⟩ := h
  refine ⟨ao, n, c, hv, hl, hn, hc, fun hp => ?_⟩
  obtain ⟨b, o, ha, hq, hi⟩ := hx hp
  refine ⟨b, o, ha, hq, fun i h => ?_⟩
  obtain ⟨cs, h1, h2, h3⟩ := hi i h
  have hb : b < w.heap.size := World.block_lt_of_cell? _ _ (h3 0 (by omega))
  exact ⟨cs, e.keep hk h1, h2, fun j hj => (World.cell?_of_block (a := ⟨b, _, none⟩) (hk b hq hb)).trans (h3 j hj)⟩
theorem RowIs.mono {α : Type} {e : Ek α} (he : 0 < e.k) {Q Q' : Nat → Prop} {w : World} {v : Value} {l : List α} (hk : ∀ b, Q b → b < w.heap.size → Q' b) (h : RowIs e Q w v l) : RowIs e Q' w v l := by
  obtain ⟨ao, n, c, hv, hl, hn, hc, hx⟩ := h
  refine ⟨ao, n, c, hv, hl, hn, hc, fun hp => ?_⟩
  obtain ⟨b, o, ha, hq, hi⟩ := hx hp
  have hb : b < w.heap.size := by
    obtain ⟨cs, h1, h2, h3⟩ := hi 0 (by omega)
    exact World.block_lt_of_cell? _ _ (h3 0 (by omega))
  exact ⟨b, o, ha, hk b hq hb, fun i h => by
    obtain ⟨cs, h1, h2, h3⟩ := hi i h
    exact ⟨cs, e.mono hk h1, h2, h3⟩⟩

/-- A row of the call's own, thing by thing. -/
def OwnR (ty k B : Nat) (w : World) (v : Value) (css : List (List Value)) : Prop := (∀ cs ∈ css, cs.length = k) ∧ w.ownsRow B ty k v css.length css.flatten
theorem flat_at {k : Nat} : ∀ {css : List (List Value)}, (∀ cs ∈ css, cs.length = k) → ∀ {i j : Nat} (hi : i < css.length) (hj : j < k), css.flatten[i * k + j]? = (css[i])[j]? := by
  intro css
  induction css with
  | nil => intro _ i j hi; simp at hi
  | cons c l ih =>
    intro h i j hi hj
    have hc := h c (by simp)
    cases i with
    | zero => rw [List.flatten_cons, List.getElem?_append_left (by omega)]; simp
    | succ i =>
      rw [List.flatten_cons, List.getElem?_append_right (by rw [hc, Nat.succ_mul]; omega), show (i + 1) * k + j - c.length = i * k + j from by rw [hc, Nat.succ_mul]; omega]
      exact ih (fun x hx => h x (by simp [hx])) (by simpa using hi) hj
theorem OwnR.row {α : Type} {e : Ek α} {ty B : Nat} {w : World} {v : Value} {css : List (List Value)} {l : List α} {Q : Nat → Prop} (h : OwnR ty e.k B w v css) (hl : l.length = css.length) (hn : css ≠ []) (hq : ∀ b, B ≤ b → b < w.heap.size → Q b)
    (hE : ∀ i (h1 : i < l.length) (h2 : i < css.length), e.E Q w l[i] css[i]) : RowIs e Q w v l := by
  rcases h.2.2 with ⟨rfl, h0⟩ | ⟨g, cap, cur, rfl, hb, hg, hnc, hc, hs, ht⟩
  · exact absurd (List.eq_nil_of_length_eq_zero h0) hn
  · have hgl : g < w.heap.size := (Array.getElem?_eq_some_iff.1 hg).1
    refine ⟨_, css.length, cap, rfl, hl, hnc, by simpa [maxLen] using hc, fun hp => ⟨g, 0, rfl, hq g hb hgl, fun i hi => ⟨css[i]'(by omega), hE i hi (by omega), h.1 _ (List.getElem_mem _), fun j hj => ?_⟩⟩⟩
    have hk := h.1 _ (List.getElem_mem (l := css) (n := i) (by omega))
    have hlt : i * e.k + j < css.length * e.k := by
      have : (i + 1) * e.k ≤ css.length * e.k := Nat.mul_le_mul_right _ (by omega)
      rw [Nat.succ_mul] at this
      omega
    have c0 := World.ownsRow.cellAt h.2 (i * e.k + j) hlt
    rw [Nat.zero_add, c0, flat_at h.1 (by omega) (by omega)]
    exact List.getElem?_eq_getElem hj
theorem OwnR.alloc {ty k B : Nat} {w : World} {v : Value} {css : List (List Value)} (h : OwnR ty k B w v css) (o : Obj) : OwnR ty k B (w.alloc o) v css := ⟨h.1, World.ownsRow.alloc h.2 o⟩
theorem OwnR.lit (ty k B : Nat) (w : World) (cs : List Value) (hk : cs.length = k) (hB : B ≤ w.heap.size) : OwnR ty k B (w.alloc (.cells cs.toArray ty)) (.slice (some ⟨w.heap.size, 0, none⟩) 1 1) [cs] := by
  subst hk
  refine ⟨fun c hc => by simp at hc; rw [hc], by simp, .inr ⟨w.heap.size, 1, cs.toArray, rfl, hB, heap_alloc_new w _, Nat.le_refl _, by simp [maxLen], by simp, by simp⟩⟩
theorem run_appR {t ty e : TypeId} {z : Value} {k bytes B : Nat} (ht : Tryz.prog.underlying t = some (.slice e)) (hinf : (Tryz.prog.info? e).map (fun i => (i.zero, i.size, i.bytes)) = some (some z, k, bytes)) (hzs : z.cells.size = k) (hk : 0 < k) (hby : bytes ≤ 1000)
    (w : World) (v : Value) (css : List (List Value)) (g : Nat) (cs : List Value) (hown : OwnR e k B w v css) (hcs : cs.length = k) (h1 : ∀ u ∈ cs, u.oneCell' = true) (hx : ∀ j (hj : j < cs.length), w.cell? ⟨g, j, none⟩ = some cs[j]) (hl : css.length ≤ 1000) (hB : B ≤ w.heap.size) :
    ∃ v' w', (Builtin.append_ #[t, t] ty #[v, .slice (some ⟨g, 0, none⟩) 1 1]).run Tryz.prog w = .ok v' w' ∧ OwnR e k B w' v' (css ++ [cs]) ∧ w.grownBy w' v.ownBlock ∧ (v'.ownBlock = v.ownBlock ∨ v'.ownBlock = some w.heap.size) := by
  obtain ⟨i, hi, hz, hsz, hb⟩ := info_parts hinf
  obtain ⟨v', w', hr, h2, h3, _, h5⟩ := run_append_own_at (P := Tryz.prog) w B t ty e i z k bytes ht hi hz hsz hb hzs hk v css.length _ hown.2 ⟨g, 0, none⟩ 1 1 cs (by omega)
    (by
      intro j u hj
      obtain ⟨hj1, hj2⟩ := List.getElem?_eq_some_iff.1 hj
      have := hx j hj1
      rw [hj2] at this
      have e : (⟨g, 0, none⟩ : Addr).add j = ⟨g, j, none⟩ := by unfold Addr.add; split <;> simp_all
      rw [e]
      exact this)
    h1 (by unfold maxLen; omega) (by have : (css.length + 1) * bytes ≤ 1001 * 1000 := Nat.mul_le_mul (by omega) hby; omega) hB
  refine ⟨v', w', hr, ⟨?_, ?_⟩, h3, h5⟩
  · intro c hc
    rw [List.mem_append, List.mem_singleton] at hc
    rcases hc with hc | rfl
    · exact hown.1 c hc
    · exact hcs
  · simpa using h2
theorem wpList_appR {t e : TypeId} {z : Value} {k bytes B : Nat} (ht : Tryz.prog.underlying t = some (.slice e)) (hinf : (Tryz.prog.info? e).map (fun i => (i.zero, i.size, i.bytes)) = some (some z, k, bytes)) (hzs : z.cells.size = k) (hk : 0 < k) (hby : bytes ≤ 1000)
    {w : World} {ops : Array Oper} {rest : List Oper} {o : Oper} {a : Act} {Q : Exit → Act → World → Prop} (hgd : o.guard = none) (s x : Operand)
    (ho : o.op = .call { callee := .builtin .append, args := #[s, x], argTypes := #[t, t] }) (v : Value) (css : List (List Value)) (g : Nat) (cs : List Value) (hs : a.eval s = v) (hx : a.eval x = .slice (some ⟨g, 0, none⟩) 1 1)
    (hown : OwnR e k B w v css) (hcs : cs.length = k) (h1 : ∀ u ∈ cs, u.oneCell' = true) (hcell : ∀ j (hj : j < cs.length), w.cell? ⟨g, j, none⟩ = some cs[j]) (hl : css.length ≤ 1000) (hB : B ≤ w.heap.size)
    (h : ∀ v' w', OwnR e k B w' v' (css ++ [cs]) → w.grownBy w' v.ownBlock → (v'.ownBlock = v.ownBlock ∨ v'.ownBlock = some w.heap.size) → wpList Tryz.prog ops Q rest (a.put o.dst v') w') : wpList Tryz.prog ops Q (o :: rest) a w :=
  wpList_plain hgd fun _ hK => by
    obtain ⟨v', w', hr, h2, h3, h4⟩ := run_appR ht hinf hzs hk hby w v css g cs hown hcs h1 hcell hl hB (ty := o.type)
    unfold Oper.wp execOp
    simp only [ho, resolve, invoke, builtin, Sem.run_bind, Sem.run_pure, Result.andThen_ok, List.map_toArray, List.map_cons, List.map_nil, hs, hx, hr]
    exact hK _ _ (h v' w' h2 h3 h4)

/-- A statement without what stands in it. -/
structure Sm where
  kind : Int
  table : ByteArray
  name : ByteArray
  cols : List Co
  tags : List Int
  values : List Tr
  items : List It
  join : ByteArray
  on : List Tr
  wh : List Tr
  order : List Tr
  desc : Bool
end Go.Proofs.YtljmlacnfnmjbaaGreat
namespace Go.Proofs.YtljmlacnfnmjbaaGreat
open Go.RowKit
set_option linter.unusedVariables false

theorem Ek.grow {α : Type} (e : Ek α) {w5 w6 : World} {B : Nat} {row own : Option Nat} {u : α} {ds : List Value} (hE : e.E (fun b => B ≤ b ∧ some b ≠ row) w5 u ds) (hg : w5.grownBy w6 row) (hown : own = row ∨ own = some w5.heap.size) : e.E (fun b => B ≤ b ∧ some b ≠ own) w6 u ds :=
  e.mono (fun b hq _ => ⟨hq.1, hq.2.2⟩) (e.keep (w := w5) (fun b hq hlt => hg.block b hlt hq.2.1) (e.mono (Q' := fun b => B ≤ b ∧ some b ≠ row ∧ some b ≠ own) (fun b hq hlt => ⟨hq.1, hq.2, by
    rcases hown with h | h
    · rw [h]; exact hq.2
    · rw [h]; simp; omega⟩) hE))
theorem OwnR.blk {ty k B : Nat} {w : World} {v : Value} {css : List (List Value)} (h : OwnR ty k B w v css) : ∀ b, v.ownBlock = some b → B ≤ b ∧ b < w.heap.size := fun b e => World.ownsRow.lt h.2 b e

theorem Tryz.infoTExpr : (Tryz.prog.info? 28).map (fun i => (i.zero, i.size, i.bytes)) = some (some (.agg #[.int .i64 0, .int .i64 0, .int .i64 0, .string ⟨#[]⟩, .string ⟨#[]⟩, .string ⟨#[]⟩, .slice none 0 0]), 7, 96) := by kernel_rfl
end Go.Proofs.YtljmlacnfnmjbaaGreat
namespace Go.Proofs.YtljmlacnfnmjbaaGreat
open Go.RowKit
set_option linter.unusedVariables false

end Go.Proofs.YtljmlacnfnmjbaaGreat
namespace Go.Proofs.YtljmlacnfnmjbaaGreat
open Go.RowKit
set_option linter.unusedVariables false

end Go.Proofs.YtljmlacnfnmjbaaGreat
namespace Go.Proofs.YtljmlacnfnmjbaaGreat
open Go.RowKit
set_option linter.unusedVariables false

theorem Tryz.infoTItem : (Tryz.prog.info? 66).map (fun i => (i.zero, i.size, i.bytes)) = some (some (.agg #[.int .i64 0, .string ⟨#[]⟩, .string ⟨#[]⟩]), 3, 40) := by kernel_rfl
end Go.Proofs.YtljmlacnfnmjbaaGreat
namespace Go.Proofs.YtljmlacnfnmjbaaGreat
open Go.RowKit
set_option linter.unusedVariables false

end Go.Proofs.YtljmlacnfnmjbaaGreat
namespace Go.Proofs.YtljmlacnfnmjbaaGreat
open Go.RowKit
set_option linter.unusedVariables false

end Go.Proofs.YtljmlacnfnmjbaaGreat
namespace Go.Proofs.YtljmlacnfnmjbaaGreat
open Go.RowKit
set_option linter.unusedVariables false

end Go.Proofs.YtljmlacnfnmjbaaGreat
namespace Go.Proofs.YtljmlacnfnmjbaaGreat
open Go.RowKit
set_option linter.unusedVariables false

end Go.Proofs.YtljmlacnfnmjbaaGreat
namespace Go.Proofs.YtljmlacnfnmjbaaGreat
open Go.RowKit
set_option linter.unusedVariables false

/-- A slice's address, length, capacity. -/
abbrev Sl := Option Addr × Nat × Nat
abbrev slV (s : Sl) : Value := .slice s.1 s.2.1 s.2.2
/-- The cells of a statement. -/
structure Sv where
  k : Int
  tb : ByteArray
  nm : ByteArray
  co : Sl
  ta : Sl
  va : Sl
  it : Sl
  jn : ByteArray
  on : Sl
  wh : Sl
  od : Sl
  ds : Bool
  inn : Sl
abbrev zS (k : Int) : Sv := ⟨k, ⟨#[]⟩, ⟨#[]⟩, (none, 0, 0), (none, 0, 0), (none, 0, 0), (none, 0, 0), ⟨#[]⟩, (none, 0, 0), (none, 0, 0), (none, 0, 0), false, (none, 0, 0)⟩
/-- A statement, and those that stand in it. -/
abbrev Sf := Sm × List Sm
end Go.Proofs.YtljmlacnfnmjbaaGreat
namespace Go.Proofs.YtljmlacnfnmjbaaGreat
open Go.RowKit
set_option linter.unusedVariables false

/-- How many are left, for a measure. -/
def left (g : Nat) (w : World) : Nat := match w.cell? ⟨g, 0, none⟩, w.cell? ⟨g, 1, none⟩ with
  | some (.slice _ len _), some (.int _ n) => len - n.toNat
  | _, _ => 0
/-- Columns, each with its kind. -/
abbrev Cl2 := List (It × Int)
def eInt : Ek Int := ⟨1, fun _ _ z cs => cs = [.int .i64 z], fun _ h => h, fun _ h => h⟩
end Go.Proofs.YtljmlacnfnmjbaaGreat
namespace Go.Proofs.YtljmlacnfnmjbaaGreat
open Go.RowKit
set_option linter.unusedVariables false

theorem below_grows {B : Nat} {a w w' : World} {row : Option Nat} (h : Below B a w) (hB : B ≤ w.heap.size) (hg : w.grownBy w' row) (hrow : ∀ k, row = some k → B ≤ k) : Below B a w' :=
  h.trans ⟨hg.os, hg.tape, hg.output, hg.size, fun i hi => hg.block i (by omega) fun e => by have := hrow i e.symm; omega⟩
end Go.Proofs.YtljmlacnfnmjbaaGreat
namespace Go.Proofs.YtljmlacnfnmjbaaGreat
open Go.RowKit
set_option linter.unusedVariables false

abbrev zE2 : Obj := .cells #[.int .i64 0, .int .i64 0, .int .i64 0, .string ⟨#[]⟩, .string ⟨#[]⟩, .string ⟨#[]⟩, .slice none 0 0] 28

end Go.Proofs.YtljmlacnfnmjbaaGreat
namespace Go.Proofs.YtljmlacnfnmjbaaGreat
open Go.RowKit
set_option linter.unusedVariables false

theorem OwnR.sl {ty k B : Nat} {w : World} {v : Value} {css : List (List Value)} (h : OwnR ty k B w v css) : ∃ ao n c, v = .slice ao n c := by
  rcases h.2.2 with ⟨rfl, h0⟩ | ⟨gg, cap, cur, rfl, hrest⟩
  · exact ⟨_, _, _, rfl⟩
  · exact ⟨_, _, _, rfl⟩
theorem OwnR.nil (ty k B : Nat) (w : World) : OwnR ty k B w (.slice none 0 0) [] := ⟨fun cs h => by simp at h, by simp, .inl ⟨rfl, rfl⟩⟩
/-- A law for just this append. -/
theorem step_guard {P : Program} {Y : Nat → Option Bool} {o : Oper} {a : Act} {w : World} {K : Act → World → Prop} {Q : Exit → Act → World → Prop} {E : Prop} (s x : Operand) (t : TypeId)
    (h : o.op = Op.call { callee := Callee.builtin Builtin.append, args := #[s, x], argTypes := #[t, t] }) (g : if Region.wanted o Y = true then Oper.wp P o a w K Q else E) : if Region.wanted o Y = true then Oper.wp P o a w K Q else E := g
theorem step_appR {t ety : TypeId} {z : Value} {k bytes B : Nat} {ops : Array Oper} {o : Oper} {a : Act} {w : World} {K : Act → World → Prop} {Q : Exit → Act → World → Prop} {E : Prop}
    (hgd : o.guard = none) (s x : Operand) (ho : o.op = .call { callee := .builtin .append, args := #[s, x], argTypes := #[t, t] })
    (ht : Tryz.prog.underlying t = some (.slice ety)) (hinf : (Tryz.prog.info? ety).map (fun i => (i.zero, i.size, i.bytes)) = some (some z, k, bytes)) (hzs : z.cells.size = k) (hk : 0 < k) (hby : bytes ≤ 1000)
    (v : Value) (css : List (List Value)) (g : Nat) (cs : List Value) (hs : a.eval s = v) (hx : a.eval x = .slice (some ⟨g, 0, none⟩) 1 1)
    (hown : OwnR ety k B w v css) (hcs : cs.length = k) (h1 : ∀ u ∈ cs, u.oneCell' = true) (hcell : ∀ j (hj : j < cs.length), w.cell? ⟨g, j, none⟩ = some cs[j]) (hl : css.length ≤ 1000) (hB : B ≤ w.heap.size)
    (h : ∀ v' w', OwnR ety k B w' v' (css ++ [cs]) → w.grownBy w' v.ownBlock → (v'.ownBlock = v.ownBlock ∨ v'.ownBlock = some w.heap.size) → K (a.put o.dst v') w') :
    if Region.wanted o (yielded ops a.tmps) = true then Oper.wp Tryz.prog o a w K Q else E := by
  have hw : Region.wanted o (yielded ops a.tmps) = true := by simp [Region.wanted, hgd]
  rw [if_pos hw]
  obtain ⟨v', w', hr, h2, h3, h4⟩ := run_appR ht hinf hzs hk hby w v css g cs hown hcs h1 hcell hl hB (ty := o.type)
  unfold Oper.wp execOp
  simp only [ho, resolve, invoke, builtin, Sem.run_bind, Sem.run_pure, Result.andThen_ok, List.map_toArray, List.map_cons, List.map_nil, hs, hx, hr]
  exact h v' w' h2 h3 h4
theorem new3 (w : World) (a b c : Value) (ty : TypeId) : ∀ j (hj : j < [a, b, c].length), (w.alloc (.cells #[a, b, c] ty)).cell? ⟨w.heap.size, j, none⟩ = some [a, b, c][j] := by
  intro j hj
  have hj' : j < 3 := hj
  match j, hj' with
  | 0, _ => exact cell_new w _ _ _ 0
  | 1, _ => exact cell_new w _ _ _ 1
  | 2, _ => exact cell_new w _ _ _ 2
theorem new7 (w : World) (a b c d e f h : Value) (ty : TypeId) : ∀ j (hj : j < [a, b, c, d, e, f, h].length), (w.alloc (.cells #[a, b, c, d, e, f, h] ty)).cell? ⟨w.heap.size, j, none⟩ = some [a, b, c, d, e, f, h][j] := by
  intro j hj
  have hj' : j < 7 := hj
  match j, hj' with
  | 0, _ => exact cell_new w _ _ _ 0
  | 1, _ => exact cell_new w _ _ _ 1
  | 2, _ => exact cell_new w _ _ _ 2
  | 3, _ => exact cell_new w _ _ _ 3
  | 4, _ => exact cell_new w _ _ _ 4
  | 5, _ => exact cell_new w _ _ _ 5
  | 6, _ => exact cell_new w _ _ _ 6
end Go.Proofs.YtljmlacnfnmjbaaGreat
namespace Go.Proofs.YtljmlacnfnmjbaaGreat
open Go.RowKit
set_option linter.unusedVariables false

end Go.Proofs.YtljmlacnfnmjbaaGreat
namespace Go.Proofs.YtljmlacnfnmjbaaGreat
open Go.RowKit
set_option linter.unusedVariables false

/-- A table: its name, its columns. -/
abbrev Tab := ByteArray × List Co
/-- A row of three columns that was just made. -/
theorem cols_new (w : World) (a1 b1 a2 b2 a3 b3 : ByteArray) (k1 k2 k3 : Int) {Q : Nat → Prop} {w' : World} (hb : Below (w.heap.size + 1) (w.alloc (.cells #[.string a1, .int .i64 k1, .string b1, .string a2, .int .i64 k2, .string b2, .string a3, .int .i64 k3, .string b3] 84)) w') (hq : Q w.heap.size) :
    RowIs eCol Q w' (.slice (some ⟨w.heap.size, 0, none⟩) 3 3) [(a1, k1, b1), (a2, k2, b2), (a3, k3, b3)] := by
  have hc : ∀ j, j < 9 → w'.cell? ⟨w.heap.size, j, none⟩ = (#[.string a1, .int .i64 k1, .string b1, .string a2, .int .i64 k2, .string b2, .string a3, .int .i64 k3, .string b3] : Array Value)[j]? := fun j hj =>
    (World.cell?_of_block (a := ⟨w.heap.size, j, none⟩) (hb.block _ (by simp))).trans (cell_new w _ _ _ j)
  refine ⟨_, 3, 3, rfl, rfl, Nat.le_refl _, by omega, fun _ => ⟨w.heap.size, 0, rfl, hq, fun i hi => ?_⟩⟩
  have hi' : i < 3 := hi
  match i, hi' with
  | 0, _ => exact ⟨[.string a1, .int .i64 k1, .string b1], rfl, rfl, fun j hj => by
      have hj' : j < 3 := hj
      match j, hj' with
      | 0, _ => exact hc 0 (by decide)
      | 1, _ => exact hc 1 (by decide)
      | 2, _ => exact hc 2 (by decide)⟩
  | 1, _ => exact ⟨[.string a2, .int .i64 k2, .string b2], rfl, rfl, fun j hj => by
      have hj' : j < 3 := hj
      match j, hj' with
      | 0, _ => exact hc 3 (by decide)
      | 1, _ => exact hc 4 (by decide)
      | 2, _ => exact hc 5 (by decide)⟩
  | 2, _ => exact ⟨[.string a3, .int .i64 k3, .string b3], rfl, rfl, fun j hj => by
      have hj' : j < 3 := hj
      match j, hj' with
      | 0, _ => exact hc 6 (by decide)
      | 1, _ => exact hc 7 (by decide)
      | 2, _ => exact hc 8 (by decide)⟩

end Go.Proofs.YtljmlacnfnmjbaaGreat
namespace Go.Proofs.YtljmlacnfnmjbaaGreat
open Go.RowKit
set_option linter.unusedVariables false

theorem OwnR.later {ty k B : Nat} {w w' : World} {v : Value} {css : List (List Value)} (h : OwnR ty k B w v css) (hb : Below w.heap.size w w') : OwnR ty k B w' v css := by
  refine ⟨h.1, h.2.1, ?_⟩
  rcases h.2.2 with k | ⟨b, cap, cur, hv, hg', hh, r⟩
  · exact .inl k
  · exact .inr ⟨b, cap, cur, hv, hg', by rw [hb.block b (Array.getElem?_eq_some_iff.1 hh).1]; exact hh, r⟩
theorem OwnR.base {ty k B B' : Nat} {w : World} {v : Value} {css : List (List Value)} (h : OwnR ty k B w v css) (hb : B' ≤ B) : OwnR ty k B' w v css := by
  refine ⟨h.1, h.2.1, ?_⟩
  rcases h.2.2 with k | ⟨b, cap, cur, hv, hg', r⟩
  · exact .inl k
  · exact .inr ⟨b, cap, cur, hv, by omega, r⟩
end Go.Proofs.YtljmlacnfnmjbaaGreat
namespace Go.Proofs.YtljmlacnfnmjbaaGreat
open Go.RowKit
set_option linter.unusedVariables false

/-- A row of the call's own, read. -/
theorem OwnR.cell {ty k B : Nat} {w : World} {b cap n : Nat} {css : List (List Value)} (h : OwnR ty k B w (.slice (some ⟨b, 0, none⟩) n cap) css) {j : Nat} {u : Value} (hj : css.flatten[j]? = some u) : w.cell? ⟨b, j, none⟩ = some u := by
  rcases h.2.2 with ⟨e, _⟩ | ⟨b', cap', cur, e, _⟩
  · cases e
  · cases e
    have hlt : j < css.length * k := by
      have := (List.getElem?_eq_some_iff.1 hj).1
      rwa [h.2.1] at this
    rw [World.ownsRow.cellAt h.2 j hlt, hj]
theorem run_appN {t ty e : TypeId} {z : Value} {k bytes B : Nat} (ht : Tryz.prog.underlying t = some (.slice e)) (hinf : (Tryz.prog.info? e).map (fun i => (i.zero, i.size, i.bytes)) = some (some z, k, bytes)) (hzs : z.cells.size = k) (hk : 0 < k) (hby : bytes ≤ 1000)
    (w : World) (v u : Value) (css css2 : List (List Value)) (hown : OwnR e k B w v css) (hown2 : OwnR e k B w u css2) (hne : css2 ≠ []) (h1 : ∀ u ∈ css2.flatten, u.oneCell' = true) (hl : css.length + css2.length ≤ 1000) (hB : B ≤ w.heap.size) :
    ∃ v' w', (Builtin.append_ #[t, t] ty #[v, u]).run Tryz.prog w = .ok v' w' ∧ OwnR e k B w' v' (css ++ css2) ∧ w.grownBy w' v.ownBlock ∧ (v'.ownBlock = v.ownBlock ∨ v'.ownBlock = some w.heap.size) := by
  obtain ⟨i, hi, hz, hsz, hb⟩ := info_parts hinf
  rcases id hown2.2.2 with ⟨rfl, h0⟩ | ⟨b, cap, cur, rfl, hrest⟩
  · exact absurd (List.eq_nil_of_length_eq_zero h0) hne
  obtain ⟨v', w', hr, h2, h3, _, h5⟩ := run_append_own_at (P := Tryz.prog) w B t ty e i z k bytes ht hi hz hsz hb hzs hk v css.length _ hown.2 ⟨b, 0, none⟩ css2.length cap css2.flatten hown2.2.1
    (by
      intro j u hj
      have e : (⟨b, 0, none⟩ : Addr).add j = ⟨b, j, none⟩ := by unfold Addr.add; split <;> simp_all
      rw [e]
      exact hown2.cell hj)
    h1 (by unfold maxLen; omega) (by have : (css.length + css2.length) * bytes ≤ 1000 * 1000 := Nat.mul_le_mul hl hby; omega) hB
  refine ⟨v', w', hr, ⟨?_, ?_⟩, h3, h5⟩
  · intro c hc
    rw [List.mem_append] at hc
    rcases hc with hc | hc
    · exact hown.1 c hc
    · exact hown2.1 c hc
  · rw [List.length_append, List.flatten_append]; exact h2
theorem wpList_appN {t e : TypeId} {z : Value} {k bytes B : Nat} (ht : Tryz.prog.underlying t = some (.slice e)) (hinf : (Tryz.prog.info? e).map (fun i => (i.zero, i.size, i.bytes)) = some (some z, k, bytes)) (hzs : z.cells.size = k) (hk : 0 < k) (hby : bytes ≤ 1000)
    {w : World} {ops : Array Oper} {rest : List Oper} {o : Oper} {a : Act} {Q : Exit → Act → World → Prop} (hgd : o.guard = none) (s x : Operand)
    (ho : o.op = .call { callee := .builtin .append, args := #[s, x], argTypes := #[t, t] }) (v u : Value) (css css2 : List (List Value)) (hs : a.eval s = v) (hx : a.eval x = u)
    (hown : OwnR e k B w v css) (hown2 : OwnR e k B w u css2) (hne : css2 ≠ []) (h1 : ∀ u ∈ css2.flatten, u.oneCell' = true) (hl : css.length + css2.length ≤ 1000) (hB : B ≤ w.heap.size)
    (h : ∀ v' w', OwnR e k B w' v' (css ++ css2) → w.grownBy w' v.ownBlock → (v'.ownBlock = v.ownBlock ∨ v'.ownBlock = some w.heap.size) → wpList Tryz.prog ops Q rest (a.put o.dst v') w') : wpList Tryz.prog ops Q (o :: rest) a w :=
  wpList_plain hgd fun _ hK => by
    obtain ⟨v', w', hr, h2, h3, h4⟩ := run_appN ht hinf hzs hk hby w v u css css2 hown hown2 hne h1 hl hB (ty := o.type)
    unfold Oper.wp execOp
    simp only [ho, resolve, invoke, builtin, Sem.run_bind, Sem.run_pure, Result.andThen_ok, List.map_toArray, List.map_cons, List.map_nil, hs, hx, hr]
    exact hK _ _ (h v' w' h2 h3 h4)
end Go.Proofs.YtljmlacnfnmjbaaGreat
