import Derived.Test.YtnlaaejdianfjabGreatQpaa
import Derived.Maps.AppendAt
import Derived.Deep.RegionLaw
import Derived.Deep.MidRow
namespace Go.Proofs.YtnlaaejdianfjabGreat
open Go.RowKit
set_option linter.unusedVariables false

end Go.Proofs.YtnlaaejdianfjabGreat
namespace Go.Proofs.YtnlaaejdianfjabGreat
open Go.RowKit
set_option linter.unusedVariables false

/-- A kind of thing in memory: how many cells, and when they are it. -/
structure Ek (α : Type) where
  k : Nat
  E : (Nat → Prop) → World → α → List Value → Prop
  keep : ∀ {Q : Nat → Prop} {w w' : World} {t : α} {cs : List Value}, (∀ b, Q b → b < w.heap.size → w'.heap[b]? = w.heap[b]?) → E Q w t cs → E Q w' t cs
  mono : ∀ {Q Q' : Nat → Prop} {w : World} {t : α} {cs : List Value}, (∀ b, Q b → b < w.heap.size → Q' b) → E Q w t cs → E Q' w t cs
abbrev Co := ByteArray × Int × ByteArray
def eCol : Ek Co := ⟨3, fun _ _ c cs => cs = [.string c.1, .int .i64 c.2.1, .string c.2.2], fun _ h => h, fun _ h => h⟩
abbrev It := Int × ByteArray × ByteArray
def eItem : Ek It := ⟨3, fun _ _ c cs => cs = [.int .i64 c.1, .string c.2.1, .string c.2.2], fun _ h => h, fun _ h => h⟩
def exC (o : Int) (p : Pay) (sl : Value) : List Value := [.int .i64 o, .int .i64 p.1, .int .i64 p.2.1, .string p.2.2.1, .string p.2.2.2.1, .string p.2.2.2.2, sl]
/-- The value is a slice that reads as the list; its rows lie in blocks that Q lets. -/
def RowIs {α : Type} (e : Ek α) (Q : Nat → Prop) (w : World) (v : Value) (l : List α) : Prop :=
  ∃ ao n c, v = .slice ao n c ∧ l.length = n ∧ n ≤ c ∧ c ≤ 9223372036854775807 ∧ (0 < n → ∃ b o, ao = some ⟨b, o, none⟩ ∧ Q b ∧ ∀ i (h : i < l.length), ∃ cs, e.E Q w l[i] cs ∧ cs.length = e.k ∧ ∀ j (hj : j < cs.length), w.cell? ⟨b, o + i * e.k + j, none⟩ = some cs[j])
theorem RowIs.nil {α : Type} (e : Ek α) (Q : Nat → Prop) (w : World) : RowIs e Q w (.slice none 0 0) [] := ⟨none, 0, 0, rfl, rfl, Nat.le_refl _, by omega, fun h => absurd h (Nat.lt_irrefl _)⟩
theorem RowIs.keep {α : Type} {e : Ek α} (he : 0 < e.k) {Q : Nat → Prop} {w w' : World} {v : Value} {l : List α} (hk : ∀ b, Q b → b < w.heap.size → w'.heap[b]? = w.heap[b]?) (h : RowIs e Q w v l) : RowIs e Q w' v l := by
  obtain ⟨ao, n, c, hv, hl, hn, hc, hx⟩ := h
  refine ⟨ao, n, c, hv, hl, hn, hc, fun hp => ?_⟩
  obtain ⟨b, o, ha, hq, hi⟩ := hx hp
  refine ⟨b, o, ha, hq, fun i h => ?_⟩
  obtain ⟨cs, h1, h2, h3⟩ := hi i h
  have hb : b < w.heap.size := World.block_lt_of_cell? _ _ (h3 0 (by omega))
  exact ⟨cs, e.keep hk h1, h2, fun j hj => (World.cell?_of_block (a := ⟨b, _, none⟩) (hk b hq hb)).trans (h3 j hj)⟩
theorem RowIs.mono {α : Type} {e : Ek α} (he : 0 < e.k) {Q Q' : Nat → Prop} {w : World} {v : Value} {l : List α} (hk : ∀ b, Q b → b < w.heap.size → Q' b) (h : RowIs e Q w v l) : RowIs e Q' w v l := by
  obtain ⟨ao, n, c, hv, hl, hn, hc, hx⟩ := h
  refine ⟨ao, n, c, hv, hl, hn, hc, fun hp => ?_⟩
  obtain ⟨b, o, ha, hq, hi⟩ := hx hp
  have hb : b < w.heap.size := by
    obtain ⟨cs, h1, h2, h3⟩ := hi 0 (by omega)
    exact World.block_lt_of_cell? _ _ (h3 0 (by omega))
  exact ⟨b, o, ha, hk b hq hb, fun i h => by
    obtain ⟨cs, h1, h2, h3⟩ := hi i h
    exact ⟨cs, e.mono hk h1, h2, h3⟩⟩

/-- A row of the call's own, thing by thing. -/
def OwnR (ty k B : Nat) (w : World) (v : Value) (css : List (List Value)) : Prop := (∀ cs ∈ css, cs.length = k) ∧ w.ownsRow B ty k v css.length css.flatten
theorem flat_at {k : Nat} : ∀ {css : List (List Value)}, (∀ cs ∈ css, cs.length = k) → ∀ {i j : Nat} (hi : i < css.length) (hj : j < k), css.flatten[i * k + j]? = (css[i])[j]? := by
  intro css
  induction css with
  | nil => intro _ i j hi; simp at hi
  | cons c l ih =>
    intro h i j hi hj
    have hc := h c (by simp)
    cases i with
    | zero => rw [List.flatten_cons, List.getElem?_append_left (by omega)]; simp
    | succ i =>
      rw [List.flatten_cons, List.getElem?_append_right (by rw [hc, Nat.succ_mul]; omega), show (i + 1) * k + j - c.length = i * k + j from by rw [hc, Nat.succ_mul]; omega]
      exact ih (fun x hx => h x (by simp [hx])) (by simpa using hi) hj
theorem OwnR.row {α : Type} {e : Ek α} {ty B : Nat} {w : World} {v : Value} {css : List (List Value)} {l : List α} {Q : Nat → Prop} (h : OwnR ty e.k B w v css) (hl : l.length = css.length) (hn : css ≠ []) (hq : ∀ b, B ≤ b → b < w.heap.size → Q b)
    (hE : ∀ i (h1 : i < l.length) (h2 : i < css.length), e.E Q w l[i] css[i]) : RowIs e Q w v l := by
  rcases h.2.2 with ⟨rfl, h0⟩ | ⟨g, cap, cur, rfl, hb, hg, hnc, hc, hs, ht⟩
  · exact absurd (List.eq_nil_of_length_eq_zero h0) hn
  · have hgl : g < w.heap.size := (Array.getElem?_eq_some_iff.1 hg).1
    refine ⟨_, css.length, cap, rfl, hl, hnc, by simpa [maxLen] using hc, fun hp => ⟨g, 0, rfl, hq g hb hgl, fun i hi => ⟨css[i]'(by omega), hE i hi (by omega), h.1 _ (List.getElem_mem _), fun j hj => ?_⟩⟩⟩
    have hk := h.1 _ (List.getElem_mem (l := css) (n := i) (by omega))
    have hlt : i * e.k + j < css.length * e.k := by
      have : (i + 1) * e.k ≤ css.length * e.k := Nat.mul_le_mul_right _ (by omega)
      rw [Nat.succ_mul] at this
      omega
    have c0 := World.ownsRow.cellAt h.2 (i * e.k + j) hlt
    rw [Nat.zero_add, c0, flat_at h.1 (by omega) (by omega)]
    exact List.getElem?_eq_getElem hj
theorem OwnR.but {ty k B g : Nat} {w w' : World} {v : Value} {css : List (List Value)} (h : OwnR ty k B w v css) (hb : But g w w') (hg : g < B) : OwnR ty k B w' v css := by
  refine ⟨h.1, h.2.1, ?_⟩
  rcases h.2.2 with k | ⟨b, cap, cur, hv, hg', hh, r⟩
  · exact .inl k
  · exact .inr ⟨b, cap, cur, hv, hg', by rw [hb.block b (Array.getElem?_eq_some_iff.1 hh).1 (by omega)]; exact hh, r⟩
theorem OwnR.alloc {ty k B : Nat} {w : World} {v : Value} {css : List (List Value)} (h : OwnR ty k B w v css) (o : Obj) : OwnR ty k B (w.alloc o) v css := ⟨h.1, World.ownsRow.alloc h.2 o⟩
theorem run_appR {t ty e : TypeId} {z : Value} {k bytes B : Nat} (ht : Tryz.prog.underlying t = some (.slice e)) (hinf : (Tryz.prog.info? e).map (fun i => (i.zero, i.size, i.bytes)) = some (some z, k, bytes)) (hzs : z.cells.size = k) (hk : 0 < k) (hby : bytes ≤ 1000)
    (w : World) (v : Value) (css : List (List Value)) (g : Nat) (cs : List Value) (hown : OwnR e k B w v css) (hcs : cs.length = k) (h1 : ∀ u ∈ cs, u.oneCell' = true) (hx : ∀ j (hj : j < cs.length), w.cell? ⟨g, j, none⟩ = some cs[j]) (hl : css.length ≤ 1000) (hB : B ≤ w.heap.size) :
    ∃ v' w', (Builtin.append_ #[t, t] ty #[v, .slice (some ⟨g, 0, none⟩) 1 1]).run Tryz.prog w = .ok v' w' ∧ OwnR e k B w' v' (css ++ [cs]) ∧ w.grownBy w' v.ownBlock ∧ (v'.ownBlock = v.ownBlock ∨ v'.ownBlock = some w.heap.size) := by
  obtain ⟨i, hi, hz, hsz, hb⟩ := info_parts hinf
  obtain ⟨v', w', hr, h2, h3, _, h5⟩ := run_append_own_at (P := Tryz.prog) w B t ty e i z k bytes ht hi hz hsz hb hzs hk v css.length _ hown.2 ⟨g, 0, none⟩ 1 1 cs (by omega)
    (by
      intro j u hj
      obtain ⟨hj1, hj2⟩ := List.getElem?_eq_some_iff.1 hj
      have := hx j hj1
      rw [hj2] at this
      have e : (⟨g, 0, none⟩ : Addr).add j = ⟨g, j, none⟩ := by unfold Addr.add; split <;> simp_all
      rw [e]
      exact this)
    h1 (by unfold maxLen; omega) (by have : (css.length + 1) * bytes ≤ 1001 * 1000 := Nat.mul_le_mul (by omega) hby; omega) hB
  refine ⟨v', w', hr, ⟨?_, ?_⟩, h3, h5⟩
  · intro c hc
    rw [List.mem_append, List.mem_singleton] at hc
    rcases hc with hc | rfl
    · exact hown.1 c hc
    · exact hcs
  · simpa using h2
theorem wpList_appR {t e : TypeId} {z : Value} {k bytes B : Nat} (ht : Tryz.prog.underlying t = some (.slice e)) (hinf : (Tryz.prog.info? e).map (fun i => (i.zero, i.size, i.bytes)) = some (some z, k, bytes)) (hzs : z.cells.size = k) (hk : 0 < k) (hby : bytes ≤ 1000)
    {w : World} {ops : Array Oper} {rest : List Oper} {o : Oper} {a : Act} {Q : Exit → Act → World → Prop} (hgd : o.guard = none) (s x : Operand)
    (ho : o.op = .call { callee := .builtin .append, args := #[s, x], argTypes := #[t, t] }) (v : Value) (css : List (List Value)) (g : Nat) (cs : List Value) (hs : a.eval s = v) (hx : a.eval x = .slice (some ⟨g, 0, none⟩) 1 1)
    (hown : OwnR e k B w v css) (hcs : cs.length = k) (h1 : ∀ u ∈ cs, u.oneCell' = true) (hcell : ∀ j (hj : j < cs.length), w.cell? ⟨g, j, none⟩ = some cs[j]) (hl : css.length ≤ 1000) (hB : B ≤ w.heap.size)
    (h : ∀ v' w', OwnR e k B w' v' (css ++ [cs]) → w.grownBy w' v.ownBlock → (v'.ownBlock = v.ownBlock ∨ v'.ownBlock = some w.heap.size) → wpList Tryz.prog ops Q rest (a.put o.dst v') w') : wpList Tryz.prog ops Q (o :: rest) a w :=
  wpList_plain hgd fun _ hK => by
    obtain ⟨v', w', hr, h2, h3, h4⟩ := run_appR ht hinf hzs hk hby w v css g cs hown hcs h1 hcell hl hB (ty := o.type)
    unfold Oper.wp execOp
    simp only [ho, resolve, invoke, builtin, Sem.run_bind, Sem.run_pure, Result.andThen_ok, List.map_toArray, List.map_cons, List.map_nil, hs, hx, hr]
    exact hK _ _ (h v' w' h2 h3 h4)

/-- A statement without what stands in it. -/
structure Sm where
  kind : Int
  table : ByteArray
  name : ByteArray
  cols : List Co
  tags : List Int
  values : List Tr
  items : List It
  join : ByteArray
  on : List Tr
  wh : List Tr
  order : List Tr
  desc : Bool
end Go.Proofs.YtnlaaejdianfjabGreat
namespace Go.Proofs.YtnlaaejdianfjabGreat
open Go.RowKit
set_option linter.unusedVariables false

theorem Ek.grow {α : Type} (e : Ek α) {w5 w6 : World} {B : Nat} {row own : Option Nat} {u : α} {ds : List Value} (hE : e.E (fun b => B ≤ b ∧ some b ≠ row) w5 u ds) (hg : w5.grownBy w6 row) (hown : own = row ∨ own = some w5.heap.size) : e.E (fun b => B ≤ b ∧ some b ≠ own) w6 u ds :=
  e.mono (fun b hq _ => ⟨hq.1, hq.2.2⟩) (e.keep (w := w5) (fun b hq hlt => hg.block b hlt hq.2.1) (e.mono (Q' := fun b => B ≤ b ∧ some b ≠ row ∧ some b ≠ own) (fun b hq hlt => ⟨hq.1, hq.2, by
    rcases hown with h | h
    · rw [h]; exact hq.2
    · rw [h]; simp; omega⟩) hE))
theorem OwnR.blk {ty k B : Nat} {w : World} {v : Value} {css : List (List Value)} (h : OwnR ty k B w v css) : ∀ b, v.ownBlock = some b → B ≤ b ∧ b < w.heap.size := fun b e => World.ownsRow.lt h.2 b e

end Go.Proofs.YtnlaaejdianfjabGreat
namespace Go.Proofs.YtnlaaejdianfjabGreat
open Go.RowKit
set_option linter.unusedVariables false

end Go.Proofs.YtnlaaejdianfjabGreat
namespace Go.Proofs.YtnlaaejdianfjabGreat
open Go.RowKit
set_option linter.unusedVariables false

end Go.Proofs.YtnlaaejdianfjabGreat
namespace Go.Proofs.YtnlaaejdianfjabGreat
open Go.RowKit
set_option linter.unusedVariables false

end Go.Proofs.YtnlaaejdianfjabGreat
namespace Go.Proofs.YtnlaaejdianfjabGreat
open Go.RowKit
set_option linter.unusedVariables false

end Go.Proofs.YtnlaaejdianfjabGreat
namespace Go.Proofs.YtnlaaejdianfjabGreat
open Go.RowKit
set_option linter.unusedVariables false

end Go.Proofs.YtnlaaejdianfjabGreat
namespace Go.Proofs.YtnlaaejdianfjabGreat
open Go.RowKit
set_option linter.unusedVariables false

end Go.Proofs.YtnlaaejdianfjabGreat
namespace Go.Proofs.YtnlaaejdianfjabGreat
open Go.RowKit
set_option linter.unusedVariables false

end Go.Proofs.YtnlaaejdianfjabGreat
namespace Go.Proofs.YtnlaaejdianfjabGreat
open Go.RowKit
set_option linter.unusedVariables false

/-- A slice's address, length, capacity. -/
abbrev Sl := Option Addr × Nat × Nat
abbrev slV (s : Sl) : Value := .slice s.1 s.2.1 s.2.2
/-- The cells of a statement. -/
structure Sv where
  k : Int
  tb : ByteArray
  nm : ByteArray
  co : Sl
  ta : Sl
  va : Sl
  it : Sl
  jn : ByteArray
  on : Sl
  wh : Sl
  od : Sl
  ds : Bool
  inn : Sl
def stV (s : Sv) : Value := .agg #[.int .i64 s.k, .string s.tb, .string s.nm, .slice s.co.1 s.co.2.1 s.co.2.2, .slice s.ta.1 s.ta.2.1 s.ta.2.2, .slice s.va.1 s.va.2.1 s.va.2.2, .slice s.it.1 s.it.2.1 s.it.2.2, .string s.jn, .slice s.on.1 s.on.2.1 s.on.2.2, .slice s.wh.1 s.wh.2.1 s.wh.2.2, .slice s.od.1 s.od.2.1 s.od.2.2, .bool s.ds, .slice s.inn.1 s.inn.2.1 s.inn.2.2]
abbrev zS (k : Int) : Sv := ⟨k, ⟨#[]⟩, ⟨#[]⟩, (none, 0, 0), (none, 0, 0), (none, 0, 0), (none, 0, 0), ⟨#[]⟩, (none, 0, 0), (none, 0, 0), (none, 0, 0), false, (none, 0, 0)⟩
structure Bs (w : World) (b : Nat) (s : Sv) : Prop where
  row : w.heap[b]? = some (.cells #[.int .i64 s.k, .string s.tb, .string s.nm, .slice s.co.1 s.co.2.1 s.co.2.2, .slice s.ta.1 s.ta.2.1 s.ta.2.2, .slice s.va.1 s.va.2.1 s.va.2.2, .slice s.it.1 s.it.2.1 s.it.2.2, .string s.jn, .slice s.on.1 s.on.2.1 s.on.2.2, .slice s.wh.1 s.wh.2.1 s.wh.2.2, .slice s.od.1 s.od.2.1 s.od.2.2, .bool s.ds, .slice s.inn.1 s.inn.2.1 s.inn.2.2] 47 (0, 0))
theorem Bs.lt {w : World} {b : Nat} {s : Sv} (h : Bs w b s) : b < w.heap.size := (Array.getElem?_eq_some_iff.1 h.row).1
theorem Bs.keep {w w' : World} {b : Nat} {s : Sv} (h : Bs w b s) (hk : w'.heap[b]? = w.heap[b]?) : Bs w' b s := ⟨hk.trans h.row⟩
theorem Bs.later {w w' : World} {b : Nat} {s : Sv} (h : Bs w b s) (hb : Below w.heap.size w w') : Bs w' b s := h.keep (hb.block b h.lt)
theorem Bs.cells {w : World} {b : Nat} {s : Sv} (h : Bs w b s) : w.cell? ⟨b, 0, none⟩ = some (.int .i64 s.k) ∧ w.cell? ⟨b, 1, none⟩ = some (.string s.tb) ∧ w.cell? ⟨b, 2, none⟩ = some (.string s.nm) ∧ w.cell? ⟨b, 3, none⟩ = some (.slice s.co.1 s.co.2.1 s.co.2.2) ∧ w.cell? ⟨b, 4, none⟩ = some (.slice s.ta.1 s.ta.2.1 s.ta.2.2) ∧ w.cell? ⟨b, 5, none⟩ = some (.slice s.va.1 s.va.2.1 s.va.2.2) ∧ w.cell? ⟨b, 6, none⟩ = some (.slice s.it.1 s.it.2.1 s.it.2.2) ∧ w.cell? ⟨b, 7, none⟩ = some (.string s.jn) ∧ w.cell? ⟨b, 8, none⟩ = some (.slice s.on.1 s.on.2.1 s.on.2.2) ∧ w.cell? ⟨b, 9, none⟩ = some (.slice s.wh.1 s.wh.2.1 s.wh.2.2) ∧ w.cell? ⟨b, 10, none⟩ = some (.slice s.od.1 s.od.2.1 s.od.2.2) ∧ w.cell? ⟨b, 11, none⟩ = some (.bool s.ds) ∧ w.cell? ⟨b, 12, none⟩ = some (.slice s.inn.1 s.inn.2.1 s.inn.2.2) := by
  unfold World.cell?; rw [h.row]; exact ⟨rfl, rfl, rfl, rfl, rfl, rfl, rfl, rfl, rfl, rfl, rfl, rfl, rfl⟩
/-- A statement, and those that stand in it. -/
abbrev Sf := Sm × List Sm
end Go.Proofs.YtnlaaejdianfjabGreat
namespace Go.Proofs.YtnlaaejdianfjabGreat
open Go.RowKit
set_option linter.unusedVariables false

theorem OwnR.sl {ty k B : Nat} {w : World} {v : Value} {css : List (List Value)} (h : OwnR ty k B w v css) : ∃ ao n c, v = .slice ao n c := by
  rcases h.2.2 with ⟨rfl, h0⟩ | ⟨gg, cap, cur, rfl, hrest⟩
  · exact ⟨_, _, _, rfl⟩
  · exact ⟨_, _, _, rfl⟩
theorem OwnR.nil (ty k B : Nat) (w : World) : OwnR ty k B w (.slice none 0 0) [] := ⟨fun cs h => by simp at h, by simp, .inl ⟨rfl, rfl⟩⟩
theorem step_appR {t ety : TypeId} {z : Value} {k bytes B : Nat} {ops : Array Oper} {o : Oper} {a : Act} {w : World} {K : Act → World → Prop} {Q : Exit → Act → World → Prop} {E : Prop}
    (hgd : o.guard = none) (s x : Operand) (ho : o.op = .call { callee := .builtin .append, args := #[s, x], argTypes := #[t, t] })
    (ht : Tryz.prog.underlying t = some (.slice ety)) (hinf : (Tryz.prog.info? ety).map (fun i => (i.zero, i.size, i.bytes)) = some (some z, k, bytes)) (hzs : z.cells.size = k) (hk : 0 < k) (hby : bytes ≤ 1000)
    (v : Value) (css : List (List Value)) (g : Nat) (cs : List Value) (hs : a.eval s = v) (hx : a.eval x = .slice (some ⟨g, 0, none⟩) 1 1)
    (hown : OwnR ety k B w v css) (hcs : cs.length = k) (h1 : ∀ u ∈ cs, u.oneCell' = true) (hcell : ∀ j (hj : j < cs.length), w.cell? ⟨g, j, none⟩ = some cs[j]) (hl : css.length ≤ 1000) (hB : B ≤ w.heap.size)
    (h : ∀ v' w', OwnR ety k B w' v' (css ++ [cs]) → w.grownBy w' v.ownBlock → (v'.ownBlock = v.ownBlock ∨ v'.ownBlock = some w.heap.size) → K (a.put o.dst v') w') :
    if Region.wanted o (yielded ops a.tmps) = true then Oper.wp Tryz.prog o a w K Q else E := by
  have hw : Region.wanted o (yielded ops a.tmps) = true := by simp [Region.wanted, hgd]
  rw [if_pos hw]
  obtain ⟨v', w', hr, h2, h3, h4⟩ := run_appR ht hinf hzs hk hby w v css g cs hown hcs h1 hcell hl hB (ty := o.type)
  unfold Oper.wp execOp
  simp only [ho, resolve, invoke, builtin, Sem.run_bind, Sem.run_pure, Result.andThen_ok, List.map_toArray, List.map_cons, List.map_nil, hs, hx, hr]
  exact h v' w' h2 h3 h4
theorem new3 (w : World) (a b c : Value) (ty : TypeId) : ∀ j (hj : j < [a, b, c].length), (w.alloc (.cells #[a, b, c] ty)).cell? ⟨w.heap.size, j, none⟩ = some [a, b, c][j] := by
  intro j hj
  have hj' : j < 3 := hj
  match j, hj' with
  | 0, _ => exact cell_new w _ _ _ 0
  | 1, _ => exact cell_new w _ _ _ 1
  | 2, _ => exact cell_new w _ _ _ 2
end Go.Proofs.YtnlaaejdianfjabGreat
namespace Go.Proofs.YtnlaaejdianfjabGreat
open Go.RowKit
set_option linter.unusedVariables false
set_option linter.unusedSimpArgs false

def eStr : Ek ByteArray := ⟨1, fun _ _ s cs => cs = [.string s], fun _ h => h, fun _ h => h⟩
structure Tbl where
  name : ByteArray
  cols : List Co
  index : List ByteArray
def eTbl : Ek Tbl := ⟨3, fun Q w t cs => ∃ a n c a' n' c', cs = [.string t.name, .slice a n c, .slice a' n' c'] ∧ RowIs eCol Q w (.slice a n c) t.cols ∧ RowIs eStr Q w (.slice a' n' c') t.index,
  fun hk ⟨a, n, c, a', n', c', h1, h2, h3⟩ => ⟨a, n, c, a', n', c', h1, h2.keep (by decide) hk, h3.keep (by decide) hk⟩, fun hk ⟨a, n, c, a', n', c', h1, h2, h3⟩ => ⟨a, n, c, a', n', c', h1, h2.mono (by decide) hk, h3.mono (by decide) hk⟩⟩
/-- Texts that are not too long. -/
def StrB (s : ByteArray) : Prop := s.size ≤ 500
def ColB (c : Co) : Prop := c.1.size ≤ 500 ∧ c.2.2.size ≤ 500
/-- A list of such ones. -/
def AllB {α : Type} (P : α → Prop) (l : List α) : Prop := l.length ≤ 500 ∧ ∀ x ∈ l, P x
def TblB (t : Tbl) : Prop := StrB t.name ∧ AllB ColB t.cols ∧ AllB StrB t.index
/-- A block as it is. -/
structure Bk (w : World) (b : Nat) (o : Obj) : Prop where
  row : w.heap[b]? = some o
theorem Bk.new (w : World) (o : Obj) : Bk (w.alloc o) w.heap.size o := ⟨heap_alloc_new w o⟩
theorem Bk.lt {w : World} {b : Nat} {o : Obj} (h : Bk w b o) : b < w.heap.size := (Array.getElem?_eq_some_iff.1 h.row).1
theorem Bk.later {w w' : World} {b : Nat} {o : Obj} (h : Bk w b o) (hb : Below w.heap.size w w') : Bk w' b o := ⟨(hb.block b h.lt).trans h.row⟩
theorem Bk.cell {w : World} {b : Nat} {arr : Array Value} {t : TypeId} {mk : Nat × Nat} (h : Bk w b (.cells arr t mk)) (j : Nat) : w.cell? ⟨b, j, none⟩ = arr[j]? := by
  unfold World.cell?; rw [h.row]; rfl
theorem Bk.free {w : World} {b : Nat} {arr : Array Value} {t : TypeId} (h : Bk w b (.cells arr t (0, 0))) (j : Nat) : w.frozen? ⟨b, j, none⟩ = false := by
  unfold World.frozen?; rw [h.row]; rfl

theorem OwnR.later {ty k B : Nat} {w w' : World} {v : Value} {css : List (List Value)} (h : OwnR ty k B w v css) (hb : Below w.heap.size w w') : OwnR ty k B w' v css := by
  refine ⟨h.1, h.2.1, ?_⟩
  rcases h.2.2 with k | ⟨b, cap, cur, hv, hg', hh, r⟩
  · exact .inl k
  · exact .inr ⟨b, cap, cur, hv, hg', by rw [hb.block b (Array.getElem?_eq_some_iff.1 hh).1]; exact hh, r⟩
theorem Below.grownR {B : Nat} {a w w' : World} {row : Option Nat} (h : Below B a w) (hB : B ≤ w.heap.size) (hg : w.grownBy w' row) (hrow : ∀ k, row = some k → B ≤ k) : Below B a w' :=
  h.trans ⟨hg.os, hg.tape, hg.output, hg.size, fun k hk => hg.block k (by omega) fun e => by have := hrow k e.symm; omega⟩

/-- A row of the call's own, read, be it empty or not. -/
theorem OwnR.rowE {α : Type} {e : Ek α} {ty B : Nat} {w : World} {v : Value} {css : List (List Value)} {l : List α} {Q : Nat → Prop} (h : OwnR ty e.k B w v css) (hl : l.length = css.length) (hq : ∀ b, B ≤ b → b < w.heap.size → Q b)
    (hE : ∀ i (h1 : i < l.length) (h2 : i < css.length), e.E Q w l[i] css[i]) : RowIs e Q w v l := by
  by_cases hn : css = []
  · subst hn
    obtain rfl : l = [] := List.eq_nil_of_length_eq_zero hl
    rcases h.2.2 with ⟨rfl, _⟩ | ⟨b, cap, cur, rfl, _, _, h1, h2, _⟩
    · exact RowIs.nil _ _ _
    · exact ⟨_, _, cap, rfl, rfl, Nat.zero_le _, Nat.le_trans h2 (by decide), fun h => absurd h (by simp)⟩
  · exact OwnR.row h hl hn hq hE

/-- Block b is stored into, cell by cell, from its first on. -/
def stW (w : World) (b : Nat) (l : List Value) : World := w.setCells b 0 l
theorem Bk.there {w : World} {b : Nat} {arr : Array Value} {t : TypeId} (h : Bk w b (.cells arr t (0, 0))) {n : Nat} (hn : n = arr.size) : w.there b 0 n := fun j hj => by
  subst hn
  rw [Nat.zero_add, h.cell j, Array.getElem?_eq_getElem hj]
  exact ⟨rfl, h.free j⟩
theorem setCells_heap {b k : Nat} (hk : k ≠ b) : ∀ (l : List Value) (o : Nat) (w : World), (w.setCells b o l).heap[k]? = w.heap[k]?
  | [], _, _ => rfl
  | v :: r, o, w => by rw [World.setCells, setCells_heap hk r, Below.heap_setCell _ _ _ _ hk]
theorem setCells_below {B b : Nat} (hb : B ≤ b) {a : World} : ∀ (l : List Value) (o : Nat) (w : World), Below B a w → Below B a (w.setCells b o l)
  | [], _, _, h => h
  | v :: r, o, w, h => setCells_below hb r (o + 1) _ (h.setCell hb _)
theorem stW_heap {w : World} {b k : Nat} {l : List Value} (hk : k ≠ b) : (stW w b l).heap[k]? = w.heap[k]? := setCells_heap hk l 0 w
theorem stW_below {B b : Nat} {a w : World} {l : List Value} (h : Below B a w) (hb : B ≤ b) : Below B a (stW w b l) := setCells_below hb l 0 w h
theorem stW_far {w : World} {b k j : Nat} {l : List Value} {v : Value} (hk : k ≠ b) (h : w.cell? ⟨k, j, none⟩ = some v) : (stW w b l).cell? ⟨k, j, none⟩ = some v := (World.cell?_of_block (a := ⟨k, j, none⟩) (stW_heap hk)).trans h
theorem stW_cell {w : World} {b : Nat} {l : List Value} (ht : w.there b 0 l.length) {j : Nat} {v : Value} (hj : l[j]? = some v) : (stW w b l).cell? ⟨b, j, none⟩ = some v := by
  obtain ⟨hj1, hj2⟩ := List.getElem?_eq_some_iff.1 hj
  have := World.cell?_setCells_in b l 0 w (fun i hi => (ht i hi).1) j hj1
  rw [Nat.zero_add] at this
  unfold stW
  rw [this, hj2]
end Go.Proofs.YtnlaaejdianfjabGreat
namespace Go.Proofs.YtnlaaejdianfjabGreat
open Go.RowKit
set_option linter.unusedVariables false
set_option linter.unusedSimpArgs false

/-- Where the first such one stands; -1: there is none. -/
def fidx {α : Type} (p : α → Bool) (l : List α) : Int := if l.findIdx p < l.length then (l.findIdx p : Int) else -1
theorem fidx_hit {α : Type} {p : α → Bool} {l : List α} {k : Nat} (hk : k < l.length) (h : ∀ i (hi : i < l.length), i < k → p l[i] = false) (hp : p l[k] = true) : fidx p l = k := by
  have : l.findIdx p = k := (List.findIdx_eq hk).2 ⟨hp, fun j hj => by simpa using h j (by omega) hj⟩
  rw [fidx, this, if_pos hk]
theorem fidx_none {α : Type} {p : α → Bool} {l : List α} (h : ∀ i (hi : i < l.length), p l[i] = false) : fidx p l = -1 := by
  have : l.findIdx p = l.length := List.findIdx_eq_length.2 fun x hx => by
    obtain ⟨i, hi, rfl⟩ := List.mem_iff_getElem.1 hx
    simpa using h i hi
  rw [fidx, this, if_neg (Nat.lt_irrefl _)]
theorem fidx_vals {α : Type} (p : α → Bool) (l : List α) : fidx p l = -1 ∨ ∃ k : Nat, fidx p l = k ∧ k < l.length := by
  unfold fidx
  split
  · exact .inr ⟨_, rfl, by assumption⟩
  · exact .inl rfl
theorem fidx_at {α : Type} {p : α → Bool} {l : List α} {k : Nat} (h : fidx p l = k) : ∃ hk : k < l.length, p l[k] = true := by
  unfold fidx at h
  split at h
  · rename_i hlt
    obtain rfl : l.findIdx p = k := by omega
    exact ⟨hlt, List.findIdx_getElem⟩
  · omega
/-- A function value that answers p of a thing in memory. -/
def SuchZ {α : Type} (e : Ek α) (p : α → Bool) (w : World) (v : Value) : Prop := ∃ N caps, v = .func (.func N) #[] caps ∧ (∀ args w', (callFunc N args).run Tryz.prog w' = .ok (.enter N args) w') ∧ ∀ (x : α) (Q : Nat → Prop) (cs : List Value) (w' : World), Below w.heap.size w w' → e.E Q w' x cs → Calls Tryz.prog N (#[.agg cs.toArray] ++ caps) w' fun en w'' => en = .returned (.bool (p x)) ∧ Below w'.heap.size w' w''
end Go.Proofs.YtnlaaejdianfjabGreat
namespace Go.Proofs.YtnlaaejdianfjabGreat
open Go.RowKit
set_option linter.unusedVariables false

/-- Picks lie in block g: their row, and how many are taken. -/
structure Pq2 (w : World) (g : Nat) (a : Option Addr) (len cap n : Nat) : Prop where
  row : w.heap[g]? = some (.cells #[.slice a len cap, .int .i64 (n : Int)] 75 (0, 0))
theorem Pq2.lt {w : World} {g : Nat} {a : Option Addr} {len cap n : Nat} (h : Pq2 w g a len cap n) : g < w.heap.size := (Array.getElem?_eq_some_iff.1 h.row).1
theorem Pq2.cells {w : World} {g : Nat} {a : Option Addr} {len cap n : Nat} (h : Pq2 w g a len cap n) : w.cell? ⟨g, 0, none⟩ = some (.slice a len cap) ∧ w.cell? ⟨g, 1, none⟩ = some (.int .i64 n) := by
  unfold World.cell?; rw [h.row]; exact ⟨rfl, rfl⟩
theorem Pq2.free {w : World} {g : Nat} {a : Option Addr} {len cap n : Nat} (h : Pq2 w g a len cap n) : w.frozen? ⟨g, 1, none⟩ = false := by
  unfold World.frozen?; rw [h.row]; rfl
theorem Pq2.set {w : World} {g : Nat} {a : Option Addr} {len cap n : Nat} (h : Pq2 w g a len cap n) (m : Nat) : Pq2 (w.setCell ⟨g, 1, none⟩ (.int .i64 (m : Int))) g a len cap m := ⟨by simp [World.setCell, Array.getElem?_modify, h.row]⟩
/-- How many are left, for a measure. -/
def left (g : Nat) (w : World) : Nat := match w.cell? ⟨g, 0, none⟩, w.cell? ⟨g, 1, none⟩ with
  | some (.slice _ len _), some (.int _ n) => len - n.toNat
  | _, _ => 0
/-- A row of texts that was just made. -/
theorem strs_new {g : Nat} {w w1 : World} (cs : Array Value) (hb : But g (w.alloc (.cells cs 9)) w1) (hg : g < w.heap.size) (k : Nat) (hk : k < cs.size) : w1.cell? ⟨w.heap.size, k, none⟩ = some cs[k] := by
  refine hb.cell ?_ (by show w.heap.size ≠ g; omega)
  unfold World.cell?
  rw [heap_alloc_new w _]
  simp [hk]
/-- A block of three cells: a value's. -/
structure Bv (w : World) (b : Nat) (k i : Int) (s : ByteArray) : Prop where
  row : w.heap[b]? = some (.cells #[.int .i64 k, .int .i64 i, .string s] 39 (0, 0))
theorem Bv.lt {w : World} {b : Nat} {k i : Int} {s : ByteArray} (h : Bv w b k i s) : b < w.heap.size := (Array.getElem?_eq_some_iff.1 h.row).1
theorem Bv.cells {w : World} {b : Nat} {k i : Int} {s : ByteArray} (h : Bv w b k i s) : w.cell? ⟨b, 0, none⟩ = some (.int .i64 k) ∧ w.cell? ⟨b, 1, none⟩ = some (.int .i64 i) ∧ w.cell? ⟨b, 2, none⟩ = some (.string s) := by
  unfold World.cell?; rw [h.row]; exact ⟨rfl, rfl, rfl⟩
theorem Bv.free {w : World} {b : Nat} {k i : Int} {s : ByteArray} (h : Bv w b k i s) : w.frozen? ⟨b, 0, none⟩ = false ∧ w.frozen? ⟨b, 1, none⟩ = false ∧ w.frozen? ⟨b, 2, none⟩ = false := by
  unfold World.frozen?; rw [h.row]; exact ⟨rfl, rfl, rfl⟩
theorem Bv.but {w w' : World} {b g : Nat} {k i : Int} {s : ByteArray} (h : Bv w b k i s) (hb : But g w w') (hg : b ≠ g) : Bv w' b k i s := ⟨(hb.block b h.lt hg).trans h.row⟩
theorem But.new3 {g : Nat} {a w : World} (h : But g a w) {b : Nat} (hb : a.heap.size ≤ b) (x y z : Value) : But g a (((w.setCell ⟨b, 0, none⟩ x).setCell ⟨b, 1, none⟩ y).setCell ⟨b, 2, none⟩ z) := ((h.new hb 0 _).new hb 1 _).new hb 2 _
/-- What Value tells. -/
def VaOK (k i : Int) (s : ByteArray) : Prop := (k = 2 ∧ i = 0 ∧ s ∈ [⟨#[97]⟩, ⟨#[98]⟩, ⟨#[]⟩, ⟨#[105, 116, 39, 115]⟩, ⟨#[122, 122]⟩]) ∨ (k = 1 ∧ s = ⟨#[]⟩ ∧ ((0 ≤ i ∧ i < 11) ∨ i = 9223372036854775807))
/-- Columns, each with its kind. -/
abbrev Cl2 := List (It × Int)
def eInt : Ek Int := ⟨1, fun _ _ z cs => cs = [.int .i64 z], fun _ h => h, fun _ h => h⟩
theorem RowIs.int1 {Q : Nat → Prop} {w : World} {a : Option Addr} {n c : Nat} {l : List Int} (h : RowIs eInt Q w (.slice a n c) l) {k : Nat} (hk : k < l.length) : ∃ b o, a = some ⟨b, o, none⟩ ∧ Q b ∧ w.cell? ⟨b, o + k, none⟩ = some (.int .i64 l[k]) := by
  obtain ⟨ao, n', c', hv, hl, hn, hc, hx⟩ := h
  cases hv
  obtain ⟨b, o, ha, hq, hi⟩ := hx (by omega)
  obtain ⟨cs, hcs, _, hc⟩ := hi k hk
  have hcs' : cs = [.int .i64 l[k]] := hcs
  subst hcs'
  have := hc 0 (show 0 < 1 by decide)
  rw [show o + k * eInt.k + 0 = o + k from by show o + k * 1 + 0 = o + k; omega] at this
  exact ⟨b, o, ha, hq, this⟩
end Go.Proofs.YtnlaaejdianfjabGreat
namespace Go.Proofs.YtnlaaejdianfjabGreat
open Go.RowKit
set_option linter.unusedVariables false
set_option linter.unusedSimpArgs false

/-- An expression without what stands in it: its way and its other fields. -/
abbrev Pg := Int × Pay
/-- Rows of expressions: the first one, what stands in it, those behind it. -/
abbrev Tg := Go.Deep.BT Pg
def toL : Tg → List (Pg × Tg)
  | .nil => []
  | .node _ _ p l r => (p, l) :: toL r
/-- The row's expressions lie from place o on in block b. -/
def FoG (Q : Nat → Prop) (w : World) : Tg → Nat → Nat → Prop
  | .nil, _, _ => True
  | .node _ _ p l r, b, o => (∃ ao n c, Ce w b o p.1 p.2 (.slice ao n c) ∧ (toL l).length = n ∧ n ≤ c ∧ c ≤ 9223372036854775807 ∧ (0 < n → ∃ b' o', ao = some ⟨b', o', none⟩ ∧ Q b' ∧ FoG Q w l b' o')) ∧ FoG Q w r b (o + 7)
theorem FoG.keep {Q : Nat → Prop} {w w' : World} (hk : ∀ k, Q k → k < w.heap.size → w'.heap[k]? = w.heap[k]?) : ∀ {f : Tg} {b o : Nat}, Q b → FoG Q w f b o → FoG Q w' f b o := by
  intro f
  induction f with
  | nil => intro b o _ _; trivial
  | node x y p l r ihl ihr =>
    rintro b o hb ⟨⟨ao, n, c, h1, h2, h3, h4, h5⟩, h6⟩
    refine ⟨⟨ao, n, c, h1.keep (hk b hb h1.lt), h2, h3, h4, fun hn => ?_⟩, ihr hb h6⟩
    obtain ⟨b', o', e, hq, hf⟩ := h5 hn
    exact ⟨b', o', e, hq, ihl hq hf⟩
theorem FoG.lt {Q : Nat → Prop} {w : World} {f : Tg} {b o : Nat} (h : FoG Q w f b o) (hn : 0 < (toL f).length) : b < w.heap.size := by
  cases f with
  | nil => simp [toL] at hn
  | node _ _ q l' r' =>
    obtain ⟨⟨_, _, _, hc, _⟩, _⟩ := h
    exact hc.lt
theorem FoG.mono {Q Q' : Nat → Prop} {w : World} (hk : ∀ k, Q k → k < w.heap.size → Q' k) : ∀ {f : Tg} {b o : Nat}, FoG Q w f b o → FoG Q' w f b o := by
  intro f
  induction f with
  | nil => intro b o _; trivial
  | node x y p l r ihl ihr =>
    rintro b o ⟨⟨ao, n, c, h1, h2, h3, h4, h5⟩, h6⟩
    refine ⟨⟨ao, n, c, h1, h2, h3, h4, fun hn => ?_⟩, ihr h6⟩
    obtain ⟨b', o', e, hq, hf⟩ := h5 hn
    exact ⟨b', o', e, hk b' hq (FoG.lt hf (by omega)), ihl hf⟩
/-- A slice of expressions that reads as the row. -/
def SlF (Q : Nat → Prop) (w : World) (ao : Option Addr) (n c : Nat) (f : Tg) : Prop := (toL f).length = n ∧ n ≤ c ∧ c ≤ 9223372036854775807 ∧ (0 < n → ∃ b o, ao = some ⟨b, o, none⟩ ∧ Q b ∧ FoG Q w f b o)
/-- An expression of any form. -/
def eG : Ek (Pg × Tg) := ⟨7, fun Q w t cs => ∃ a n c, cs = exC t.1.1 t.1.2 (.slice a n c) ∧ SlF Q w a n c t.2,
  fun hk ⟨a, n, c, h1, h2, h3, h4, h5⟩ => ⟨a, n, c, h1, h2, h3, h4, fun hn => by
    obtain ⟨b, o, e, hq, hf⟩ := h5 hn
    exact ⟨b, o, e, hq, FoG.keep hk hq hf⟩⟩,
  fun hk ⟨a, n, c, h1, h2, h3, h4, h5⟩ => ⟨a, n, c, h1, h2, h3, h4, fun hn => by
    obtain ⟨b, o, e, hq, hf⟩ := h5 hn
    exact ⟨b, o, e, hk b hq (FoG.lt hf (by omega)), FoG.mono hk hf⟩⟩⟩
theorem FoG.at {Q : Nat → Prop} {w : World} : ∀ {f : Tg} {b o : Nat}, FoG Q w f b o → ∀ i (h : i < (toL f).length), ∃ cs, eG.E Q w (toL f)[i] cs ∧ cs.length = 7 ∧ ∀ j (hj : j < cs.length), w.cell? ⟨b, o + i * 7 + j, none⟩ = some cs[j] := by
  intro f
  induction f with
  | nil => intro b o _ i h; simp [toL] at h
  | node x y p l r ihl ihr =>
    rintro b o ⟨⟨ao, n, c, h1, h2, h3, h4, h5⟩, h6⟩ i h
    cases i with
    | zero =>
      refine ⟨exC p.1 p.2 (.slice ao n c), ⟨ao, n, c, rfl, h2, h3, h4, h5⟩, rfl, fun j hj => ?_⟩
      obtain ⟨c0, c1, c2, c3, c4, c5, c6⟩ := h1
      have hj' : j < 7 := hj
      rw [show o + 0 * 7 + j = o + j from by omega]
      match j, hj' with
      | 0, _ => exact c0
      | 1, _ => exact c1
      | 2, _ => exact c2
      | 3, _ => exact c3
      | 4, _ => exact c4
      | 5, _ => exact c5
      | 6, _ => exact c6
    | succ i =>
      obtain ⟨cs, g1, g2, g3⟩ := ihr h6 i (by simpa [toL] using h)
      refine ⟨cs, by simpa [toL] using g1, g2, fun j hj => ?_⟩
      rw [show o + (i + 1) * 7 + j = o + 7 + i * 7 + j from by omega]
      exact g3 j hj
theorem SlF.row {Q : Nat → Prop} {w : World} {ao : Option Addr} {n c : Nat} {f : Tg} (h : SlF Q w ao n c f) : RowIs eG Q w (.slice ao n c) (toL f) := by
  obtain ⟨h1, h2, h3, h4⟩ := h
  refine ⟨ao, n, c, rfl, h1, h2, h3, fun hn => ?_⟩
  obtain ⟨b, o, e, hq, hf⟩ := h4 hn
  exact ⟨b, o, e, hq, fun i hi => hf.at i hi⟩
/-- The columns that an expression may name: table, name, kind. -/
abbrev Cl3 := ByteArray × ByteArray × Int
/-- The first error of a list. -/
def erL : List Int → Int
  | [] => 0
  | e :: l => if e = 0 then erL l else e
/-- The first error ahead of place n. -/
def erO (er : Nat → Int) (n : Nat) : Int := erL ((List.range n).map er)
theorem erL_app (l m : List Int) : erL (l ++ m) = if erL l = 0 then erL m else erL l := by
  induction l with
  | nil => rfl
  | cons x l ih =>
    rw [List.cons_append, erL, erL]
    split
    · exact ih
    · rfl
theorem erO_succ (er : Nat → Int) (n : Nat) : erO er (n + 1) = if erO er n = 0 then er n else erO er n := by
  rw [erO, List.range_succ, List.map_append, erL_app]
  by_cases h : erL ((List.range n).map er) = 0
  · rw [if_pos h, if_pos (show erO er n = 0 from h)]
    show (if er n = 0 then 0 else er n) = er n
    split
    · exact Eq.symm (by assumption)
    · rfl
  · rw [if_neg h, if_neg (show ¬ erO er n = 0 from h)]; rfl
theorem erO_stop {er : Nat → Int} {k n : Nat} (hk : k < n) (h0 : erO er k = 0) (he : er k ≠ 0) : erO er n = er k := by
  induction n with
  | zero => omega
  | succ n ih =>
    rw [erO_succ]
    by_cases h : k = n
    · subst h; rw [if_pos h0]
    · rw [ih (by omega), if_neg he]
theorem erO_list {l : List Int} {er : Nat → Int} (h : ∀ i (hi : i < l.length), er i = l[i]) : erO er l.length = erL l := by
  have : (List.range l.length).map er = l := by
    apply List.ext_getElem
    · simp
    · intro i h1 h2
      rw [List.getElem_map, List.getElem_range, h i h2]
  rw [erO, this]

end Go.Proofs.YtnlaaejdianfjabGreat
namespace Go.Proofs.YtnlaaejdianfjabGreat
open Go.RowKit
set_option linter.unusedVariables false

theorem below_grows {B : Nat} {a w w' : World} {row : Option Nat} (h : Below B a w) (hB : B ≤ w.heap.size) (hg : w.grownBy w' row) (hrow : ∀ k, row = some k → B ≤ k) : Below B a w' :=
  h.trans ⟨hg.os, hg.tape, hg.output, hg.size, fun i hi => hg.block i (by omega) fun e => by have := hrow i e.symm; omega⟩
/-- The cells of a column among those of a kind. -/
def itC (x : It) : List Value := [.int .i64 x.1, .string x.2.1, .string x.2.2]
end Go.Proofs.YtnlaaejdianfjabGreat
