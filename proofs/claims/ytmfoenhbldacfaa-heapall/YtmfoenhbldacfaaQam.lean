import Derived.Test.YtmfoenhbldacfaaQal
import Derived.Lib.Overlaps
import Derived.Lib.AppendZerosOnto
/- Lists of gaps: one out, one in. -/
namespace Go.Proofs.Ytmfoenhbldacfaa
open Go.RowKit
set_option linter.unusedVariables false
set_option linter.unusedSimpArgs false

/-! ### Cuts -/
theorem sb_ok {k y : Nat} (h : k ≤ y) (code : BoundsCode) (w : World) : (Instr.sliceBound (.int .i64 (k : Int)) y code).run Try.prog w = .ok k w := by
  have h1 : (0 : Int) ≤ (k : Int) ∧ (k : Int) ≤ (y : Int) := by omega
  unfold Instr.sliceBound
  simp only [asIntOf, Sem.run_bind, Sem.run_pure, Result.andThen_ok, if_pos h1, Int.toNat_natCast]
theorem add_at (g j : Nat) : (⟨g, 0, none⟩ : Addr).add j = ⟨g, j, none⟩ := by rw [Addr.add_mid, Nat.zero_add]
theorem sizeG (w' : World) : (sizeOf 66).run Try.prog w' = .ok 2 w' := by kernel_rfl
theorem sl_upto {g n c k : Nat} {x : Int} (hx : x = (k : Int)) (hk : k ≤ c) (w' : World) : (Instr.slice 44 (.slice (some ⟨g, 0, none⟩) n c) none (some (.int .i64 x)) none).run Try.prog w' = .ok (.slice (some ⟨g, 0, none⟩) k c) w' := by
  subst hx
  have e0 : (if c = 0 then some (⟨g, 0, none⟩ : Addr) else Option.map (fun a : Addr => a.add (0 * 2)) (some (⟨g, 0, none⟩ : Addr))) = some ⟨g, 0, none⟩ := by split <;> rfl
  simp only [Instr.slice, Instr.sliceBounds, sb_ok hk, run_underlying Try.underlying44, sizeG, Sem.run_bind, Sem.run_pure, Result.andThen_ok, Option.isSome_none, Bool.false_eq_true, if_false, if_true, Nat.sub_zero, e0]
theorem sl_from {g n c k : Nat} {x : Int} (hx : x = (k : Int)) (hk : k ≤ n) (hn : n ≤ c) (hkc : k < c) (w' : World) : (Instr.slice 44 (.slice (some ⟨g, 0, none⟩) n c) (some (.int .i64 x)) none none).run Try.prog w' = .ok (.slice (some ⟨g, k * 2, none⟩) (n - k) (c - k)) w' := by
  subst hx
  have h2 : ¬ c = k := by omega
  simp only [Instr.slice, Instr.sliceBounds, sb_ok hk, run_underlying Try.underlying44, sizeG, Sem.run_bind, Sem.run_pure, Result.andThen_ok, Option.isSome_none, Bool.false_eq_true, if_false, if_true, if_neg h2, Option.map_some, add_at]
theorem sl_two {g n c k m : Nat} {x y : Int} (hx : x = (k : Int)) (hy : y = (m : Int)) (hk : k ≤ m) (hn : m ≤ c) (hkc : k < c) (w' : World) : (Instr.slice 44 (.slice (some ⟨g, 0, none⟩) n c) (some (.int .i64 x)) (some (.int .i64 y)) none).run Try.prog w' = .ok (.slice (some ⟨g, k * 2, none⟩) (m - k) (c - k)) w' := by
  subst hx hy
  have h2 : ¬ c = k := by omega
  simp only [Instr.slice, Instr.sliceBounds, sb_ok hk, sb_ok hn, run_underlying Try.underlying44, sizeG, Sem.run_bind, Sem.run_pure, Result.andThen_ok, Option.isSome_none, Bool.false_eq_true, if_false, if_true, if_neg h2, Option.map_some, add_at]
theorem sl_three {g n c k m p : Nat} {x y z : Int} (hx : x = (k : Int)) (hy : y = (m : Int)) (hz : z = (p : Int)) (hk : k ≤ m) (hn : m ≤ p) (hp : p ≤ c) (w' : World) : (Instr.slice 44 (.slice (some ⟨g, 0, none⟩) n c) (some (.int .i64 x)) (some (.int .i64 y)) (some (.int .i64 z))).run Try.prog w' = .ok (.slice (if p = k then some ⟨g, 0, none⟩ else some ⟨g, k * 2, none⟩) (m - k) (p - k)) w' := by
  subst hx hy hz
  simp only [Instr.slice, Instr.sliceBounds, sb_ok hk, sb_ok hn, sb_ok hp, run_underlying Try.underlying44, sizeG, Sem.run_bind, Sem.run_pure, Result.andThen_ok, Option.isSome_some, if_true, Option.map_some, add_at]
/-- 's[i:]' at the end of all room, too: its length alone. -/
theorem sl_tail {g n c k : Nat} {x : Int} (hx : x = (k : Int)) (hk : k ≤ n) (hn : n ≤ c) (w' : World) : (Instr.slice 44 (.slice (some ⟨g, 0, none⟩) n c) (some (.int .i64 x)) none none).run Try.prog w' = .ok (.slice (if c = k then some ⟨g, 0, none⟩ else some ⟨g, k * 2, none⟩) (n - k) (c - k)) w' := by
  subst hx
  simp only [Instr.slice, Instr.sliceBounds, sb_ok hk, run_underlying Try.underlying44, sizeG, Sem.run_bind, Sem.run_pure, Result.andThen_ok, Option.isSome_none, Bool.false_eq_true, if_false, if_true, Option.map_some, add_at]
theorem sl_none (w' : World) : (Instr.slice 44 (.slice none 0 0) (some (.int .i64 0)) none none).run Try.prog w' = .ok (.slice none 0 0) w' := by
  have h := fun code => sb_ok (Nat.le_refl 0) code w'
  simp only [Int.natCast_zero] at h
  simp only [Instr.slice, Instr.sliceBounds, h, run_underlying Try.underlying44, sizeG, Sem.run_bind, Sem.run_pure, Result.andThen_ok, Option.isSome_none, Bool.false_eq_true, if_false, if_true, Nat.sub_zero]

/-! ### The cells of a list's block -/
/-- Block g holds those cells, as a list of gaps. -/
structure Rw (w : World) (g : Nat) (L : List Value) : Prop where
  row : w.heap[g]? = some (.cells L.toArray 66 (0, 0))
def sp (L : List Value) (o : Nat) (cs : List Value) : List Value := L.take o ++ cs ++ L.drop (o + cs.length)
theorem sp_len {L : List Value} {o : Nat} {cs : List Value} (h : o + cs.length ≤ L.length) : (sp L o cs).length = L.length := by simp [sp]; omega
theorem sp_take {L : List Value} {o : Nat} {cs : List Value} (h : o ≤ L.length) : (sp L o cs).take o = L.take o := by
  unfold sp
  rw [List.append_assoc, List.take_append_of_le_length (by simp; omega), List.take_take, Nat.min_self]
theorem sp_take2 {L : List Value} {o : Nat} {cs : List Value} (h : o ≤ L.length) : (sp L o cs).take (o + cs.length) = L.take o ++ cs := by
  unfold sp
  rw [List.take_append_of_le_length (by simp; omega), List.take_of_length_le (by simp; omega)]
theorem Rw.lt {w : World} {g : Nat} {L : List Value} (h : Rw w g L) : g < w.heap.size := (Array.getElem?_eq_some_iff.1 h.row).1
theorem Rw.cell {w : World} {g : Nat} {L : List Value} (h : Rw w g L) (i : Nat) : w.cell? ⟨g, i, none⟩ = L[i]? := by
  rw [cell_of_row _ _ _ _ _ _ h.row]; simp
theorem Rw.keep {w w' : World} {g : Nat} {L : List Value} (h : Rw w g L) (k : w'.heap[g]? = w.heap[g]?) : Rw w' g L := ⟨by rw [k]; exact h.row⟩
theorem Rw.frozen {w : World} {g : Nat} {L : List Value} (h : Rw w g L) (i : Nat) : w.frozen? ⟨g, i, none⟩ = false := by
  unfold World.frozen?; rw [h.row]; rfl
theorem infoG : (Try.prog.info? 66).map (·.size) = some 2 := by kernel_rfl
theorem Rw.store {w : World} {g : Nat} {L : List Value} (h : Rw w g L) (o : Nat) (cs : List Value) (hf : o + cs.length ≤ L.length) (h1 : ∀ v ∈ cs, v.oneCell' = true) :
    ∃ w', (storeCells ⟨g, o, none⟩ cs).run Try.prog w = .ok () w' ∧ Rw w' g (sp L o cs) ∧ Rest g w w' := by
  have hst := run_storeCells_at Try.prog g o 66 cs 0 _ w h.row (by simpa using hf) h1
  refine ⟨_, hst, ⟨?_⟩, Rest.row _ _ _⟩
  have := setRow_heap w g _ (L.toArray.toList.take o ++ cs ++ L.toArray.toList.drop (o + cs.length)).toArray 66 _ h.row
  simp only [Nat.add_zero]
  rw [this]
  rfl
theorem Rw.copy {w : World} {g : Nat} {L : List Value} (h : Rw w g L) (ty : TypeId) (o dn dc sn sc : Nat) (ad : Addr) (cs : List Value) (hn : cs.length = Nat.min sn dn * 2) (hsrc : ∀ j v, cs[j]? = some v → w.cell? (ad.add j) = some v) (hf : o + cs.length ≤ L.length) (h1 : ∀ v ∈ cs, v.oneCell' = true) :
    ∃ w' k, (Builtin.copy_ #[44, 44] ty #[.slice (some ⟨g, o, none⟩) dn dc, .slice (some ad) sn sc]).run Try.prog w = .ok k w' ∧ Rw w' g (sp L o cs) ∧ Rest g w w' := by
  obtain ⟨w', hst, h2, h3⟩ := h.store o cs hf h1
  have hl := run_loadCells_list (P := Try.prog) w ad cs hsrc
  rw [hn] at hl
  obtain ⟨i, hi⟩ : ∃ i, Try.prog.info? 66 = some i := by
    have := infoG
    cases h : Try.prog.info? 66 with
    | none => rw [h] at this; cases this
    | some i => exact ⟨i, rfl⟩
  have hz : i.size = 2 := by have := infoG; rw [hi] at this; simpa using this
  refine ⟨w', goInt (Nat.min sn dn), ?_, h2, h3⟩
  simp [Builtin.copy_, run_underlying Try.underlying44, Builtin.lenOf, Builtin.firstCells, sizeOf, typeInfo, hi, hz, hl, hst]
theorem Rw.append {w : World} {g : Nat} {L : List Value} (h : Rw w g L) (ty : TypeId) (n c m d : Nat) (ad : Addr) (cs : List Value) (hm : cs.length = m * 2) (hsrc : ∀ j v, cs[j]? = some v → w.cell? (ad.add j) = some v) (hr : n + m ≤ c) (hf : n * 2 + cs.length ≤ L.length) (h1 : ∀ v ∈ cs, v.oneCell' = true) :
    ∃ w', (Builtin.append_ #[44, 44] ty #[.slice (some ⟨g, 0, none⟩) n c, .slice (some ad) m d]).run Try.prog w = .ok (.slice (some ⟨g, 0, none⟩) (n + m) c) w' ∧ Rw w' g (sp L (n * 2) cs) ∧ Rest g w w' := by
  obtain ⟨w', hst, h2, h3⟩ := h.store (n * 2) cs hf h1
  have hl := run_loadCells_list (P := Try.prog) w ad cs hsrc
  rw [hm] at hl
  obtain ⟨i, hi⟩ : ∃ i, Try.prog.info? 66 = some i := by
    have := infoG
    cases h : Try.prog.info? 66 with
    | none => rw [h] at this; cases this
    | some i => exact ⟨i, rfl⟩
  have hz : i.size = 2 := by have := infoG; rw [hi] at this; simpa using this
  have e0 : (⟨g, 0, none⟩ : Addr).add (n * 2) = ⟨g, n * 2, none⟩ := add_at _ _
  refine ⟨w', ?_, h2, h3⟩
  simp [Builtin.append_, run_underlying Try.underlying44, Builtin.lenOf, Builtin.firstCells, sizeOf, typeInfo, hi, hz, hl, hr, e0, hst]
theorem Rw.append0 {w : World} {g : Nat} {L : List Value} (h : Rw w g L) (ty : TypeId) (n c d : Nat) (ao : Option Addr) (hr : n ≤ c) :
    (Builtin.append_ #[44, 44] ty #[.slice (some ⟨g, 0, none⟩) n c, .slice ao 0 d]).run Try.prog w = .ok (.slice (some ⟨g, 0, none⟩) n c) w := by
  obtain ⟨i, hi⟩ : ∃ i, Try.prog.info? 66 = some i := by
    have := infoG
    cases h : Try.prog.info? 66 with
    | none => rw [h] at this; cases this
    | some i => exact ⟨i, rfl⟩
  have hz : i.size = 2 := by have := infoG; rw [hi] at this; simpa using this
  have hl : (Builtin.firstCells 2 0 (.slice ao 0 d)).run Try.prog w = .ok #[] w := by
    cases ao with
    | none => simp [Builtin.firstCells]
    | some ad =>
      have := run_loadCells_list (P := Try.prog) w ad [] (fun j v h => by simp at h)
      simpa [Builtin.firstCells] using this
  simp [Builtin.append_, run_underlying Try.underlying44, Builtin.lenOf, sizeOf, typeInfo, hi, hz, hl, hr, storeCells]
theorem Rw.clear {w : World} {g : Nat} {L : List Value} (h : Rw w g L) (ty : TypeId) (o c : Nat) (hf : o + 2 ≤ L.length) :
    ∃ w', (Builtin.clear_ #[44] ty #[.slice (some ⟨g, o, none⟩) 1 c]).run Try.prog w = .ok (.tuple #[]) w' ∧ Rw w' g (sp L o [.int .i64 0, .int .i64 0]) ∧ Rest g w w' := by
  obtain ⟨w', hst, h2, h3⟩ := h.store o [.int .i64 0, .int .i64 0] (by simpa using hf) (by simp [Value.oneCell'])
  have hv : ∀ w, (zeroValue 66).run Try.prog w = .ok (.agg #[.int .i64 0, .int .i64 0]) w := fun _ => by kernel_rfl
  have hz : (Builtin.zeroCells (Value.agg #[.int .i64 0, .int .i64 0]).cells 1).toList = [.int .i64 0, .int .i64 0] := by kernel_rfl
  refine ⟨w', ?_, h2, h3⟩
  simp [Builtin.clear_, run_underlying Try.underlying44, hv, hz, hst]

theorem OwnG.rw {B : Nat} {w : World} {g cap n : Nat} {F : List (Int × Int)} (h : OwnG B w (.slice (some ⟨g, 0, none⟩) n cap) F) : ∃ L, n = F.length ∧ B ≤ g ∧ Rw w g L ∧ F.length ≤ cap ∧ cap ≤ maxLen ∧ L.length = cap * 2 ∧ L.take (F.length * 2) = (F.map gcl).flatten := by
  rcases h.parts with ⟨e, _⟩ | ⟨g', cap', cur, e, h2, h3, h4, h5, h6, h7⟩
  · cases e
  · cases e
    exact ⟨cur.toList, rfl, h2, ⟨by simpa using h3⟩, h4, h5, by simpa using h6, h7⟩
theorem Rw.own {B : Nat} {w : World} {g cap : Nat} {L : List Value} {F : List (Int × Int)} (h : Rw w g L) (h2 : B ≤ g) (h4 : F.length ≤ cap) (h5 : cap ≤ maxLen) (h6 : L.length = cap * 2) (h7 : L.take (F.length * 2) = (F.map gcl).flatten) : OwnG B w (.slice (some ⟨g, 0, none⟩) F.length cap) F :=
  OwnG.mk h2 h.row h4 h5 (by simpa using h6) (by simpa using h7)

/-! ### One out -/
theorem gfl (F : List (Int × Int)) : ((F.map gcl).flatten).length = F.length * 2 := by rw [flat_len (gcl_len F), List.length_map]
theorem gfl_take (F : List (Int × Int)) (i : Nat) : ((F.map gcl).flatten).take (i * 2) = ((F.take i).map gcl).flatten := by
  have : (F.map gcl).flatten = ((F.take i).map gcl).flatten ++ ((F.drop i).map gcl).flatten := by rw [← List.flatten_append, ← List.map_append, List.take_append_drop]
  rw [this]
  by_cases h : i ≤ F.length
  · rw [List.take_append_of_le_length (by rw [gfl, List.length_take]; omega), List.take_of_length_le (by rw [gfl, List.length_take]; omega)]
  · rw [List.drop_of_length_le (by omega)]
    simp only [List.map_nil, List.flatten_nil, List.append_nil]
    exact List.take_of_length_le (by rw [gfl, List.length_take]; omega)
theorem gfl_drop (F : List (Int × Int)) (i : Nat) : ((F.map gcl).flatten).drop (i * 2) = ((F.drop i).map gcl).flatten := by
  have : (F.map gcl).flatten = ((F.take i).map gcl).flatten ++ ((F.drop i).map gcl).flatten := by rw [← List.flatten_append, ← List.map_append, List.take_append_drop]
  have h1 := gfl_take F i
  have h2 := List.take_append_drop (i * 2) (F.map gcl).flatten
  rw [h1] at h2
  conv at h2 => rhs; rw [this]
  exact List.append_cancel_left h2
theorem del_cells {L : List Value} {F : List (Int × Int)} {i : Nat} (hi : i < F.length) (hL : F.length * 2 ≤ L.length) (h : L.take (F.length * 2) = (F.map gcl).flatten) (z : List Value) (hz : z.length = 2) :
    (sp (sp L (i * 2) ((F.drop (i + 1)).map gcl).flatten) ((F.length - 1) * 2) z).take ((F.take i ++ F.drop (i + 1)).length * 2) = ((F.take i ++ F.drop (i + 1)).map gcl).flatten := by
  have hl : (F.take i ++ F.drop (i + 1)).length = F.length - 1 := by simp; omega
  have hd : (((F.drop (i + 1)).map gcl).flatten).length = (F.length - (i + 1)) * 2 := by rw [gfl, List.length_drop]
  have h1 : L.take (i * 2) = ((F.take i).map gcl).flatten := by
    rw [← gfl_take, ← h, List.take_take, Nat.min_eq_left (by omega)]
  have hd2 : i * 2 + (((F.drop (i + 1)).map gcl).flatten).length = (F.length - 1) * 2 := by rw [hd]; omega
  rw [hl, sp_take (by rw [sp_len (by omega)]; omega), ← hd2, sp_take2 (by omega), h1, List.map_append, List.flatten_append]

end Go.Proofs.Ytmfoenhbldacfaa
