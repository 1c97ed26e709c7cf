import Derived.Test.YtmfoenhbldacfaaQbl
import Derived.Deep.RegionHeld3
/- Rows of values of the call's own: what is appended to them, and cut out of them. -/
namespace Go.Proofs.Ytmfoenhbldacfaa
open Go.RowKit Go.Shelf
set_option linter.unusedVariables false
set_option linter.unusedSimpArgs false

/-- S is a slice of E, whose values are one cell each. -/
structure El (S E : TypeId) (z : Value) (by1 : Nat) : Prop where
  und : Try.prog.underlying S = some (.slice E)
  info : (Try.prog.info? E).map (fun i => (i.zero, i.size, i.bytes)) = some (some z, 1, by1)
  one : z.cells.size = 1
  few : by1 ≤ 16
  size : ∀ w, (sizeOf E).run Try.prog w = .ok 1 w
theorem elU : El 26 28 (.int .u64 0) 8 := ⟨Try.underlying26, by kernel_rfl, rfl, by omega, by intro w; kernel_rfl⟩
theorem elS : El 27 9 (.string ⟨#[]⟩) 16 := ⟨Try.underlying27, by kernel_rfl, rfl, by omega, by intro w; kernel_rfl⟩
/-- A row of the call's own. -/
def Ro (E : TypeId) (B : Nat) (w : World) (v : Value) (cs : List Value) : Prop := w.ownsRow B E 1 v cs.length cs
/-- A slice that reads so. -/
structure Src (w : World) (s : Value) (cs : List Value) : Prop where
  ex : ∃ ao n c, s = .slice ao n c ∧ cs.length = n ∧ (ao = none → n = 0) ∧ ∀ a, ao = some a → ∀ j u, cs[j]? = some u → w.cell? (a.add j) = some u
theorem Src.later {w w' : World} {s : Value} {cs : List Value} (h : Src w s cs) (hb : Below w.heap.size w w') : Src w' s cs := by
  obtain ⟨ao, n, c, h1, h2, h3, h4⟩ := h.ex
  exact ⟨ao, n, c, h1, h2, h3, fun a ha j u e => cell_later hb (h4 a ha j u e)⟩
theorem Src.bel {w w' : World} {B : Nat} {s : Value} {cs : List Value} (h : Src w s cs) (hB : B = w.heap.size) (hb : Below B w w') : Src w' s cs := h.later (hB ▸ hb)
theorem Ro.nil (E : TypeId) (B : Nat) (w : World) : Ro E B w (.slice none 0 0) [] := World.ownsRow_nil w B E 1
theorem Ro.sl {E : TypeId} {B : Nat} {w : World} {v : Value} {cs : List Value} (h : Ro E B w v cs) : ∃ ao c, v = .slice ao cs.length c ∧ cs.length ≤ c ∧ c ≤ 9223372036854775807 ∧ (ao = none → cs = [] ∧ c = 0) ∧ ∀ a, ao = some a → ∃ g A, a = ⟨g, 0, none⟩ ∧ B ≤ g ∧ w.heap[g]? = some (.cells A E (0, 0)) ∧ ∀ j u, cs[j]? = some u → w.cell? ⟨g, j, none⟩ = some u := by
  rcases h.2 with ⟨rfl, h0⟩ | ⟨g, cap, cur, rfl, h2, h3, h4, h5, h6, h7⟩
  · exact ⟨none, 0, by rw [h0], by omega, by omega, fun _ => ⟨List.eq_nil_of_length_eq_zero h0, rfl⟩, fun a ha => by cases ha⟩
  · refine ⟨_, cap, rfl, h4, by simpa [maxLen] using h5, (fun e => by cases e), fun a ha => ?_⟩
    cases ha
    refine ⟨g, cur, rfl, h2, h3, fun j u e => ?_⟩
    have hj : j < cs.length := by
      rcases Nat.lt_or_ge j cs.length with k | k
      · exact k
      · rw [List.getElem?_eq_none k] at e; cases e
    rw [cell_of_row _ _ _ _ _ _ h3, ← Array.getElem?_toList]
    rw [← h7, List.getElem?_take, if_pos (by omega)] at e
    exact e
theorem Ro.src {E : TypeId} {B : Nat} {w : World} {v : Value} {cs : List Value} (h : Ro E B w v cs) : Src w v cs := by
  obtain ⟨ao, c, h1, h2, h3, h4, h5⟩ := h.sl
  refine ⟨ao, _, c, h1, rfl, fun e => by rw [(h4 e).1]; rfl, fun a ha j u e => ?_⟩
  obtain ⟨g, A, rfl, _, _, hc⟩ := h5 a ha
  rw [add_at]
  exact hc j u e
theorem Ro.at {E : TypeId} {B : Nat} {w : World} {v : Value} {cs : List Value} (h : Ro E B w v cs) {i : Nat} {u : Value} (hi : cs[i]? = some u) : ∃ g c, v = .slice (some ⟨g, 0, none⟩) cs.length c ∧ B ≤ g ∧ cs.length ≤ c ∧ c ≤ 9223372036854775807 ∧ (∃ A, w.heap[g]? = some (.cells A E (0, 0))) ∧ ∀ j u, cs[j]? = some u → w.cell? ⟨g, j, none⟩ = some u := by
  obtain ⟨ao, c, h1, h2, h3, h4, h5⟩ := h.sl
  cases ao with
  | none => rw [(h4 rfl).1] at hi; simp at hi
  | some a =>
    obtain ⟨g, A, rfl, hB, hA, hc⟩ := h5 a rfl
    exact ⟨g, c, h1, hB, h2, h3, ⟨A, hA⟩, hc⟩
theorem Ro.keep {E : TypeId} {B : Nat} {w w' : World} {v : Value} {cs : List Value} (h : Ro E B w v cs) (k : ∀ g A, B ≤ g → w.heap[g]? = some (.cells A E (0, 0)) → w'.heap[g]? = w.heap[g]?) : Ro E B w' v cs := by
  refine ⟨h.1, ?_⟩
  rcases h.2 with h0 | ⟨g, cap, cur, h1, h2, h3, r⟩
  · exact .inl h0
  · exact .inr ⟨g, cap, cur, h1, h2, by rw [k g _ h2 h3]; exact h3, r⟩
theorem Ro.later {E : TypeId} {B : Nat} {w w' : World} {v : Value} {cs : List Value} (h : Ro E B w v cs) (hb : Below w.heap.size w w') : Ro E B w' v cs :=
  h.keep fun g A _ e => hb.block g (Array.getElem?_eq_some_iff.1 e).1
theorem Ro.lower {E : TypeId} {B B' : Nat} {w : World} {v : Value} {cs : List Value} (h : Ro E B w v cs) (hB : B' ≤ B) : Ro E B' w v cs :=
  ⟨h.1, h.2.imp id (by
    rintro ⟨g, cap, cur, e1, e2, r⟩
    exact ⟨g, cap, cur, e1, Nat.le_trans hB e2, r⟩)⟩
theorem Ro.made {E : TypeId} {B : Nat} (w : World) (hB : B ≤ w.heap.size) : Ro E B (w.alloc (.cells #[] E)) (.slice (some ⟨w.heap.size, 0, none⟩) 0 0) [] :=
  World.ownsRow_made w #[] 0 hB (Nat.zero_le _) rfl
theorem Src.one (w : World) (E : TypeId) (x : Value) : Src (w.alloc (.cells #[x] E)) (.slice (some ⟨w.heap.size, 0, none⟩) 1 1) [x] :=
  ⟨_, 1, 1, rfl, rfl, (fun e => by cases e), fun a ha j u e => by
    cases ha
    cases j with
    | zero => simp at e; subst e; rw [add_at]; exact cell_of_row _ _ _ _ _ _ (heap_alloc_last w _)
    | succ j => simp at e⟩

theorem Ro.app {S E : TypeId} {z : Value} {by1 : Nat} (el : El S E z by1) {B : Nat} {w : World} {v s : Value} {cs xs : List Value} (h : Ro E B w v cs) (hs : Src w s xs) (h1 : ∀ u ∈ xs, u.oneCell' = true) (hl : cs.length + xs.length ≤ 1000) (hB : B ≤ w.heap.size) (ty : TypeId) :
    ∃ v' w', (Builtin.append_ #[S, S] ty #[v, s]).run Try.prog w = .ok v' w' ∧ Ro E B w' v' (cs ++ xs) ∧ Below B w w' ∧ ∀ q, q < w.heap.size → some q ≠ v.ownBlock → w'.heap[q]? = w.heap[q]? := by
  obtain ⟨i, hi, hz, hsz, hb⟩ := info_parts el.info
  obtain ⟨ao, n, c, rfl, hn, hno, hc⟩ := hs.ex
  have hown : ∀ g, v.ownBlock = some g → B ≤ g := fun g hg => by
    rcases h.2 with ⟨rfl, _⟩ | ⟨g', cap, cur, rfl, h2, h3, _⟩
    · cases hg
    · cases hg; exact h2
  cases ao with
  | none =>
    have hn0 := hno rfl
    subst hn0
    have hx : xs = [] := List.eq_nil_of_length_eq_zero hn
    subst hx
    obtain ⟨a0, c0, rfl, hc0, hc1, _, _⟩ := h.sl
    refine ⟨_, w, ?_, by rw [List.append_nil]; exact h, Below.refl _ _, fun _ _ _ => rfl⟩
    have hf : (Builtin.firstCells 1 0 (.slice none 0 c)).run Try.prog w = .ok #[] w := by simp [Builtin.firstCells]
    simp [Builtin.append_, run_underlying el.und, Builtin.lenOf, sizeOf, typeInfo, hi, hsz, hf, hc0, storeCells]
    cases a0 <;> rfl
  | some a =>
    have hr : w.ownsRow B E 1 v cs.length cs := h
    obtain ⟨v', w', r1, r2, r3, r4, r5⟩ := run_append_own_at (P := Try.prog) w B S ty E i z 1 by1 el.und hi hz hsz hb el.one (by omega) v cs.length cs hr a n c xs (by omega) (hc a rfl) h1 (by unfold maxLen; omega) (by
      have := el.few
      have h2 : (cs.length + n) * by1 ≤ 1000 * 16 := Nat.mul_le_mul (by omega) this
      omega) hB
    refine ⟨v', w', r1, ?_, ⟨r3.os, r3.tape, r3.output, r3.size, fun k hk => r3.block k (by omega) (fun e => by have := hown k e.symm; omega)⟩, fun q hq hne => r3.block q hq hne⟩
    unfold Ro
    rw [List.length_append, hn]
    exact r2

/-- 'v[:k]'. -/
theorem Ro.lo {S E : TypeId} {z : Value} {by1 : Nat} (el : El S E z by1) {B : Nat} {w : World} {v : Value} {cs : List Value} (h : Ro E B w v cs) {k : Nat} (hk : k ≤ cs.length) {x : Int} (hx : x = (k : Int)) :
    ∃ s, (∀ w', (Instr.slice S v none (some (.int .i64 x)) none).run Try.prog w' = .ok s w') ∧ Src w s (cs.take k) := by
  subst hx
  obtain ⟨ao, c, rfl, h2, h3, h4, h5⟩ := h.sl
  cases ao with
  | none =>
    obtain ⟨rfl, rfl⟩ := h4 rfl
    have hk0 : k = 0 := by simpa using hk
    subst hk0
    refine ⟨.slice none 0 0, fun w' => ?_, none, 0, 0, rfl, rfl, fun _ => rfl, fun a ha => by cases ha⟩
    have hs := fun code => sb_ok (Nat.le_refl 0) code w'
    simp only [Int.natCast_zero] at hs
    simp only [List.length_nil, Int.natCast_zero, Instr.slice, Instr.sliceBounds, hs, run_underlying el.und, el.size w', Sem.run_bind, Sem.run_pure, Result.andThen_ok, Option.isSome_none, Bool.false_eq_true, if_false, if_true, Nat.sub_zero]
  | some a =>
    obtain ⟨g, A, rfl, _, _, hc⟩ := h5 a rfl
    refine ⟨.slice (some ⟨g, 0, none⟩) k c, fun w' => ?_, some ⟨g, 0, none⟩, k, c, rfl, by rw [List.length_take]; omega, (fun e => by cases e), fun a ha j u e => ?_⟩
    · have e0 : (if c = 0 then some (⟨g, 0, none⟩ : Addr) else Option.map (fun a : Addr => a.add (0 * 1)) (some (⟨g, 0, none⟩ : Addr))) = some ⟨g, 0, none⟩ := by split <;> rfl
      simp only [Instr.slice, Instr.sliceBounds, sb_ok (Nat.le_trans hk h2), run_underlying el.und, el.size w', Sem.run_bind, Sem.run_pure, Result.andThen_ok, Option.isSome_none, Bool.false_eq_true, if_false, if_true, Nat.sub_zero, e0]
    · cases ha
      rw [add_at]
      rw [List.getElem?_take] at e
      split at e
      · exact hc j u e
      · cases e
/-- 'v[k:]'. -/
theorem Ro.hi {S E : TypeId} {z : Value} {by1 : Nat} (el : El S E z by1) {B : Nat} {w : World} {v : Value} {cs : List Value} (h : Ro E B w v cs) {k : Nat} (hk : k ≤ cs.length) {x : Int} (hx : x = (k : Int)) :
    ∃ s, (∀ w', (Instr.slice S v (some (.int .i64 x)) none none).run Try.prog w' = .ok s w') ∧ Src w s (cs.drop k) := by
  subst hx
  obtain ⟨ao, c, rfl, h2, h3, h4, h5⟩ := h.sl
  cases ao with
  | none =>
    obtain ⟨rfl, rfl⟩ := h4 rfl
    have hk0 : k = 0 := by simpa using hk
    subst hk0
    refine ⟨.slice none 0 0, fun w' => ?_, none, 0, 0, rfl, rfl, fun _ => rfl, fun a ha => by cases ha⟩
    have hs := fun code => sb_ok (Nat.le_refl 0) code w'
    simp only [Int.natCast_zero] at hs
    simp only [List.length_nil, Int.natCast_zero, Instr.slice, Instr.sliceBounds, hs, run_underlying el.und, el.size w', Sem.run_bind, Sem.run_pure, Result.andThen_ok, Option.isSome_none, Bool.false_eq_true, if_false, if_true, Nat.sub_zero]
  | some a =>
    obtain ⟨g, A, rfl, _, _, hc⟩ := h5 a rfl
    refine ⟨.slice (if c = k then some ⟨g, 0, none⟩ else some ⟨g, k, none⟩) (cs.length - k) (c - k), fun w' => ?_, _, _, _, rfl, by rw [List.length_drop], (fun e => by split at e <;> cases e), fun a ha j u e => ?_⟩
    · simp only [Instr.slice, Instr.sliceBounds, sb_ok hk, run_underlying el.und, el.size w', Sem.run_bind, Sem.run_pure, Result.andThen_ok, Option.isSome_none, Bool.false_eq_true, if_false, if_true, Option.map_some, add_at, Nat.mul_one]
    · rw [List.getElem?_drop] at e
      have hj : k + j < cs.length := by
        rcases Nat.lt_or_ge (k + j) cs.length with q | q
        · exact q
        · rw [List.getElem?_eq_none q] at e; cases e
      rw [if_neg (by omega)] at ha
      cases ha
      rw [Addr.add_mid]
      exact hc _ _ e

end Go.Proofs.Ytmfoenhbldacfaa
/- The document's rising list of a heap's records, plainly. -/
namespace Go.Proofs.Ytmfoenhbldacfaa
open Go.RowKit
set_option linter.unusedVariables false

abbrev Rec := Int × List Int
theorem lk_append {α : Type} : ∀ (A C : List (Int × α)) (j : Int), lk (A ++ C) j = (lk A j).or (lk C j)
  | [], C, j => by simp [lk]
  | p :: A, C, j => by
    rw [List.cons_append, lk, lk]
    by_cases e : p.1 = j
    · rw [if_pos e, if_pos e]; rfl
    · rw [if_neg e, if_neg e]; exact lk_append A C j
theorem lk_low {α : Type} {A : List (Int × α)} {id : Int} (h : ∀ p ∈ A, p.1 < id) : lk A id = none := by
  rw [lk_none]
  intro k
  obtain ⟨p, hp, e⟩ := List.mem_map.1 k
  have := h p hp
  omega
theorem lk_high {α : Type} {A : List (Int × α)} {id : Int} (h : ∀ p ∈ A, id < p.1) : lk A id = none := by
  rw [lk_none]
  intro k
  obtain ⟨p, hp, e⟩ := List.mem_map.1 k
  have := h p hp
  omega
theorem ins_lk {A C : List Rec} {id : Int} (b : List Int) (hA : ∀ p ∈ A, p.1 < id) (j : Int) : lk (A ++ (id, b) :: C) j = if j = id then some b else lk (A ++ C) j := by
  rw [lk_append, lk_append, lk]
  by_cases e : j = id
  · subst e; rw [if_pos rfl, if_pos rfl, lk_low hA]; rfl
  · rw [if_neg e, if_neg (fun k => e k.symm)]
theorem set_lk {A C : List Rec} {id : Int} (b b0 : List Int) (hA : ∀ p ∈ A, p.1 < id) (j : Int) : lk (A ++ (id, b) :: C) j = if j = id then some b else lk (A ++ (id, b0) :: C) j := by
  rw [lk_append, lk_append, lk, lk]
  by_cases e : j = id
  · subst e; rw [if_pos rfl, if_pos rfl, lk_low hA]; rfl
  · rw [if_neg e, if_neg (fun k => e k.symm), if_neg (fun k => e k.symm)]
theorem del_lk {A C : List Rec} {id : Int} (b0 : List Int) (hA : ∀ p ∈ A, p.1 < id) (hC : ∀ p ∈ C, id < p.1) (j : Int) : lk (A ++ C) j = if j = id then none else lk (A ++ (id, b0) :: C) j := by
  rw [lk_append, lk_append, lk]
  by_cases e : j = id
  · subst e; rw [if_pos rfl, lk_low hA, lk_high hC]; rfl
  · rw [if_neg e, if_neg (fun k => e k.symm)]
def Srt (L : List Rec) : Prop := (ks L).Pairwise (· < ·)
theorem Srt.nodup {L : List Rec} (h : Srt L) : (ks L).Nodup := h.imp fun {a b} k e => by subst e; omega
theorem srt_two {A C : List Rec} : Srt (A ++ C) ↔ Srt A ∧ Srt C ∧ ∀ p ∈ A, ∀ q ∈ C, p.1 < q.1 := by
  unfold Srt ks
  rw [List.map_append, List.pairwise_append]
  constructor
  · rintro ⟨h1, h2, h3⟩
    exact ⟨h1, h2, fun p hp q hq => h3 _ (List.mem_map.2 ⟨p, hp, rfl⟩) _ (List.mem_map.2 ⟨q, hq, rfl⟩)⟩
  · rintro ⟨h1, h2, h3⟩
    refine ⟨h1, h2, fun x hx y hy => ?_⟩
    obtain ⟨p, hp, rfl⟩ := List.mem_map.1 hx
    obtain ⟨q, hq, rfl⟩ := List.mem_map.1 hy
    exact h3 p hp q hq
theorem srt_cons {p : Rec} {C : List Rec} : Srt (p :: C) ↔ (∀ q ∈ C, p.1 < q.1) ∧ Srt C := by
  unfold Srt ks
  rw [List.map_cons, List.pairwise_cons]
  constructor
  · rintro ⟨h1, h2⟩
    exact ⟨fun q hq => h1 _ (List.mem_map.2 ⟨q, hq, rfl⟩), h2⟩
  · rintro ⟨h1, h2⟩
    refine ⟨fun y hy => ?_, h2⟩
    obtain ⟨q, hq, rfl⟩ := List.mem_map.1 hy
    exact h1 q hq

/-- What lies ahead of a number's place, and from there on. -/
structure Spl (L : List Rec) (id : Int) (k : Nat) (A C : List Rec) : Prop where
  eq : L = A ++ C
  len : A.length = k
  low : ∀ p ∈ A, p.1 < id
  high : ∀ p ∈ C, id ≤ p.1
theorem spl_of {L : List Rec} (hs : Srt L) {id : Int} {k : Nat} (hk : k ≤ L.length) (h1 : ∀ i, i < k → nth (ks L) i < id) (h2 : k < L.length → id ≤ nth (ks L) k) : Spl L id k (L.take k) (L.drop k) := by
  refine ⟨(List.take_append_drop k L).symm, by rw [List.length_take]; omega, fun p hp => ?_, fun p hp => ?_⟩
  · obtain ⟨i, hi, e⟩ := List.mem_iff_getElem.1 hp
    rw [List.length_take] at hi
    rw [List.getElem_take] at e
    have := h1 i (by omega)
    rw [nth, ks, List.getElem?_map, List.getElem?_eq_getElem (by omega), e] at this
    simpa using this
  · have hk2 : k < L.length := by
      rcases Nat.lt_or_ge k L.length with q | q
      · exact q
      · rw [List.drop_eq_nil_of_le q] at hp; cases hp
    have h3 := h2 hk2
    rw [nth, ks, List.getElem?_map, List.getElem?_eq_getElem hk2] at h3
    simp only [Option.map_some, Option.getD_some] at h3
    have hd : L.drop k = L[k] :: L.drop (k + 1) := List.drop_eq_getElem_cons hk2
    rw [hd] at hp
    rcases List.mem_cons.1 hp with rfl | hp
    · exact h3
    · have := hs
      rw [← List.take_append_drop k L, srt_two, hd, srt_cons] at this
      have := this.2.1.1 p hp
      omega
/-- The number is there. -/
theorem Spl.is {L : List Rec} {id : Int} {k : Nat} {A C : List Rec} (h : Spl L id k A C) (hs : Srt L) (hi : k < L.length) (he : nth (ks L) k = id) : ∃ b C', C = (id, b) :: C' ∧ (∀ p ∈ C', id < p.1) ∧ lk L id = some b := by
  have hl : L.length = A.length + C.length := by rw [h.eq, List.length_append]
  cases C with
  | nil => simp at hl; have := h.len; omega
  | cons p C' =>
    have hp : p.1 = id := by
      rw [← he, h.eq, nth, ks, List.map_append, List.getElem?_append_right (by simp [h.len])]
      simp [h.len]
    have h3 := hs
    rw [h.eq, srt_two, srt_cons] at h3
    obtain ⟨x, b⟩ := p
    dsimp only at hp
    subst hp
    refine ⟨b, C', rfl, h3.2.1.1, ?_⟩
    rw [h.eq, lk_append, lk_low h.low, lk, if_pos rfl]; rfl
/-- The number isn't there. -/
theorem Spl.isno {L : List Rec} {id : Int} {k : Nat} {A C : List Rec} (h : Spl L id k A C) (hs : Srt L) (hi : k < L.length → nth (ks L) k ≠ id) : (∀ p ∈ C, id < p.1) ∧ lk L id = none := by
  have hC : ∀ p ∈ C, id < p.1 := by
    have hl : L.length = A.length + C.length := by rw [h.eq, List.length_append]
    cases C with
    | nil => intro p hp; cases hp
    | cons p C' =>
      have hi2 := hi (by simp at hl; have := h.len; omega)
      rw [h.eq, nth, ks, List.map_append, List.getElem?_append_right (by simp [h.len])] at hi2
      simp [h.len] at hi2
      have h4 := h.high p (by simp)
      have h3 := hs
      rw [h.eq, srt_two, srt_cons] at h3
      intro q hq
      rcases List.mem_cons.1 hq with rfl | hq
      · omega
      · have := h3.2.1.1 q hq; omega
  exact ⟨hC, by rw [h.eq, lk_append, lk_low h.low, lk_high hC]; rfl⟩
theorem Spl.srt_ins {L : List Rec} {id : Int} {k : Nat} {A C : List Rec} (h : Spl L id k A C) (hs : Srt L) (hC : ∀ p ∈ C, id < p.1) (b : List Int) : Srt (A ++ (id, b) :: C) := by
  rw [h.eq, srt_two] at hs
  rw [srt_two, srt_cons]
  refine ⟨hs.1, ⟨fun q hq => hC q hq, hs.2.1⟩, fun p hp q hq => ?_⟩
  rcases List.mem_cons.1 hq with rfl | hq
  · exact h.low p hp
  · exact hs.2.2 p hp q hq
theorem Spl.srt_del {L : List Rec} {id : Int} {k : Nat} {A C' : List Rec} {b : List Int} (h : Spl L id k A ((id, b) :: C')) (hs : Srt L) : Srt (A ++ C') := by
  rw [h.eq, srt_two, srt_cons] at hs
  rw [srt_two]
  exact ⟨hs.1, hs.2.1.2, fun p hp q hq => hs.2.2 p hp q (List.mem_cons_of_mem _ hq)⟩
theorem Spl.srt_set {L : List Rec} {id : Int} {k : Nat} {A C' : List Rec} {b : List Int} (h : Spl L id k A ((id, b) :: C')) (hs : Srt L) (b' : List Int) : Srt (A ++ (id, b') :: C') := by
  rw [h.eq, srt_two, srt_cons] at hs
  rw [srt_two, srt_cons]
  refine ⟨hs.1, hs.2.1, fun p hp q hq => ?_⟩
  rcases List.mem_cons.1 hq with rfl | hq
  · exact h.low p hp
  · exact hs.2.2 p hp q (List.mem_cons_of_mem _ hq)

theorem same_sorted : ∀ {m l : List Int}, m.Pairwise (· < ·) → l.Pairwise (· ≤ ·) → l.length = m.length → (∀ x, x ∈ l ↔ x ∈ m) → l = m
  | [], l, _, _, hl, _ => List.eq_nil_of_length_eq_zero hl
  | a :: m, [], _, _, hl, _ => by simp at hl
  | a :: m, b :: l, h1, h2, hl, h3 => by
    rw [List.pairwise_cons] at h1 h2
    have hab : a = b := by
      rcases List.mem_cons.1 ((h3 a).2 (by simp)) with e | e
      · exact e
      · have := h2.1 a e
        rcases List.mem_cons.1 ((h3 b).1 (by simp)) with e | e
        · exact e.symm
        · have := h1.1 b e; omega
    subst hab
    have hml : ∀ x ∈ m, x ∈ l := fun x hx => by
      rcases List.mem_cons.1 ((h3 x).2 (List.mem_cons_of_mem _ hx)) with e | e
      · have := h1.1 x hx; omega
      · exact e
    have hmn : m.Nodup := h1.2.imp fun {a b} k e => by subst e; omega
    have hal : a ∉ l := fun h => by
      have := nodup_le (List.nodup_cons.2 ⟨fun k => by have := h1.1 a k; omega, hmn⟩) (fun x hx => by
        rcases List.mem_cons.1 hx with rfl | hx
        · exact h
        · exact hml x hx : ∀ x ∈ a :: m, x ∈ l)
      simp at this hl
      omega
    rw [same_sorted h1.2 h2.2 (by simpa using hl) (fun x => ⟨fun hx => by
      rcases List.mem_cons.1 ((h3 x).1 (List.mem_cons_of_mem _ hx)) with e | e
      · subst e; exact absurd hx hal
      · exact e, hml x⟩)]
theorem pw_of {l : List Int} (h : ∀ i j, i < j → j < l.length → nth l i ≤ nth l j) : l.Pairwise (· ≤ ·) := by
  rw [List.pairwise_iff_getElem]
  intro i j hi hj hij
  have := h i j hij hj
  rw [nth, nth, List.getElem?_eq_getElem hi, List.getElem?_eq_getElem hj] at this
  exact this

end Go.Proofs.Ytmfoenhbldacfaa
