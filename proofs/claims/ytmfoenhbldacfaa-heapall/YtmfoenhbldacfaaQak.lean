import Derived.Test.YtmfoenhbldacfaaQaj
import Derived.Maps.RangeRun
/- Maps by numbers in memory. -/
namespace Go.Proofs.Ytmfoenhbldacfaa
open Go.RowKit
open Go.ChangeMaps (setBlock)
set_option linter.unusedVariables false
set_option linter.unusedSimpArgs false

theorem getObj_at {w : World} {b : Nat} {es : Array MapEntry} {c : Nat} (h : w.heap[b]? = some (.map es c)) : (getObj b).run Try.prog w = .ok (.map es c) w := by
  simp [getObj, Sem.run, h]
theorem setObj_map {w : World} {b : Nat} {es : Array MapEntry} {c : Nat} (h : w.heap[b]? = some (.map es c)) (es' : Array MapEntry) (c' : Nat) : (setObj b (.map es' c')).run Try.prog w = .ok () (setBlock w b (.map es' c')) := by
  simp [setObj, Sem.run, h, setBlock]
theorem Rest.block' (b : Nat) (w : World) (o : Obj) : Rest b w (setBlock w b o) :=
  ⟨rfl, rfl, rfl, by simp [setBlock], fun k _ hk => by simp [setBlock, Array.getElem?_setIfInBounds, Ne.symm hk]⟩
theorem setBlock_at {w : World} {b : Nat} (h : b < w.heap.size) (o : Obj) : (setBlock w b o).heap[b]? = some o := by
  simp [setBlock, Array.getElem?_setIfInBounds, h]

section
variable {α : Type}
/-- Block b holds that map: f tells the values. -/
structure MapB (w : World) (b : Nat) (q : IntKind) (f : α → Value) (L : List (Int × α)) : Prop where
  ex : ∃ es clock, w.heap[b]? = some (.map es clock) ∧ es.toList.map (fun e => (e.key, e.val)) = L.map (fun p => (Value.int q p.1, f p.2)) ∧ (es.toList.map (·.born)).Pairwise (· < ·) ∧ ∀ e ∈ es.toList, e.born < clock
theorem MapB.lt {w : World} {b : Nat} {q : IntKind} {f : α → Value} {L : List (Int × α)} (h : MapB w b q f L) : b < w.heap.size := by
  obtain ⟨es, c, h, _⟩ := h.ex
  exact (Array.getElem?_eq_some_iff.1 h).1
theorem MapB.keep {w w' : World} {b : Nat} {q : IntKind} {f : α → Value} {L : List (Int × α)} (h : MapB w b q f L) (k : w'.heap[b]? = w.heap[b]?) : MapB w' b q f L := by
  obtain ⟨es, c, h, r⟩ := h.ex
  exact ⟨es, c, by rw [k]; exact h, r⟩
theorem MapB.new (w : World) (q : IntKind) (f : α → Value) : MapB (w.alloc (.map #[] 0)) w.heap.size q f ([] : List (Int × α)) :=
  ⟨#[], 0, heap_alloc_last w _, rfl, by simp, by simp⟩

/-- Where a number stands, counted from i. -/
def ixf : List (Int × α) → Int → Nat → Option (Nat × α)
  | [], _, _ => none
  | p :: l, k, i => if p.1 = k then some (i, p.2) else ixf l k (i + 1)
theorem ixf_lk : ∀ (L : List (Int × α)) (k : Int) (i : Nat), (ixf L k i).map (·.2) = lk L k
  | [], _, _ => rfl
  | p :: l, k, i => by
    rw [ixf, lk]
    by_cases e : p.1 = k
    · rw [if_pos e, if_pos e]; rfl
    · rw [if_neg e, if_neg e, ixf_lk]
theorem findNow_is (q : IntKind) (f : α → Value) (k : Int) : ∀ (es : List MapEntry) (L : List (Int × α)) (i : Nat), es.map (fun e => (e.key, e.val)) = L.map (fun p => (Value.int q p.1, f p.2)) →
    Instr.findNow (.int q) (.int q k) es i = some ((ixf L k i).map fun p => (p.1, f p.2))
  | [], [], i, _ => rfl
  | [], _ :: _, _, h => by simp at h
  | _ :: _, [], _, h => by simp at h
  | e :: es, p :: L, i, h => by
    rw [List.map_cons, List.map_cons, List.cons.injEq] at h
    obtain ⟨h1, h2⟩ := h
    rw [Prod.mk.injEq] at h1
    rw [Instr.findNow, h1.1]
    simp only [Instr.sameNow, if_true]
    rw [ixf]
    by_cases e' : p.1 = k
    · rw [if_pos e', e']
      simp [h1.2]
    · rw [if_neg e', show (k == p.1) = false from by simp; exact fun e => e' e.symm]
      simp only
      exact findNow_is q f k es L (i + 1) h2
theorem check_int {P : Program} {k : TypeId} {q : IntKind} (hk : P.underlying k = some (.int q)) (w : World) (em : Bool) (x : Int) : (Instr.checkKey em 10000 k (.int q x)).run P w = .ok () w := by
  unfold Instr.checkKey
  simp [run_underlying hk]
theorem stays_int {P : Program} (w : World) (q : IntKind) (x : Int) : (Instr.keyThatStays (.int q x) (.int q x)).run P w = .ok (.int q x) w := by
  simp [Instr.keyThatStays, Instr.sameBits]

/-- 'm[k]'. -/
theorem MapB.look {w : World} {b : Nat} {q : IntKind} {f : α → Value} {L : List (Int × α)} (h : MapB w b q f L) {t k e : TypeId} (ht : Try.prog.underlying t = some (.map k e)) (hk : Try.prog.underlying k = some (.int q)) {z : Value} (hz : ∀ w, (zeroValue e).run Try.prog w = .ok z w) (x : Int) (c : Bool) :
    (Instr.lookup t (.map (some b)) (.int q x) c).run Try.prog w = .ok (if c then .tuple #[((lk L x).map f).getD z, .bool (lk L x).isSome] else ((lk L x).map f).getD z) w := by
  obtain ⟨es, cl, hb, he, _⟩ := h.ex
  have hf := findNow_is q f x es.toList L 0 he
  have hl := ixf_lk L x 0
  simp only [Instr.lookup, Sem.run_bind, run_underlying ht, Result.andThen_ok, getObj_at hb, Sem.run_pure, check_int hk, Instr.findKey, run_underlying hk, hf]
  cases hx : ixf L x 0 with
  | none =>
    rw [hx] at hl
    rw [← hl]
    cases c <;> simp [hz]
  | some p =>
    rw [hx] at hl
    rw [← hl]
    cases c <;> simp
theorem look_nil {t k e : TypeId} {q : IntKind} (ht : Try.prog.underlying t = some (.map k e)) (hk : Try.prog.underlying k = some (.int q)) {z : Value} (hz : ∀ w, (zeroValue e).run Try.prog w = .ok z w) (x : Int) (c : Bool) (w : World) :
    (Instr.lookup t (.map none) (.int q x) c).run Try.prog w = .ok (if c then .tuple #[z, .bool false] else z) w := by
  simp only [Instr.lookup, Sem.run_bind, run_underlying ht, Result.andThen_ok, Sem.run_pure, check_int hk, Instr.findKey, run_underlying hk]
  cases c <;> simp [Instr.findNow, hz]

theorem modify_map (q : IntKind) (f : α → Value) (k : Int) (v : α) : ∀ (es : List MapEntry) (L : List (Int × α)) (i : Nat) (p : Nat × α), es.map (fun e => (e.key, e.val)) = L.map (fun p => (Value.int q p.1, f p.2)) → ixf L k i = some p →
    i ≤ p.1 ∧ (es[p.1 - i]?).map (·.key) = some (.int q k) ∧ (es.modify (p.1 - i) fun e => { e with key := .int q k, val := f v }).map (fun e => (e.key, e.val)) = (up L k v).map (fun p => (Value.int q p.1, f p.2))
  | [], [], i, p, _, h => by cases h
  | [], _ :: _, _, _, h, _ => by simp at h
  | _ :: _, [], _, _, h, _ => by simp at h
  | e :: es, x :: L, i, p, h, hp => by
    rw [List.map_cons, List.map_cons, List.cons.injEq] at h
    obtain ⟨h1, h2⟩ := h
    rw [Prod.mk.injEq] at h1
    rw [ixf] at hp
    rw [up]
    by_cases e' : x.1 = k
    · rw [if_pos e'] at hp ⊢
      cases hp
      refine ⟨Nat.le_refl _, by simp [h1.1, e'], ?_⟩
      simp [List.modify, h2]
    · rw [if_neg e'] at hp ⊢
      obtain ⟨a, b, c⟩ := modify_map q f k v es L (i + 1) p h2 hp
      have e3 : p.1 - i = (p.1 - (i + 1)) + 1 := by omega
      refine ⟨by omega, by rw [e3]; simpa using b, ?_⟩
      rw [e3, List.modify_succ_cons, List.map_cons, List.map_cons, c, h1.1, h1.2]
theorem ixf_none {L : List (Int × α)} {k : Int} {i : Nat} : ixf L k i = none → k ∉ ks L := by
  intro h
  rw [← lk_none, ← ixf_lk L k i, h]
  rfl
theorem up_out : ∀ {L : List (Int × α)} {k : Int} {v : α}, k ∉ ks L → up L k v = L ++ [(k, v)]
  | [], _, _, _ => rfl
  | p :: l, k, v, h => by rw [up, if_neg (fun e => h (by simp [ks, e])), up_out (fun e => h (by simp [ks] at e ⊢; exact .inr e))]; rfl

/-- 'm[k] = v'. -/
theorem MapB.store {w : World} {b : Nat} {q : IntKind} {f : α → Value} {L : List (Int × α)} (h : MapB w b q f L) {t k e : TypeId} (ht : Try.prog.underlying t = some (.map k e)) (hk : Try.prog.underlying k = some (.int q)) (x : Int) (v : α) :
    ∃ w', (Instr.mapUpdate t (.map (some b)) (.int q x) (f v)).run Try.prog w = .ok () w' ∧ MapB w' b q f (up L x v) ∧ Rest b w w' := by
  have hlt := h.lt
  obtain ⟨es, cl, hb, he, h3, h4⟩ := h.ex
  have hf := findNow_is q f x es.toList L 0 he
  cases hx : ixf L x 0 with
  | none =>
    refine ⟨setBlock w b (.map (es.push { key := .int q x, val := f v, born := cl }) (cl + 1)), ?_, ⟨_, _, setBlock_at hlt _, ?_, ?_, ?_⟩, Rest.block' _ _ _⟩
    · simp only [Instr.mapUpdate, Sem.run_bind, run_underlying ht, Result.andThen_ok, getObj_at hb, Sem.run_pure, check_int hk, Instr.findKey, run_underlying hk, hf, hx]
      simp [setObj_map hb]
    · rw [up_out (ixf_none hx)]
      simp [he]
    · simp only [Array.toList_push, List.map_append, List.map_cons, List.map_nil]
      rw [List.pairwise_append]
      refine ⟨h3, by simp, fun a ha c hc => ?_⟩
      obtain ⟨u, hu, rfl⟩ := List.mem_map.1 ha
      simp at hc
      subst hc
      exact h4 u hu
    · intro u hu
      simp only [Array.toList_push, List.mem_append, List.mem_singleton] at hu
      rcases hu with hu | rfl
      · have := h4 u hu; omega
      · exact Nat.lt_succ_self _
  | some p =>
    obtain ⟨_, m1, m2⟩ := modify_map q f x v es.toList L 0 p he hx
    rw [Nat.sub_zero] at m1 m2
    rw [Array.getElem?_toList] at m1
    have hbo : (es.modify p.1 fun e => { e with key := .int q x, val := f v }).toList.map (·.born) = es.toList.map (·.born) := by
      rw [Array.toList_modify]
      apply List.ext_getElem?
      intro i
      simp only [List.getElem?_map, List.getElem?_modify]
      cases es.toList[i]? with
      | none => rfl
      | some u => by_cases e : p.1 = i <;> simp [e]
    refine ⟨setBlock w b (.map (es.modify p.1 fun e => { e with key := .int q x, val := f v }) cl), ?_, ⟨_, _, setBlock_at hlt _, ?_, ?_, ?_⟩, Rest.block' _ _ _⟩
    · simp only [Instr.mapUpdate, Sem.run_bind, run_underlying ht, Result.andThen_ok, getObj_at hb, Sem.run_pure, check_int hk, Instr.findKey, run_underlying hk, hf, hx, Option.map_some, m1, Option.getD_some, stays_int]
      simp [setObj_map hb]
    · rw [Array.toList_modify]; exact m2
    · rw [hbo]; exact h3
    · intro u hu
      have : u.born ∈ es.toList.map (·.born) := by rw [← hbo]; exact List.mem_map.2 ⟨u, hu, rfl⟩
      obtain ⟨y, hy, e⟩ := List.mem_map.1 this
      rw [← e]; exact h4 y hy

theorem erase_map (q : IntKind) (f : α → Value) (k : Int) : ∀ (es : List MapEntry) (L : List (Int × α)) (i : Nat) (p : Nat × α), es.map (fun e => (e.key, e.val)) = L.map (fun p => (Value.int q p.1, f p.2)) → ixf L k i = some p →
    i ≤ p.1 ∧ p.1 - i < es.length ∧ (es.eraseIdx (p.1 - i)).map (fun e => (e.key, e.val)) = (dl L k).map (fun p => (Value.int q p.1, f p.2))
  | [], [], i, p, _, h => by cases h
  | [], _ :: _, _, _, h, _ => by simp at h
  | _ :: _, [], _, _, h, _ => by simp at h
  | e :: es, x :: L, i, p, h, hp => by
    rw [List.map_cons, List.map_cons, List.cons.injEq] at h
    obtain ⟨h1, h2⟩ := h
    rw [ixf] at hp
    rw [dl]
    by_cases e' : x.1 = k
    · rw [if_pos e'] at hp ⊢
      cases hp
      simp [h2]
    · rw [if_neg e'] at hp ⊢
      obtain ⟨a, b, c⟩ := erase_map q f k es L (i + 1) p h2 hp
      have e3 : p.1 - i = (p.1 - (i + 1)) + 1 := by omega
      refine ⟨by omega, by rw [e3]; simpa using b, ?_⟩
      rw [e3, List.eraseIdx_cons_succ, List.map_cons, List.map_cons, c, h1]
/-- 'delete(m, k)'. -/
theorem MapB.drop {w : World} {b : Nat} {q : IntKind} {f : α → Value} {L : List (Int × α)} (h : MapB w b q f L) {t k e : TypeId} (ht : Try.prog.underlying t = some (.map k e)) (hk : Try.prog.underlying k = some (.int q)) (x : Int) (ty : TypeId) :
    ∃ w', (Builtin.delete_ #[t, k] ty #[.map (some b), .int q x]).run Try.prog w = .ok (.tuple #[]) w' ∧ MapB w' b q f (dl L x) ∧ Rest b w w' := by
  have hlt := h.lt
  obtain ⟨es, cl, hb, he, h3, h4⟩ := h.ex
  have hf := findNow_is q f x es.toList L 0 he
  cases hx : ixf L x 0 with
  | none =>
    refine ⟨setBlock w b (.map es cl), ?_, ⟨_, _, setBlock_at hlt _, ?_, h3, h4⟩, Rest.block' _ _ _⟩
    · simp only [Builtin.delete_, List.getElem?_toArray, List.getElem?_cons_zero, List.getElem?_cons_succ, Sem.run_bind, run_underlying ht, Result.andThen_ok, getObj_at hb, Sem.run_pure, check_int hk, Instr.findKey, run_underlying hk, hf, hx, Option.map_none, setObj_map hb]
    · rw [dl_out (ixf_none hx)]; exact he
  | some p =>
    obtain ⟨_, m1, m2⟩ := erase_map q f x es.toList L 0 p he hx
    rw [Nat.sub_zero] at m1 m2
    rw [Array.length_toList] at m1
    have hE : (es.eraseIdxIfInBounds p.1).toList = es.toList.eraseIdx p.1 := by simp [Array.eraseIdxIfInBounds, m1]
    have hs : (es.toList.eraseIdx p.1).Sublist es.toList := List.eraseIdx_sublist _ _
    refine ⟨setBlock w b (.map (es.eraseIdxIfInBounds p.1) cl), ?_, ⟨_, _, setBlock_at hlt _, ?_, ?_, ?_⟩, Rest.block' _ _ _⟩
    · simp only [Builtin.delete_, List.getElem?_toArray, List.getElem?_cons_zero, List.getElem?_cons_succ, Sem.run_bind, run_underlying ht, Result.andThen_ok, getObj_at hb, Sem.run_pure, check_int hk, Instr.findKey, run_underlying hk, hf, hx, Option.map_some, setObj_map hb]
    · rw [hE]; exact m2
    · rw [hE]; exact h3.sublist (hs.map _)
    · intro u hu
      rw [hE] at hu
      exact h4 u (hs.subset hu)
theorem MapB.len {w : World} {b : Nat} {q : IntKind} {f : α → Value} {L : List (Int × α)} (h : MapB w b q f L) {t k e : TypeId} (ht : Try.prog.underlying t = some (.map k e)) (ty : TypeId) :
    (Builtin.len_ #[t] ty #[.map (some b)]).run Try.prog w = .ok (.int .i64 (L.length : Int)) w := by
  obtain ⟨es, cl, hb, he, _⟩ := h.ex
  have := congrArg List.length he
  rw [List.length_map, List.length_map, Array.length_toList] at this
  rw [← this]
  simp [Builtin.len_, run_underlying ht, getObj_at hb, goInt]
theorem len_nilmap {t k e : TypeId} (ht : Try.prog.underlying t = some (.map k e)) (ty : TypeId) (w : World) : (Builtin.len_ #[t] ty #[.map none]).run Try.prog w = .ok (.int .i64 0) w := by
  simp [Builtin.len_, run_underlying ht, goInt]
end

end Go.Proofs.Ytmfoenhbldacfaa
