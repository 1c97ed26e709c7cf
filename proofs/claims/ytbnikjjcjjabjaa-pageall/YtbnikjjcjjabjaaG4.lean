/- The document's slots in memory: a list of records, nil where none is. -/
import Derived.Test.YtbnikjjcjjabjaaG3
import Derived.Maps.AppendAt
namespace Go.Proofs.Ytbnikjjcjjabjaa
open Go.RowKit
set_option linter.unusedVariables false

theorem ty_eq {A A' : Array Value} {t t' : TypeId} (h : some (Obj.cells A t (0, 0)) = some (Obj.cells A' t' (0, 0))) : t = t' := by injection h with h; injection h with _ h
/-- A value that is the record b: nil if b has no bytes, else bytes of the call's own, in a block that is not barred. -/
def BV (W w : World) (bad : Nat → Prop) (v : Value) (b : List Int) : Prop :=
  (b = [] ∧ v = .slice none 0 0) ∨ (b ≠ [] ∧ ∃ x, v = .slice (some ⟨x, 0, none⟩) b.length b.length ∧ Bx8 W w x b ∧ ¬ bad x)
/-- Block q holds a list of records, in a row of the call's own from B on. -/
structure Sl (B : Nat) (W w : World) (q : Nat) (R : List (List Int)) (bad : Nat → Prop) : Prop where
  own : B ≤ q
  row : ∃ v vs, w.heap[q]? = some (.cells #[v] 29 (0, 0)) ∧ w.ownsRow B 32 1 v R.length vs ∧ ∀ i, i < R.length → ∃ u, vs[i]? = some u ∧ BV W w bad u (rc R i)
theorem Sl.base {B B' : Nat} {W w : World} {q : Nat} {R : List (List Int)} {bad : Nat → Prop} (h : Sl B W w q R bad) (k : B' ≤ B) : Sl B' W w q R bad := by
  obtain ⟨v, vs, h1, h2, h3⟩ := h.row
  exact ⟨Nat.le_trans k h.own, v, vs, h1, owns_base h2 k, h3⟩
theorem Sl.bar {B : Nat} {W w : World} {q : Nat} {R : List (List Int)} {bad bad' : Nat → Prop} (h : Sl B W w q R bad) (k : ∀ x, x < w.heap.size → bad' x → bad x) : Sl B W w q R bad' := by
  obtain ⟨v, vs, h1, h2, h3⟩ := h.row
  refine ⟨h.own, v, vs, h1, h2, fun i hi => ?_⟩
  obtain ⟨u, e, hu⟩ := h3 i hi
  refine ⟨u, e, hu.imp id ?_⟩
  rintro ⟨hb, x, hv, hx, hn⟩
  exact ⟨hb, x, hv, hx, fun hb' => hn (k x hx.lt hb')⟩
theorem Sl.lt {B : Nat} {W w : World} {q : Nat} {R : List (List Int)} {bad : Nat → Prop} (h : Sl B W w q R bad) : q < w.heap.size := by
  obtain ⟨v, vs, h1, h2, h3⟩ := h.row
  exact (Array.getElem?_eq_some_iff.1 h1).1
/-- What keeps the blocks of those kinds (bytes: those that are not barred) keeps the list. -/
theorem Sl.keep {B : Nat} {W w w' : World} {q : Nat} {R : List (List Int)} {bad : Nat → Prop} (h : Sl B W w q R bad)
    (k : ∀ b o, w.heap[b]? = some o → (∃ A, o = .cells A 29 (0, 0)) ∨ (∃ A, o = .cells A 32 (0, 0)) ∨ ((∃ A, o = .cells A 5 (0, 0)) ∧ ¬ bad b) → w'.heap[b]? = w.heap[b]?) : Sl B W w' q R bad := by
  obtain ⟨v, vs, h1, h2, h3⟩ := h.row
  refine ⟨h.own, v, vs, by rw [k q _ h1 (.inl ⟨_, rfl⟩)]; exact h1, ⟨h2.1, h2.2.imp id ?_⟩, fun i hi => ?_⟩
  · rintro ⟨g, cap, cur, e1, e2, e3, e4⟩
    exact ⟨g, cap, cur, e1, e2, by rw [k g _ e3 (.inr (.inl ⟨_, rfl⟩))]; exact e3, e4⟩
  · obtain ⟨u, e, hu⟩ := h3 i hi
    refine ⟨u, e, hu.imp id ?_⟩
    rintro ⟨hb, x, hv, hx, hn⟩
    exact ⟨hb, x, hv, ⟨by rw [k x _ hx.row (.inr (.inr ⟨⟨_, rfl⟩, hn⟩))]; exact hx.row, hx.own⟩, hn⟩
theorem Sl.later {B : Nat} {W w w' : World} {q : Nat} {R : List (List Int)} {bad : Nat → Prop} (h : Sl B W w q R bad) (hb : Below w.heap.size w w') : Sl B W w' q R bad :=
  h.keep fun b o e _ => hb.block b (Array.getElem?_eq_some_iff.1 e).1
theorem Sl.rest {B : Nat} {W w w' : World} {q g : Nat} {R : List (List Int)} {bad : Nat → Prop} (h : Sl B W w q R bad) (hr : Rest g w w') {A : Array Value} {t : TypeId} (hg : w.heap[g]? = some (.cells A t (0, 0))) (ht : t ≠ 29 ∧ t ≠ 32 ∧ (t = 5 → bad g)) : Sl B W w' q R bad :=
  h.keep fun b o e k => hr.block b (Array.getElem?_eq_some_iff.1 e).1 (by
    rintro rfl
    rw [hg] at e
    cases e
    rcases k with ⟨A', k⟩ | ⟨A', k⟩ | ⟨⟨A', k⟩, k2⟩
    · cases k; exact ht.1 rfl
    · cases k; exact ht.2.1 rfl
    · cases k; exact k2 (ht.2.2 rfl))
/-- What the walks load. -/
theorem Sl.cells {B : Nat} {W w : World} {q : Nat} {R : List (List Int)} {bad : Nat → Prop} (h : Sl B W w q R bad) : ∃ ao c, w.cell? ⟨q, 0, none⟩ = some (.slice ao R.length c) ∧ (∀ v, (w.setCell ⟨q, 0, none⟩ v).heap[q]? = some (.cells #[v] 29 (0, 0))) ∧ w.frozen? ⟨q, 0, none⟩ = false ∧ R.length ≤ c ∧ c ≤ 9223372036854775807 ∧ (0 < R.length → ∃ r, ao = some ⟨r, 0, none⟩ ∧ ∀ i, i < R.length → ∃ u, w.cell? ⟨r, i, none⟩ = some u ∧ BV W w bad u (rc R i)) := by
  obtain ⟨v, vs, h1, h2, h3⟩ := h.row
  have f1 : w.frozen? ⟨q, 0, none⟩ = false := by unfold World.frozen?; rw [h1]; rfl
  have f2 : ∀ v, (w.setCell ⟨q, 0, none⟩ v).heap[q]? = some (.cells #[v] 29 (0, 0)) := fun v => by simp [World.setCell, Array.getElem?_modify, h1]
  rcases h2.2 with ⟨rfl, h0⟩ | ⟨g, cap, cur, rfl, e2, e3, e4, e5, e6, e7⟩
  · exact ⟨none, 0, by rw [cell_of_row _ _ _ _ _ _ h1]; simp [h0], f2, f1, by omega, by omega, fun hp => by omega⟩
  · refine ⟨_, cap, by rw [cell_of_row _ _ _ _ _ _ h1]; rfl, f2, f1, e4, by simpa [maxLen] using e5, fun _ => ⟨g, rfl, fun i hi => ?_⟩⟩
    obtain ⟨u, e, hu⟩ := h3 i hi
    refine ⟨u, ?_, hu⟩
    have := World.ownsRow.cellAt h2 i (by omega)
    rw [this]; exact e
/-- One record more, or another in a place. -/
theorem Sl.set {B : Nat} {W w : World} {q : Nat} {R : List (List Int)} {bad : Nat → Prop} (h : Sl B W w q R bad) {s : Nat} (hs : s < R.length) : ∃ r c, w.cell? ⟨q, 0, none⟩ = some (.slice (some ⟨r, 0, none⟩) R.length c) ∧ R.length ≤ c ∧ c ≤ 9223372036854775807 ∧ B ≤ r ∧ r < w.heap.size ∧ (∃ A, w.heap[r]? = some (.cells A 32 (0, 0))) ∧ (∃ u, w.cell? ⟨r, s, none⟩ = some u) ∧ w.frozen? ⟨r, s, none⟩ = false ∧
    ∀ v b, BV W w bad v b → Sl B W (w.setCell ⟨r, s, none⟩ v) q (R.set s b) bad := by
  obtain ⟨v, vs, h1, h2, h3⟩ := h.row
  rcases h2.2 with ⟨rfl, h0⟩ | ⟨g, cap, cur, rfl, e2, e3, e4, e5, e6, e7⟩
  · omega
  have hgl := (Array.getElem?_eq_some_iff.1 e3).1
  have hc : w.cell? ⟨g, s, none⟩ = cur[s]? := cell_of_row _ _ _ _ _ _ e3
  refine ⟨g, cap, by rw [cell_of_row _ _ _ _ _ _ h1]; rfl, e4, by simpa [maxLen] using e5, e2, hgl, ⟨_, e3⟩, ⟨cur[s]'(by omega), by rw [hc]; exact Array.getElem?_eq_getElem (by omega)⟩, by unfold World.frozen?; rw [e3]; rfl, fun v b hv => ?_⟩
  have hgq : g ≠ q := fun e => by rw [e, h1] at e3; cases e3
  have hset : (w.setCell ⟨g, s, none⟩ v).heap[g]? = some (.cells (cur.setIfInBounds s v) 32 (0, 0)) := by simp [World.setCell, Array.getElem?_modify, e3]
  have hoth : ∀ b, b ≠ g → (w.setCell ⟨g, s, none⟩ v).heap[b]? = w.heap[b]? := fun b hb => Below.heap_setCell _ _ _ _ hb
  have hlen : vs.length = R.length := by rw [h2.1, Nat.mul_one]
  have hBV : ∀ u b, BV W w bad u b → BV W (w.setCell ⟨g, s, none⟩ v) bad u b := fun u b hu => hu.imp id (by
    rintro ⟨hb, x, hv, hx, hn⟩
    exact ⟨hb, x, hv, ⟨by rw [hoth x (fun e => by have := hx.row; rw [e, e3] at this; exact absurd (ty_eq this) (by decide))]; exact hx.row, hx.own⟩, hn⟩)
  refine ⟨h.own, _, vs.set s v, by rw [hoth q (Ne.symm hgq)]; exact h1, ⟨by simp [hlen], .inr ⟨g, cap, _, by rw [List.length_set], e2, hset, by rw [List.length_set]; exact e4, e5, by rw [Array.size_setIfInBounds]; exact e6, ?_⟩⟩, fun i hi => ?_⟩
  · rw [List.length_set, Array.toList_setIfInBounds, List.take_set, e7]
  · rw [List.length_set] at hi
    by_cases e : i = s
    · subst e
      refine ⟨v, by rw [List.getElem?_set_self (by omega)], ?_⟩
      have : rc (R.set i b) i = b := by simp [rc, hi]
      rw [this]; exact hBV _ _ hv
    · obtain ⟨u, k, hu⟩ := h3 i hi
      refine ⟨u, by rw [List.getElem?_set_ne (Ne.symm e)]; exact k, ?_⟩
      have : rc (R.set s b) i = rc R i := by simp [rc, List.getElem?_set_ne (Ne.symm e)]
      rw [this]; exact hBV _ _ hu

/-- Another value for the list: a slice of the same row, of so many. -/
theorem Sl.cutTo {B : Nat} {W w : World} {q : Nat} {R : List (List Int)} {bad : Nat → Prop} (h : Sl B W w q R bad) {k : Nat} (hk : k ≤ R.length) {ao : Option Addr} {c : Nat} (hc : w.cell? ⟨q, 0, none⟩ = some (.slice ao R.length c)) (hp : 0 < R.length) : Sl B W (w.setCell ⟨q, 0, none⟩ (.slice ao k c)) q (R.take k) bad := by
  obtain ⟨v, vs, h1, h2, h3⟩ := h.row
  have hlen : (R.take k).length = k := by simp; omega
  have hset : (w.setCell ⟨q, 0, none⟩ (.slice ao k c)).heap[q]? = some (.cells #[.slice ao k c] 29 (0, 0)) := by simp [World.setCell, Array.getElem?_modify, h1]
  have hoth : ∀ b, b ≠ q → (w.setCell ⟨q, 0, none⟩ (.slice ao k c)).heap[b]? = w.heap[b]? := fun b hb => Below.heap_setCell _ _ _ _ hb
  rw [cell_of_row _ _ _ _ _ _ h1] at hc
  have hv : v = .slice ao R.length c := by simpa using hc
  subst hv
  rcases h2.2 with ⟨e, h0⟩ | ⟨g, cap, cur, e1, e2, e3, e4, e5, e6, e7⟩
  · omega
  cases e1
  have hgq : g ≠ q := fun e => by rw [e, h1] at e3; cases e3
  refine ⟨h.own, _, vs.take k, hset, ?_, fun i hi => ?_⟩
  · rw [hlen]
    refine ⟨by rw [List.length_take, h2.1]; omega, .inr ⟨g, c, cur, rfl, e2, by rw [hoth g hgq]; exact e3, by omega, e5, e6, ?_⟩⟩
    rw [← e7, List.take_take]; congr 1; omega
  · rw [hlen] at hi
    obtain ⟨u, k1, hu⟩ := h3 i (by omega)
    refine ⟨u, by rw [List.getElem?_take_of_lt hi]; exact k1, ?_⟩
    rw [rc_take hi]
    exact hu.imp id (by
      rintro ⟨hb, x, hv, hx, hn⟩
      exact ⟨hb, x, hv, ⟨by rw [hoth x (fun e => by have := hx.row; rw [e, h1] at this; exact absurd (ty_eq this) (by decide))]; exact hx.row, hx.own⟩, hn⟩)

theorem hasZ_neg {R : List (List Int)} {z : Int} (h : z < 0) : hasZ R z = false := by simp [hasZ]; omega
theorem hasS_any {B : Nat} {W w : World} {q : Nat} {R : List (List Int)} {bad : Nat → Prop} (h : Sl B W w q R bad) (z : Int) : Calls Try.prog 11 #[.pointer (some ⟨q, 0, none⟩), .int .i64 z] w fun e w' => e = .returned (.bool (hasZ R z)) ∧ w' = w := by
  obtain ⟨ao, c, hc, -, -, hlc, hcm, hcell⟩ := h.cells
  clear h
  by_cases h0 : z < 0
  · rw [hasZ_neg h0]
    have d0 : decide ((0 : Int) ≤ z) = false := decide_eq_false (by omega)
    have d1 : ¬ (0 : Int) ≤ z := by omega
    clear hcell
    go_enter Try.func11, Try.ntmps11
    go_wp2
    go_ret
    exact ⟨rfl, rfl⟩
  · obtain ⟨s, rfl⟩ : ∃ s : Nat, z = (s : Int) := ⟨z.toNat, by omega⟩
    rw [hasZ_nat]
    clear h0
    by_cases h1 : s < R.length
    · obtain ⟨r, rfl, hr⟩ := hcell (by omega)
      obtain ⟨u, hu, hv⟩ := hr s h1
      obtain ⟨n, hn⟩ : ∃ n, R.length = n := ⟨_, rfl⟩
      rw [hn] at hc h1 hlc
      have d2 : decide ((s : Int) < (n : Int)) = true := decide_eq_true (by omega)
      have d3 : (s : Int) < (n : Int) := by omega
      clear hcell hr hn
      rcases hv with ⟨e, rfl⟩ | ⟨e, x, rfl, -, -⟩
      · rw [e]
        go_enter Try.func11, Try.ntmps11
        go_wp2
        go_ret
        exact ⟨rfl, rfl⟩
      · rw [show (!(rc R s).isEmpty) = true from by simpa using e]
        go_enter Try.func11, Try.ntmps11
        go_wp2
        go_ret
        exact ⟨rfl, rfl⟩
    · rw [rc_out (by omega)]
      obtain ⟨n, hn⟩ : ∃ n, R.length = n := ⟨_, rfl⟩
      rw [hn] at hc h1 hlc
      have d2 : decide ((s : Int) < (n : Int)) = false := decide_eq_false (by omega)
      have d3 : ¬ (s : Int) < (n : Int) := by omega
      clear hcell hn
      go_enter Try.func11, Try.ntmps11
      go_wp2
      go_ret
      exact ⟨rfl, rfl⟩

theorem freeS_any {B : Nat} {W w : World} {q : Nat} {R : List (List Int)} {bad : Nat → Prop} (h : Sl B W w q R bad) (hl : R.length ≤ 1000) (hb : ∀ i, i < R.length → (rc R i).length ≤ 1000) : Calls Try.prog 29 #[.pointer (some ⟨q, 0, none⟩)] w fun e w' => e = .returned (.int .i64 (freeR R)) ∧ w' = w := by
  obtain ⟨ao, c, hc, -, -, hlc, hcm, hcell⟩ := h.cells
  clear h
  have ht : ∀ k, k ≤ R.length → (tot (R.take k) : Int) ≤ 1000 * k := by
    intro k
    induction k with
    | zero => intro _; simp [tot]
    | succ k ih =>
      intro hk
      have := ih (by omega)
      rw [tot_take_succ]
      have := hb k (by omega)
      omega
  have hend : R.take R.length = R := List.take_length
  have hfr : Hid (freeR R = 248 - 4 * (R.length : Int) - (tot (R.take R.length) : Int)) := by rw [hend]; rfl
  clear hend
  obtain ⟨n, hn⟩ : ∃ n, R.length = n := ⟨_, rfl⟩
  rw [hn] at hc hlc hcell ht hl hfr hb
  replace ht : Hid _ := ht
  replace hb : Hid _ := hb
  have hm4 : IntKind.i64.wrap (4 * (n : Int)) = 4 * (n : Int) := by rw [IntKind.wrap_i64]; omega
  clear hn
  replace hcell : Hid _ := hcell
  go_enter Try.func29, Try.ntmps29
  go_wp2
  go_loop [3, 4] (fun f i => ∃ k : Nat, k ≤ n ∧ i = .int .i64 (k : Int) ∧ f = .int .i64 (248 - 4 * (n : Int) - (tot (R.take k) : Int))) (fun f i => n - (intOf i).toNat)
  case atStart => exact ⟨0, by omega, rfl, by simp [tot]⟩
  case round =>
    obtain ⟨k, hk, rfl, rfl⟩ := hrel
    by_cases hlt : k < n
    · obtain ⟨r, rfl, hr⟩ := hcell.out (by omega)
      obtain ⟨u, hu, hv⟩ := hr k hlt
      have h4 := ht.out k hk
      have h5 := hb.out k hlt
      have h6 : (tot (R.take (k + 1)) : Int) = tot (R.take k) + (rc R k).length := by rw [tot_take_succ]; omega
      obtain ⟨T, hT⟩ : ∃ T, tot (R.take k) = T := ⟨_, rfl⟩
      obtain ⟨l, hl2⟩ : ∃ l, (rc R k).length = l := ⟨_, rfl⟩
      rw [hT] at h4 h6 ⊢
      rw [hl2] at h5 h6
      have hlen : ∃ a, u = .slice a l l := by
        rcases hv with ⟨e, rfl⟩ | ⟨e, x, rfl, -, -⟩
        · rw [e] at hl2; obtain rfl : 0 = l := hl2; exact ⟨none, rfl⟩
        · exact ⟨_, by rw [hl2]⟩
      obtain ⟨a, rfl⟩ := hlen
      replace h6 : Hid _ := h6
      clear hv hr hl2 hT
      go_wp2
      go_round
      case rel => exact ⟨k + 1, hlt, by go_num, by rw [h6.out]; congr 1; omega⟩
      case measure => simp [intOf]; omega
    · obtain rfl : k = n := by omega
      go_wp2
      go_ret
      exact ⟨by rw [hfr.out]; rfl, rfl⟩

end Go.Proofs.Ytbnikjjcjjabjaa
