/- Plain facts on rising lists: what 'withinB', 'mergeF' and 'cmpL' come to. -/
import Derived.Test.YtghifjiohgninaaBegun
namespace Go.Proofs.Ytghifjiohgninaa
open Go.RowKit
set_option linter.unusedVariables false

def Up (xs : List Int) : Prop := xs.Pairwise (· < ·)

theorem up_of_rises {xs : List Int} (h : risesB xs = true) : Up xs := by
  induction xs with
  | nil => exact List.Pairwise.nil
  | cons x r ih =>
    cases r with
    | nil => exact List.pairwise_singleton _ _
    | cons y r =>
      rw [risesB, Bool.and_eq_true, decide_eq_true_iff] at h
      have hu := ih h.2
      refine List.Pairwise.cons (fun z hz => ?_) hu
      rcases List.mem_cons.1 hz with rfl | hz
      · exact h.1
      · exact Int.lt_trans h.1 ((List.pairwise_cons.1 hu).1 z hz)

theorem rises_of_up {xs : List Int} (h : Up xs) : risesB xs = true := by
  induction xs with
  | nil => rfl
  | cons x r ih =>
    cases r with
    | nil => rfl
    | cons y r =>
      rw [risesB, Bool.and_eq_true, decide_eq_true_iff]
      have h' := List.pairwise_cons.1 h
      exact ⟨h'.1 y (by simp), ih h'.2⟩

theorem within_iff : ∀ {xs ys : List Int}, Up xs → Up ys → (withinB xs ys = true ↔ ∀ x ∈ xs, x ∈ ys) := by
  intro xs
  induction xs with
  | nil => intro ys _ _; simp [withinB]
  | cons x xs ih =>
    intro ys hx hy
    have hx' := List.pairwise_cons.1 hx
    induction ys with
    | nil => exact ⟨fun H => (by rw [withinB_end] at H; exact absurd H Bool.false_ne_true), fun H => absurd (H x (by simp)) (by simp)⟩
    | cons y r ihy =>
      have hy' := List.pairwise_cons.1 hy
      rcases (by omega : y < x ∨ y = x ∨ x < y) with h | h | h
      · rw [withinB_skip _ _ h]
        have e0 := ihy hy'.2
        constructor
        · intro H z hz; exact List.mem_cons_of_mem _ (e0.1 H z hz)
        · intro H
          refine e0.2 fun z hz => ?_
          rcases List.mem_cons.1 (H z hz) with e | e
          · rcases List.mem_cons.1 hz with e2 | e2
            · omega
            · have := hx'.1 z e2; omega
          · exact e
      · subst h
        rw [withinB_hit]
        have e0 := ih hx'.2 hy
        constructor
        · intro H z hz
          rcases List.mem_cons.1 hz with e2 | e2
          · rw [e2]; simp
          · exact e0.1 H z e2
        · intro H
          exact e0.2 fun z hz => H z (List.mem_cons_of_mem _ hz)
      · rw [withinB_miss _ _ h]
        constructor
        · intro H; cases H
        · intro H
          have := H x (by simp)
          rcases List.mem_cons.1 this with e | e
          · omega
          · have := hy'.1 x e; omega

theorem within_eq {xs ys : List Int} (hx : Up xs) (hy : Up ys) : withinB xs ys = decide (∀ x ∈ xs, x ∈ ys) := by
  rw [Bool.eq_iff_iff, within_iff hx hy, decide_eq_true_iff]

theorem mem_pre {b : Bool} {x z : Int} {xs : List Int} : z ∈ pre b x xs ↔ (b = true ∧ z = x) ∨ z ∈ xs := by
  cases b <;> simp [pre]

/-- Which numbers are wanted. -/
def Want (l t r : Bool) (xs ys : List Int) (z : Int) : Prop := (l = true ∧ z ∈ xs ∧ z ∉ ys) ∨ (t = true ∧ z ∈ xs ∧ z ∈ ys) ∨ (r = true ∧ z ∉ xs ∧ z ∈ ys)

theorem mem_merge {l t r : Bool} : ∀ {f : Nat} {xs ys : List Int}, Up xs → Up ys → xs.length + ys.length < f → ∀ z, z ∈ mergeF l t r f xs ys ↔ Want l t r xs ys z := by
  intro f
  induction f with
  | zero => intro xs ys _ _ h; omega
  | succ f ih =>
    intro xs ys hx hy hf z
    cases xs with
    | nil => cases r <;> simp [mergeF, Want]
    | cons x xs =>
      cases ys with
      | nil => cases l <;> simp [mergeF, Want]
      | cons y ys =>
        have hx' := List.pairwise_cons.1 hx
        have hy' := List.pairwise_cons.1 hy
        simp only [List.length_cons] at hf
        have hxn : ∀ z, z ∈ xs → x < z := hx'.1
        have hyn : ∀ z, z ∈ ys → y < z := hy'.1
        rcases (by omega : x < y ∨ x = y ∨ y < x) with h | h | h
        · rw [mergeF_lt _ _ h, mem_pre, ih hx'.2 hy (by simp; omega)]
          have k1 : x ∉ y :: ys := fun hm => by
            rcases List.mem_cons.1 hm with e | e
            · omega
            · have := hyn x e; omega
          have k2 : x ∉ xs := fun hm => by have := hxn x hm; omega
          unfold Want
          by_cases hz : z = x
          · subst hz; simp [k1, k2]
          · simp [hz]
        · subst h
          rw [mergeF_eq, mem_pre, ih hx'.2 hy'.2 (by omega)]
          have k1 : x ∉ ys := fun hm => by have := hyn x hm; omega
          have k2 : x ∉ xs := fun hm => by have := hxn x hm; omega
          unfold Want
          by_cases hz : z = x
          · subst hz; simp [k1, k2]
          · simp [hz]
        · rw [mergeF_gt _ _ h, mem_pre, ih hx hy'.2 (by simp; omega)]
          have k1 : y ∉ x :: xs := fun hm => by
            rcases List.mem_cons.1 hm with e | e
            · omega
            · have := hxn y e; omega
          have k2 : y ∉ ys := fun hm => by have := hyn y hm; omega
          unfold Want
          by_cases hz : z = y
          · subst hz; simp [k1, k2]
          · simp [hz]

theorem up_pre {b : Bool} {x : Int} {xs : List Int} (h : Up xs) (hx : ∀ z ∈ xs, x < z) : Up (pre b x xs) := by
  cases b
  · exact h
  · exact List.Pairwise.cons hx h

theorem up_merge {l t r : Bool} : ∀ {f : Nat} {xs ys : List Int}, Up xs → Up ys → xs.length + ys.length < f → Up (mergeF l t r f xs ys) := by
  intro f
  induction f with
  | zero => intro xs ys _ _ h; omega
  | succ f ih =>
    intro xs ys hx hy hf
    cases xs with
    | nil => cases r <;> simp [mergeF, Up]; exact hy
    | cons x xs =>
      cases ys with
      | nil => cases l <;> simp [mergeF, Up]; exact List.pairwise_cons.1 hx
      | cons y ys =>
        have hx' := List.pairwise_cons.1 hx
        have hy' := List.pairwise_cons.1 hy
        simp only [List.length_cons] at hf
        have hxn : ∀ z, z ∈ xs → x < z := hx'.1
        have hyn : ∀ z, z ∈ ys → y < z := hy'.1
        rcases (by omega : x < y ∨ x = y ∨ y < x) with h | h | h
        · rw [mergeF_lt _ _ h]
          refine up_pre (ih hx'.2 hy (by simp; omega)) fun z hz => ?_
          rcases (mem_merge hx'.2 hy (by simp; omega) z).1 hz with ⟨_, k, _⟩ | ⟨_, k, _⟩ | ⟨_, _, k⟩
          · exact hxn z k
          · exact hxn z k
          · rcases List.mem_cons.1 k with e | e
            · omega
            · have := hyn z e; omega
        · subst h
          rw [mergeF_eq]
          refine up_pre (ih hx'.2 hy'.2 (by omega)) fun z hz => ?_
          rcases (mem_merge hx'.2 hy'.2 (by omega) z).1 hz with ⟨_, k, _⟩ | ⟨_, k, _⟩ | ⟨_, _, k⟩
          · exact hxn z k
          · exact hxn z k
          · exact hyn z k
        · rw [mergeF_gt _ _ h]
          refine up_pre (ih hx hy'.2 (by simp; omega)) fun z hz => ?_
          rcases (mem_merge hx hy'.2 (by simp; omega) z).1 hz with ⟨_, k, _⟩ | ⟨_, k, _⟩ | ⟨_, _, k⟩
          · rcases List.mem_cons.1 k with e | e
            · omega
            · have := hxn z e; omega
          · rcases List.mem_cons.1 k with e | e
            · omega
            · have := hxn z e; omega
          · exact hyn z k

theorem up_ext : ∀ {xs ys : List Int}, Up xs → Up ys → (∀ z, z ∈ xs ↔ z ∈ ys) → xs = ys := by
  intro xs
  induction xs with
  | nil =>
    intro ys _ _ h
    cases ys with
    | nil => rfl
    | cons y r => have := (h y).2 (by simp); simp at this
  | cons x xs ih =>
    intro ys hx hy h
    cases ys with
    | nil => have := (h x).1 (by simp); simp at this
    | cons y ys =>
      have hx' := List.pairwise_cons.1 hx
      have hy' := List.pairwise_cons.1 hy
      have e : x = y := by
        have h1 := (h x).1 (by simp)
        have h2 := (h y).2 (by simp)
        rcases List.mem_cons.1 h1 with e | e
        · exact e
        · rcases List.mem_cons.1 h2 with e2 | e2
          · exact e2.symm
          · have := hy'.1 x e; have := hx'.1 y e2; omega
      subst e
      rw [ih hx'.2 hy'.2 fun z => ?_]
      have := h z
      simp only [List.mem_cons] at this
      constructor
      · intro k
        rcases this.1 (.inr k) with e | e
        · have := hx'.1 z k; omega
        · exact e
      · intro k
        rcases this.2 (.inr k) with e | e
        · have := hy'.1 z k; omega
        · exact e

theorem lexI_self (xs : List Int) : lexI xs xs = 0 := by
  induction xs with
  | nil => rfl
  | cons x xs ih => rw [lexI_eq]; exact ih

theorem cmpL_self (xs : List Int) : cmpL xs xs = 0 := by rw [cmpL_eq rfl]; exact lexI_self xs

/-- Of the numbers of the first, those of the second and those that are none of it are all. -/
theorem count_merge : ∀ {f : Nat} {xs ys : List Int}, Up xs → Up ys → xs.length + ys.length < f → (mergeF true false false f xs ys).length + (mergeF false true false f xs ys).length = xs.length := by
  intro f
  induction f with
  | zero => intro xs ys _ _ h; omega
  | succ f ih =>
    intro xs ys hx hy hf
    cases xs with
    | nil => simp [mergeF]
    | cons x xs =>
      cases ys with
      | nil => simp [mergeF]
      | cons y ys =>
        have hx' := List.pairwise_cons.1 hx
        have hy' := List.pairwise_cons.1 hy
        simp only [List.length_cons] at hf
        rcases (by omega : x < y ∨ x = y ∨ y < x) with h | h | h
        · rw [mergeF_lt _ _ h, mergeF_lt _ _ h]
          have := ih hx'.2 hy (by simp; omega)
          simp [pre] at this ⊢; omega
        · subst h
          rw [mergeF_eq, mergeF_eq]
          have := ih hx'.2 hy'.2 (by omega)
          simp [pre] at this ⊢; omega
        · rw [mergeF_gt _ _ h, mergeF_gt _ _ h]
          have := ih hx hy'.2 (by simp; omega)
          simp [pre] at this ⊢; omega

end Go.Proofs.Ytghifjiohgninaa
