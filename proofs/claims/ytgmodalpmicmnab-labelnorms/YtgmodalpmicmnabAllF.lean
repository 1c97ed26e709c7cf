/- The walk of 'quarantineref1.Join', and plain facts: the document's answers are the code's. -/
import Derived.Test.YtgmodalpmicmnabAll
import Derived.Test.YtgmodalpmicmnabLatF
namespace Go.Proofs.Ytgmodalpmicmnab
open Go.RowKit
set_option linter.unusedVariables false

theorem wpList_append_none2 {P : Program} {w : World} {ops : Array Oper} {rest : List Oper} {o : Oper} {a : Act} {Q : Exit → Act → World → Prop} (hgd : o.guard = none) (s x : Operand) (t t2 : TypeId)
    (ho : o.op = .call { callee := .builtin .append, args := #[s, x], argTypes := #[t, t2] })
    (base : Nat) (e e2 : TypeId) (i : TypeInfo) (size : Nat) (ht : P.underlying t = some (.slice e)) (ht2 : P.underlying t2 = some (.slice e2)) (hi : P.info? e = some i)
    (v : Value) (n : Nat) (xs : List Value) (hs : a.eval s = v) (hown : w.ownsRow base e size v n xs) (hx : a.eval x = .slice none 0 0)
    (h : wpList P ops Q rest (a.put o.dst v) w) : wpList P ops Q (o :: rest) a w := by
  refine wpList_plain hgd fun K hK => ?_
  have hrun := run_append_owned_none (P := P) (w := w) base t o.type e i size ht hi v n xs hown
  obtain ⟨ab, an, ac, hv⟩ : ∃ b n c, v = .slice b n c := by
    rcases hown.2 with ⟨hv, _⟩ | ⟨g, cap, cur, hv, _⟩
    · exact ⟨_, _, _, hv⟩
    · exact ⟨_, _, _, hv⟩
  rw [hv, ← append_types ht ht2, ← hv] at hrun
  unfold Oper.wp
  simp [execOp, ho, resolve, invoke, builtin, hs, hx, hrun, Result.andThen]
  exact hK _ _ h

theorem mem_insU {t z : Int} : ∀ {out : List Int}, z ∈ insU t out ↔ z = t ∨ z ∈ out := by
  intro out
  induction out with
  | nil => simp [insU]
  | cons y r ih =>
    rw [insU]
    split
    · rw [List.mem_cons, ih, List.mem_cons]
      constructor
      · rintro (h | h | h) <;> simp [h]
      · rintro (h | h | h) <;> simp [h]
    · split
      · rename_i h1 h2
        subst h2
        simp
      · simp

theorem up_insU {t : Int} : ∀ {out : List Int}, Up out → Up (insU t out) := by
  intro out
  induction out with
  | nil => intro _; exact List.pairwise_singleton _ _
  | cons y r ih =>
    intro h
    have h' := List.pairwise_cons.1 h
    rw [insU]
    split
    · rename_i h1
      refine List.Pairwise.cons (fun z hz => ?_) (ih h'.2)
      rcases mem_insU.1 hz with e | e
      · omega
      · exact h'.1 z e
    · split
      · exact h
      · rename_i h1 h2
        refine List.Pairwise.cons (fun z hz => ?_) h
        rcases List.mem_cons.1 hz with e | e
        · omega
        · have := h'.1 z e; omega

theorem all_fold : ∀ (l out : List Int), Up out → Up (l.foldl (fun out t => insU t out) out) ∧ ∀ z, z ∈ l.foldl (fun out t => insU t out) out ↔ z ∈ out ∨ z ∈ l := by
  intro l
  induction l with
  | nil => intro out h; exact ⟨h, fun z => by simp⟩
  | cons t r ih =>
    intro out h
    have := ih (insU t out) (up_insU h)
    refine ⟨this.1, fun z => ?_⟩
    rw [List.foldl_cons, this.2 z, mem_insU, List.mem_cons]
    constructor
    · rintro ((h | h) | h) <;> simp [h]
    · rintro (h | h | h) <;> simp [h]

theorem up_all (l : List Int) : Up (allL l) := (all_fold l [] List.Pairwise.nil).1
theorem mem_all (l : List Int) (z : Int) : z ∈ allL l ↔ z ∈ l := by
  have := (all_fold l [] List.Pairwise.nil).2 z
  rw [allL, this]; simp

theorem sameB_self (xs : List Int) : sameB xs xs = true := by rw [sameB, cmpL_self]; rfl
theorem sameB_of {xs ys : List Int} (h : xs = ys) : sameB xs ys = true := by rw [h]; exact sameB_self ys

theorem join_same {A B : List Int} (ha : Up A) (hb : Up B) (hl : A.length + B.length < 300) : joinL A B = allL (A ++ B) :=
  up_ext (up_merge ha hb hl) (up_all _) fun z => by rw [mem_join ha hb hl, mem_all, List.mem_append]

theorem up_filter {A : List Int} (h : Up A) (p : Int → Bool) : Up (A.filter p) := List.Pairwise.filter p h

theorem meet_same {A B : List Int} (ha : Up A) (hb : Up B) (hl : A.length + B.length < 300) : meetL A B = keepIn true A B :=
  up_ext (up_merge ha hb hl) (up_filter ha _) fun z => by rw [mem_meet ha hb hl]; simp [keepIn, inB]

theorem minus_same {A B : List Int} (ha : Up A) (hb : Up B) (hl : A.length + B.length < 300) : minusL A B = keepIn false A B :=
  up_ext (up_merge ha hb hl) (up_filter ha _) fun z => by rw [mem_minus ha hb hl]; simp [keepIn, inB]

theorem flows_same {A B : List Int} (ha : Up A) (hb : Up B) : withinB A B = allIn A B := by
  rw [Bool.eq_iff_iff, within_iff ha hb, allIn, List.all_eq_true]
  simp [inB]

end Go.Proofs.Ytgmodalpmicmnab
