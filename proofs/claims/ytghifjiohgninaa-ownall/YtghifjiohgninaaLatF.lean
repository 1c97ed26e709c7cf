/- Plain facts for the lattice of labels. -/
import Derived.Test.YtghifjiohgninaaLists
namespace Go.Proofs.Ytghifjiohgninaa
open Go.RowKit
set_option linter.unusedVariables false

/-- What may be a label. -/
def mayB (xs : List Int) : Bool := risesB xs && decide (xs.length ≤ 8)

theorem mayB_true {xs : List Int} (h : mayB xs = true) : risesB xs = true ∧ xs.length ≤ 8 := by
  rw [mayB, Bool.and_eq_true, decide_eq_true_iff] at h; exact h

def joinL (A B : List Int) : List Int := mergeF true true true 300 A B
def meetL (A B : List Int) : List Int := mergeF false true false 300 A B
def minusL (A B : List Int) : List Int := mergeF true false false 300 A B

theorem mem_join {A B : List Int} (ha : Up A) (hb : Up B) (hl : A.length + B.length < 300) (z : Int) : z ∈ joinL A B ↔ z ∈ A ∨ z ∈ B := by
  rw [joinL, mem_merge ha hb hl, Want]
  by_cases h1 : z ∈ A <;> by_cases h2 : z ∈ B <;> simp [h1, h2]
theorem mem_meet {A B : List Int} (ha : Up A) (hb : Up B) (hl : A.length + B.length < 300) (z : Int) : z ∈ meetL A B ↔ z ∈ A ∧ z ∈ B := by
  rw [meetL, mem_merge ha hb hl, Want]
  by_cases h1 : z ∈ A <;> by_cases h2 : z ∈ B <;> simp [h1, h2]
theorem mem_minus {A B : List Int} (ha : Up A) (hb : Up B) (hl : A.length + B.length < 300) (z : Int) : z ∈ minusL A B ↔ z ∈ A ∧ z ∉ B := by
  rw [minusL, mem_merge ha hb hl, Want]
  by_cases h1 : z ∈ A <;> by_cases h2 : z ∈ B <;> simp [h1, h2]

theorem within_refl {A : List Int} (ha : Up A) : withinB A A = true := (within_iff ha ha).2 fun _ h => h
theorem within_trans {A B C : List Int} (ha : Up A) (hb : Up B) (hc : Up C) (h1 : withinB A B = true) (h2 : withinB B C = true) : withinB A C = true :=
  (within_iff ha hc).2 fun z hz => (within_iff hb hc).1 h2 z ((within_iff ha hb).1 h1 z hz)
theorem within_anti {A B : List Int} (ha : Up A) (hb : Up B) (h1 : withinB A B = true) (h2 : withinB B A = true) : A = B :=
  up_ext ha hb fun z => ⟨(within_iff ha hb).1 h1 z, (within_iff hb ha).1 h2 z⟩

theorem join_facts {A B C : List Int} (ha : Up A) (hb : Up B) (hc : Up C) (hl : A.length + B.length < 300) :
    Up (joinL A B) ∧ withinB A (joinL A B) = true ∧ withinB B (joinL A B) = true ∧ withinB (joinL A B) C = (withinB A C && withinB B C) := by
  have hu : Up (joinL A B) := up_merge ha hb hl
  refine ⟨hu, (within_iff ha hu).2 fun z hz => (mem_join ha hb hl z).2 (.inl hz), (within_iff hb hu).2 fun z hz => (mem_join ha hb hl z).2 (.inr hz), ?_⟩
  rw [Bool.eq_iff_iff, Bool.and_eq_true, within_iff hu hc, within_iff ha hc, within_iff hb hc]
  constructor
  · intro H
    exact ⟨fun z hz => H z ((mem_join ha hb hl z).2 (.inl hz)), fun z hz => H z ((mem_join ha hb hl z).2 (.inr hz))⟩
  · intro H z hz
    rcases (mem_join ha hb hl z).1 hz with h | h
    · exact H.1 z h
    · exact H.2 z h

theorem meet_facts {A B C : List Int} (ha : Up A) (hb : Up B) (hc : Up C) (hl : A.length + B.length < 300) :
    Up (meetL A B) ∧ withinB (meetL A B) A = true ∧ withinB (meetL A B) B = true ∧ withinB C (meetL A B) = (withinB C A && withinB C B) := by
  have hu : Up (meetL A B) := up_merge ha hb hl
  refine ⟨hu, (within_iff hu ha).2 fun z hz => ((mem_meet ha hb hl z).1 hz).1, (within_iff hu hb).2 fun z hz => ((mem_meet ha hb hl z).1 hz).2, ?_⟩
  rw [Bool.eq_iff_iff, Bool.and_eq_true, within_iff hc hu, within_iff hc ha, within_iff hc hb]
  constructor
  · intro H
    exact ⟨fun z hz => ((mem_meet ha hb hl z).1 (H z hz)).1, fun z hz => ((mem_meet ha hb hl z).1 (H z hz)).2⟩
  · intro H z hz
    exact (mem_meet ha hb hl z).2 ⟨H.1 z hz, H.2 z hz⟩

theorem minus_facts {A B : List Int} (ha : Up A) (hb : Up B) (hl : A.length + B.length < 300) :
    (minusL A B).length + (meetL A B).length = A.length ∧ (decide ((minusL A B).length = 0)) = withinB A B := by
  refine ⟨count_merge ha hb hl, ?_⟩
  rw [Bool.eq_iff_iff, decide_eq_true_iff, within_iff ha hb]
  constructor
  · intro H z hz
    by_cases h : z ∈ B
    · exact h
    · have := (mem_minus ha hb hl z).2 ⟨hz, h⟩
      rw [List.eq_nil_of_length_eq_zero H] at this
      simp at this
  · intro H
    cases e : minusL A B with
    | nil => rfl
    | cons z r =>
      have hz : z ∈ minusL A B := by rw [e]; simp
      have := (mem_minus ha hb hl z).1 hz
      exact absurd (H z this.1) this.2

end Go.Proofs.Ytghifjiohgninaa
