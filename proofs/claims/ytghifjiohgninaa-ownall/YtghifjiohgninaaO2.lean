/- The walks of 'own.Strip' and 'own.Flows', at tags that rise, and of 'quarantineref1.May'. -/
import Derived.Test.YtghifjiohgninaaO1
namespace Go.Proofs.Ytghifjiohgninaa
open Go.RowKit
set_option linter.unusedVariables false

theorem refMay_b (ao : Option Addr) (n c : Nat) (xs : List Int) (w : World) (h : Rd .u16 w ao n c xs) :
    Calls Try.prog 7 #[.slice ao n c] w fun e w' => e = .returned (.bool (mayB xs)) ∧ Below w.heap.size w w' := refMay_any ao n c xs w h

set_option maxRecDepth 100000 in
theorem strip_any (ao bo : Option Addr) (n c m d : Nat) (A B : List Int) (w : World) (ha : Rd .u16 w ao n c A) (hb : Rd .u16 w bo m d B) (ra : risesB A = true) (rb : risesB B = true) (hn : n ≤ 100) (hm : m ≤ 100) :
    Calls Try.prog 14 #[.slice ao n c, .slice bo m d] w fun e w' => ∃ oo p q, e = .returned (.slice oo p q) ∧ Rd .u16 w' oo p q (minusL A B) ∧ Below w.heap.size w w' := by
  have hal : Below w.heap.size w (w.alloc (.cells #[.slice bo m d] 23)) := (Below.refl w.heap.size w).alloc (Nat.le_refl _) _
  have hc : (w.alloc (.cells #[.slice bo m d] 23)).cell? ⟨w.heap.size, 0, none⟩ = some (.slice bo m d) := by simp [World.cell?_alloc_at]
  have HL := left_one ao bo n c m d w.heap.size A B _ (ha.later hal) (hb.later hal) ra rb hn hm hc
  replace HL : Hid _ := HL
  go_enter Try.func14, Try.ntmps14
  go_wp2_with fail
  refine Calls.mono HL.out ?_
  rintro e w1 ⟨oo, p, q, rfl, hr, hb1⟩
  go_wp2
  go_ret
  exact ⟨oo, p, q, rfl, hr, hal.trans (hb1.mono (by simp))⟩

/-- Does A, without O, flow to B? -/
def flB (A B O : List Int) : Bool := decide ((minusL (minusL A O) B).length = 0)

set_option maxRecDepth 100000 in
theorem ownFlows_any (ao bo co : Option Addr) (n c m d l f : Nat) (A B O : List Int) (w : World) (ha : Rd .u16 w ao n c A) (hb : Rd .u16 w bo m d B) (ho : Rd .u16 w co l f O) (ra : risesB A = true) (rb : risesB B = true) (ro : risesB O = true) (hn : n ≤ 100) (hm : m ≤ 100) (hl : l ≤ 100) :
    Calls Try.prog 10 #[.slice ao n c, .slice bo m d, .slice co l f] w fun e w' => e = .returned (.bool (flB A B O)) ∧ Below w.heap.size w w' := by
  have hal : Below w.heap.size w (w.alloc (.cells #[.slice co l f, .slice bo m d] 23)) := (Below.refl w.heap.size w).alloc (Nat.le_refl _) _
  have hc0 : (w.alloc (.cells #[.slice co l f, .slice bo m d] 23)).cell? ⟨w.heap.size, 0, none⟩ = some (.slice co l f) := by simp [World.cell?_alloc_at]
  have hc1 : (w.alloc (.cells #[.slice co l f, .slice bo m d] 23)).cell? ⟨w.heap.size, 1, none⟩ = some (.slice bo m d) := by simp [World.cell?_alloc_at]
  have HL := left_two ao co bo n c l f m d w.heap.size A O B _ (ha.later hal) (ho.later hal) (hb.later hal) ra ro rb hn hl hm hc0 hc1
  replace HL : Hid _ := HL
  go_enter Try.func10, Try.ntmps10
  go_wp2_with fail
  refine Calls.mono HL.out ?_
  rintro e w1 ⟨oo, p, q, rfl, hr, hb1⟩
  go_wp2
  go_ret
  refine ⟨ret_bool ?_, hal.trans (hb1.mono (by simp))⟩
  unfold flB; rw [hr.len, Bool.eq_iff_iff]; simp

theorem mem_nil_iff {xs : List Int} : xs.length = 0 ↔ ∀ z, z ∉ xs := by
  rw [List.length_eq_zero_iff, List.eq_nil_iff_forall_not_mem]

/-- To flow without what is owned: each tag is owned, or there. -/
theorem fl_iff {A B O : List Int} (ra : risesB A = true) (rb : risesB B = true) (ro : risesB O = true) (h1 : A.length ≤ 100) (h2 : B.length ≤ 100) (h3 : O.length ≤ 100) : flB A B O = true ↔ ∀ z ∈ A, z ∈ O ∨ z ∈ B := by
  have r2 := minus_rises ra ro (by omega)
  have l2 := minus_len ra ro (by omega)
  unfold flB
  rw [decide_eq_true_iff, mem_nil_iff]
  constructor
  · intro h z hz
    have := h z
    rw [mem_minus (up_of_rises r2) (up_of_rises rb) (by omega), mem_minus (up_of_rises ra) (up_of_rises ro) (by omega)] at this
    by_cases e1 : z ∈ O
    · exact .inl e1
    · by_cases e2 : z ∈ B
      · exact .inr e2
      · exact absurd ⟨⟨hz, e1⟩, e2⟩ this
  · intro h z
    rw [mem_minus (up_of_rises r2) (up_of_rises rb) (by omega), mem_minus (up_of_rises ra) (up_of_rises ro) (by omega)]
    rintro ⟨⟨hz, e1⟩, e2⟩
    rcases h z hz with e | e
    · exact e1 e
    · exact e2 e

end Go.Proofs.Ytghifjiohgninaa
