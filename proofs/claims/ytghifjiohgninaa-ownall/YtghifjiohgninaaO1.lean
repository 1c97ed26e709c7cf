/- The walks of package own: 'left' at one and at two lists, 'Strip', 'Flows', at tags that rise. -/
import Derived.Test.YtghifjiohgninaaLatF
import Derived.LoopN
namespace Go.Proofs.Ytghifjiohgninaa
open Go.RowKit
set_option linter.unusedVariables false

theorem minus_l (ao bo : Option Addr) (n c m d : Nat) (A B : List Int) (w : World) (ha : Rd .u16 w ao n c A) (hb : Rd .u16 w bo m d B) (ra : risesB A = true) (rb : risesB B = true) (hn : n ≤ 100) (hm : m ≤ 100) :
    Calls Try.prog 19 #[.slice ao n c, .slice bo m d] w fun e w' => ∃ oo p q, e = .returned (.slice oo p q) ∧ Rd .u16 w' oo p q (minusL A B) ∧ Below w.heap.size w w' :=
  minus_any ao bo n c m d A B w ha hb ra rb hn hm

theorem minus_rises {A B : List Int} (ra : risesB A = true) (rb : risesB B = true) (hl : A.length + B.length < 300) : risesB (minusL A B) = true :=
  rises_of_up (up_merge (up_of_rises ra) (up_of_rises rb) hl)

theorem minus_len {A B : List Int} (ra : risesB A = true) (rb : risesB B = true) (hl : A.length + B.length < 300) : (minusL A B).length ≤ A.length := by
  have := count_merge (up_of_rises ra) (up_of_rises rb) hl
  unfold minusL; omega

set_option maxRecDepth 100000 in
set_option maxHeartbeats 1000000 in
theorem left_one (ao bo : Option Addr) (n c m d g : Nat) (A B : List Int) (w : World) (ha : Rd .u16 w ao n c A) (hb : Rd .u16 w bo m d B) (ra : risesB A = true) (rb : risesB B = true) (hn : n ≤ 100) (hm : m ≤ 100)
    (hc : w.cell? ⟨g, 0, none⟩ = some (.slice bo m d)) :
    Calls Try.prog 18 #[.func (.func 19) #[] #[], .slice ao n c, .slice (some ⟨g, 0, none⟩) 1 1] w fun e w' => ∃ oo p q, e = .returned (.slice oo p q) ∧ Rd .u16 w' oo p q (minusL A B) ∧ Below w.heap.size w w' := by
  go_enter Try.func18, Try.ntmps18
  go_wp2
  refine wp_loop_rounds 2 ?_
  rw [rounds_succ]
  go_wp2_with fail
  refine Calls.mono (minus_l ao bo n c m d A B w ha hb ra rb hn hm) ?_
  rintro e w1 ⟨oo, p, q, rfl, hr, hb1⟩
  go_wp2
  rw [rounds_succ]
  go_wp2
  go_ret
  exact ⟨oo, p, q, rfl, hr, hb1⟩

set_option maxRecDepth 100000 in
set_option maxHeartbeats 1000000 in
theorem left_two (ao bo co : Option Addr) (n c m d l f g : Nat) (A B C : List Int) (w : World) (ha : Rd .u16 w ao n c A) (hb : Rd .u16 w bo m d B) (hC : Rd .u16 w co l f C) (ra : risesB A = true) (rb : risesB B = true) (rc : risesB C = true) (hn : n ≤ 100) (hm : m ≤ 100) (hl : l ≤ 100)
    (hc0 : w.cell? ⟨g, 0, none⟩ = some (.slice bo m d)) (hc1 : w.cell? ⟨g, 1, none⟩ = some (.slice co l f)) :
    Calls Try.prog 18 #[.func (.func 19) #[] #[], .slice ao n c, .slice (some ⟨g, 0, none⟩) 2 2] w fun e w' => ∃ oo p q, e = .returned (.slice oo p q) ∧ Rd .u16 w' oo p q (minusL (minusL A B) C) ∧ Below w.heap.size w w' := by
  have la := ha.len
  have lb := hb.len
  have lc := hC.len
  have r2 := minus_rises ra rb (by omega)
  have l2 := minus_len ra rb (by omega)
  go_enter Try.func18, Try.ntmps18
  go_wp2
  refine wp_loop_rounds 3 ?_
  rw [rounds_succ]
  go_wp2_with fail
  refine Calls.mono (minus_l ao bo n c m d A B w ha hb ra rb hn hm) ?_
  rintro e w1 ⟨oo, p, q, rfl, hr, hb1⟩
  have lp := hr.len
  have hc2 := cell_later hb1 hc1
  go_wp2
  rw [rounds_succ]
  go_wp2_with fail
  refine Calls.mono (minus_l oo co p q l f (minusL A B) C w1 hr (hC.later hb1) r2 rc (by omega) hl) ?_
  rintro e w2 ⟨oo2, p2, q2, rfl, hr2, hb2⟩
  go_wp2
  rw [rounds_succ]
  go_wp2
  go_ret
  exact ⟨oo2, p2, q2, rfl, hr2, hb1.trans (hb2.mono hb1.size)⟩

end Go.Proofs.Ytghifjiohgninaa
