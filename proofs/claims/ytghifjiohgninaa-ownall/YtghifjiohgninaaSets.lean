/- The walks of 'label.Join', 'label.Meet' and 'label.Minus' at tags that rise. -/
import Derived.Test.YtghifjiohgninaaMerge
namespace Go.Proofs.Ytghifjiohgninaa
open Go.RowKit
set_option linter.unusedVariables false

set_option maxHeartbeats 400000 in
theorem minus_any (ao bo : Option Addr) (n c m d : Nat) (xs ys : List Int) (w : World) (ha : Rd .u16 w ao n c xs) (hb : Rd .u16 w bo m d ys) (hx : risesB xs = true) (hy : risesB ys = true) (hn : n ≤ 100) (hm : m ≤ 100) :
    Calls Try.prog 19 #[.slice ao n c, .slice bo m d] w fun e w' => ∃ oo p q, e = .returned (.slice oo p q) ∧ Rd .u16 w' oo p q (mergeF true false false 300 xs ys) ∧ Below w.heap.size w w' := by
  go_enter Try.func19, Try.ntmps19
  go_wp2_with fail
  refine (ordered_same ao n c xs w ha hx).mono ?_
  rintro e w1 ⟨rfl, hb1⟩
  go_wp2_with fail
  refine (ordered_same bo m d ys w1 (hb.later hb1) hy).mono ?_
  rintro e w2 ⟨rfl, hb2⟩
  have hb12 : Below w.heap.size w w2 := hb1.trans (hb2.mono hb1.size)
  go_wp2_with fail
  refine (merge_any true false false ao bo n c m d xs ys w2 (ha.later hb12) (hb.later hb12) hn hm).mono ?_
  rintro e w3 ⟨oo, p, q, rfl, hr, hb3⟩
  go_wp2
  go_ret
  exact ⟨oo, p, q, rfl, hr, hb12.trans (hb3.mono hb12.size)⟩

end Go.Proofs.Ytghifjiohgninaa
