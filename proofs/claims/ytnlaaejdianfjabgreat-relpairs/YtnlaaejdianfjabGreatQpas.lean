import Derived.Test.YtnlaaejdianfjabGreatQpar
namespace Go.Proofs.YtnlaaejdianfjabGreat
open Go.RowKit
set_option linter.unusedVariables false
set_option linter.unusedSimpArgs false

theorem relPairsW {w : World} {a : Option Addr} {len cap : Nat} {a1 : Option Addr} {len1 cap1 : Nat} {xs xs1 : List Int} (h : Rd .u8 w a len cap xs) (hx : ∀ x ∈ xs, 0 ≤ x ∧ x ≤ 255) (h1 : Rd .u8 w a1 len1 cap1 xs1) (hx1 : ∀ x ∈ xs1, 0 ≤ x ∧ x ≤ 255) (n : Nat) (hn : n ≤ 255) :
    Calls Tryz.prog 3 #[.slice a len cap, .slice a1 len1 cap1, .int .u8 (n : Int)] w fun e w' => e = .returned (.bool true) ∧ Below w.heap.size w w' := by
  obtain ⟨zs, h0, h3⟩ := NumX.of h hx
  obtain ⟨zs1, g0, g3⟩ := NumX.of h1 hx1
  exact relPairs_any w h0 h.cap h.max h3 g0 h1.cap h1.max g3 n hn

end Go.Proofs.YtnlaaejdianfjabGreat
