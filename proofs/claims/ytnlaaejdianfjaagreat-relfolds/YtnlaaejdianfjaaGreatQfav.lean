import Derived.Test.YtnlaaejdianfjaaGreatQfau
namespace Go.Proofs.YtnlaaejdianfjaaGreat
open Go.RowKit
set_option linter.unusedVariables false
set_option linter.unusedSimpArgs false

theorem relFoldsW {w : World} {a : Option Addr} {len cap : Nat} {xs : List Int} (h : Rd .u8 w a len cap xs) (hx : ∀ x ∈ xs, 0 ≤ x ∧ x ≤ 255) (n : Nat) (hn : n ≤ 255) (t : Bool) :
    Calls Tryz.prog 8 #[.slice a len cap, .int .u8 (n : Int), .bool t] w fun e w' => e = .returned (.bool true) ∧ Below w.heap.size w w' := by
  obtain ⟨zs, h0, h3⟩ := NumX.of h hx
  cases t with
  | true => exact relFolds_t w h0 h.cap h.max h3 n hn
  | false => exact relFolds_n w h0 h.cap h.max h3 n hn

end Go.Proofs.YtnlaaejdianfjaaGreat
