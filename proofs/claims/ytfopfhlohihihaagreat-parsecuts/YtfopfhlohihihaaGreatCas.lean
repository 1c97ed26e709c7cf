import Derived.Test.YtfopfhlohihihaaGreatCar
namespace Go.Proofs.YtfopfhlohihihaaGreat
open Go.RowKit
set_option linter.unusedVariables false
set_option linter.unusedSimpArgs false
theorem RowIs.len {α : Type} {e : Ek α} {Q : Nat → Prop} {w : World} {a : Option Addr} {n c : Nat} {l : List α} (h : RowIs e Q w (.slice a n c) l) : l.length = n ∧ n ≤ c ∧ c ≤ 9223372036854775807 := by
 obtain ⟨ao, n0, c0, hv, hl, h1, h2, hx⟩ := h
 cases hv
 exact ⟨hl, h1, h2⟩
theorem at_one {w : World} {b o k : Nat} {v : Option Value} (h : w.cell? ⟨b, o + k * 1 + 0, none⟩ = v) : w.cell? ⟨b, o + k, none⟩ = v := by rw [Nat.mul_one, Nat.add_zero] at h; exact h
end Go.Proofs.YtfopfhlohihihaaGreat
