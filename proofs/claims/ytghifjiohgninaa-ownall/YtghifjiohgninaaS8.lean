/- The walks of bits.Len and nextPowerOfTwo, at small numbers. -/
import Derived.Test.YtghifjiohgninaaS4
import Derived.Lib.BitFns
namespace Go.Proofs.Ytghifjiohgninaa
open Go.RowKit
open Go.Sort (swp PermIn SortedIn ltInt)
set_option linter.unusedVariables false

set_option maxHeartbeats 4000000 in
set_option maxRecDepth 100000 in
theorem len64_any (x : Nat) (hx : x < 256) (w : World) : Calls Try.prog 42 #[.int .u64 x] w fun e w' => e = .returned (.int .i64 (Lib.bitLen x)) ∧ w' = w := by
  go_enter Try.func42, Try.ntmps42
  have h1 : decide ((4294967296 : Int) ≤ (x : Int)) = false := by simp; omega
  have h2 : decide ((65536 : Int) ≤ (x : Int)) = false := by simp; omega
  have h3 : decide ((256 : Int) ≤ (x : Int)) = false := by simp; omega
  go_wp2
  go_ret
  refine ⟨congrArg Ending.returned (congrArg (Value.int IntKind.i64) ?_), rfl⟩
  have e : ∀ y : Fin 256, (Lib.len8tab[y.1]'(by decide +revert)).toNat = Lib.bitLen y.1 := by decide
  have e1 := e ⟨x, hx⟩
  have e2 := Lib.bitLen_le8 ⟨x, hx⟩
  simp only at e1 e2
  rw [e1]
  simp only [wrap64]
  omega

theorem len_any (x : Nat) (hx : x < 256) (w : World) : Calls Try.prog 31 #[.int .u64 x] w fun e w' => e = .returned (.int .i64 (Lib.bitLen x)) ∧ w' = w := by
  go_enter Try.func31, Try.ntmps31
  go_wp2_with (go_at_call 42; refine (len64_any x hx _).mono ?_; rintro e w' ⟨rfl, rfl⟩)
  go_ret
  exact ⟨rfl, rfl⟩

theorem pow_small : ∀ x, x < 64 → 8 ≤ x → (2 ^ Lib.bitLen x ≤ 2 * x ∧ Lib.bitLen x ≤ 6 ∧ 0 < 2 ^ Lib.bitLen x) := by decide

theorem next_any (x : Nat) (hx : 8 ≤ x) (hx2 : x < 64) (w : World) : Calls Try.prog 44 #[.int .i64 x] w fun e w' => e = .returned (.int .u64 (2 ^ Lib.bitLen x : Nat)) ∧ w' = w := by
  obtain ⟨p1, p2, p3⟩ := pow_small x hx2 hx
  go_enter Try.func44, Try.ntmps44
  go_wp2_with (go_at_call 31; refine (len_any x (by omega) _).mono ?_; rintro e w' ⟨rfl, rfl⟩)
  go_ret
  refine ⟨congrArg Ending.returned (congrArg (Value.int IntKind.u64) ?_), rfl⟩
  rw [IntKind.wrap_u64]
  have e : ((2 ^ Lib.bitLen x : Nat) : Int) = (2 : Int) ^ Lib.bitLen x := by simp
  omega

end Go.Proofs.Ytghifjiohgninaa
