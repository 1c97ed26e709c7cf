/- The walk of the library's random numbers. -/
import Derived.Test.YtghifjiohgninaaS8
import Derived.Laws.Bits64
import Derived.Deep.DeepCutAuto
namespace Go.Proofs.Ytghifjiohgninaa
open Go.RowKit
open Go.Sort (swp PermIn SortedIn ltInt)
set_option linter.unusedVariables false

theorem xor_range (a b : Int) : 0 ≤ bits .xor .u64 a b ∧ bits .xor .u64 a b < 18446744073709551616 := by
  have h : bits .xor .u64 a b = IntKind.u64.wrap ((BitVec.ofInt 64 a ^^^ BitVec.ofInt 64 b).toNat : Int) := rfl
  rw [h, IntKind.wrap_u64]
  omega
theorem and_range (a b : Int) : 0 ≤ bits .and .u64 a b ∧ bits .and .u64 a b < 18446744073709551616 := by
  have h : bits .and .u64 a b = IntKind.u64.wrap ((BitVec.ofInt 64 a &&& BitVec.ofInt 64 b).toNat : Int) := rfl
  rw [h, IntKind.wrap_u64]
  omega

theorem and_le (x : Int) (m : Nat) (hm : m < 18446744073709551616) : bits .and .u64 x (m : Int) ≤ (m : Int) := by
  have h : bits .and .u64 x (m : Int) = IntKind.u64.wrap ((BitVec.ofInt 64 x &&& BitVec.ofInt 64 (m : Int)).toNat : Int) := rfl
  have h2 : (BitVec.ofInt 64 (m : Int)).toNat = m := by
    rw [BitVec.ofInt_natCast, BitVec.toNat_ofNat]; exact Nat.mod_eq_of_lt (by omega)
  have h3 : (BitVec.ofInt 64 x &&& BitVec.ofInt 64 (m : Int)).toNat ≤ m := by
    rw [BitVec.toNat_and, h2]; exact Nat.and_le_right
  rw [h, IntKind.wrap_u64]
  omega

set_option maxHeartbeats 2000000 in
theorem rnd_any (g cap s : Nat) (x : Int) (d : Array Int) (w0 w : World) (h : SC .u64 63 g cap w0 w d s x) :
    Calls Try.prog 45 #[.pointer (some ⟨s, 0, none⟩)] w fun e w' => ∃ y : Int, e = .returned (.int .u64 y) ∧ 0 ≤ y ∧ y < 18446744073709551616 ∧ SC .u64 63 g cap w0 w' d s y := by
  go_enter Try.func45, Try.ntmps45
  go_upto_region 1 with fail
  go_cut [2] (fun v w' => v = .int .u64 0 ∧ ∃ y : Int, SC .u64 63 g cap w0 w' d s y)
  case first =>
    have c := h.cell
    have f := h.free
    go_region
    all_goals
      go_wp2_with fail
      go_meet
      exact ⟨rfl, _, by first | exact (h.put _).drewN _ | exact (h.put _).drewN 1 | exact (h.drewN _).put _ | exact (h.drewN 1).put _⟩
  case rest =>
    obtain ⟨rfl, y1, h1⟩ := hcut
    obtain ⟨w1, rfl⟩ : ∃ w1 : World, w1 = wc := ⟨_, rfl⟩
    go_upto_region 2 with fail
    go_cut [2] (fun v w' => v = .int .u64 0 ∧ ∃ y : Int, SC .u64 63 g cap w0 w' d s y)
    case first =>
      have c := h1.cell
      have f := h1.free
      go_region
      all_goals
        go_wp2_with fail
        go_meet
        exact ⟨rfl, _, by first | exact (h1.put _).drewN _ | exact (h1.put _).drewN 1 | exact (h1.drewN _).put _ | exact (h1.drewN 1).put _⟩
    case rest =>
      obtain ⟨rfl, y2, h2⟩ := hcut
      obtain ⟨w2, rfl⟩ : ∃ w2 : World, w2 = wc := ⟨_, rfl⟩
      go_upto_region 3 with fail
      go_cut [2] (fun v w' => v = .int .u64 0 ∧ ∃ y : Int, 0 ≤ y ∧ y < 18446744073709551616 ∧ SC .u64 63 g cap w0 w' d s y)
      case first =>
        have c := h2.cell
        have f := h2.free
        go_region
        all_goals
          go_wp2_with fail
          go_meet
          exact ⟨rfl, _, (xor_range _ _).1, (xor_range _ _).2, by first | exact (h2.put _).drewN _ | exact (h2.put _).drewN 1 | exact (h2.drewN _).put _ | exact (h2.drewN 1).put _⟩
      case rest =>
        obtain ⟨rfl, y, hy0, hy1, h3⟩ := hcut
        have c := h3.cell
        go_wp2
        go_ret
        exact ⟨y, rfl, hy0, hy1, h3⟩

end Go.Proofs.Ytghifjiohgninaa
