/- The walk of the library's sort at the three tags 3, 1, 3. -/
import Derived.Test.YtghifjiohgninaaMerge
namespace Go.Proofs.Ytghifjiohgninaa
open Go.RowKit
set_option linter.unusedVariables false

set_option maxHeartbeats 400000 in
theorem less_any (a b : Int) (w : World) : Calls Try.prog 38 #[.int .u16 a, .int .u16 b] w fun e w' => e = .returned (.bool (decide (a < b))) ∧ w' = w := by
  go_enter Try.func38, Try.ntmps38
  go_wp2
  go_ret
  exact ⟨rfl, rfl⟩

set_option maxRecDepth 100000 in
set_option maxHeartbeats 400000 in
theorem len3 (w : World) : Calls Try.prog 31 #[.int .u64 3] w fun e w' => ∃ k : Int, e = .returned (.int .i64 k) ∧ w' = w := by
  go_enter Try.func31, Try.ntmps31
  go_wp2
  go_ret
  exact ⟨_, rfl, rfl⟩

/-- The two worlds hold the same; only draws lie between them. -/
structure Same4 (w' w : World) : Prop where
  heap : w'.heap = w.heap
  os : w'.os = w.os
  tape : w'.tape = w.tape
  output : w'.output = w.output

theorem same_cell {w w' : World} (h : Same4 w' w) (a : Addr) : w'.cell? a = w.cell? a := World.cell?_of_block (by rw [h.heap])
theorem same_frozen {w w' : World} (h : Same4 w' w) (a : Addr) : w'.frozen? a = w.frozen? a := World.frozen?_of_block (by rw [h.heap])
theorem Same4.below {B : Nat} {a w w' : World} (h : Same4 w' w) (hb : Below B a w) : Below B a w' :=
  hb.trans ⟨h.os, h.tape, h.output, by rw [h.heap]; exact Nat.le_refl _, fun k _ => by rw [h.heap]⟩

set_option maxHeartbeats 1000000 in
theorem ins_313 (g cap : Nat) (w : World) (h0 : w.cell? ⟨g, 0, none⟩ = some (.int .u16 3)) (h1 : w.cell? ⟨g, 1, none⟩ = some (.int .u16 1)) (h2 : w.cell? ⟨g, 2, none⟩ = some (.int .u16 3))
    (f0 : w.frozen? ⟨g, 0, none⟩ = false) (f1 : w.frozen? ⟨g, 1, none⟩ = false) :
    Calls Try.prog 32 #[.slice (some ⟨g, 0, none⟩) 3 cap, .int .i64 0, .int .i64 3] w fun e w' => e = .returned (.tuple #[]) ∧ Same4 w' ((w.setCell ⟨g, 1, none⟩ (.int .u16 3)).setCell ⟨g, 0, none⟩ (.int .u16 1)) := by
  have c0 : ((w.setCell ⟨g, 1, none⟩ (.int .u16 3)).setCell ⟨g, 0, none⟩ (.int .u16 1)).cell? ⟨g, 0, none⟩ = some (.int .u16 1) := by simp [go_sem, h0]
  have c1 : ((w.setCell ⟨g, 1, none⟩ (.int .u16 3)).setCell ⟨g, 0, none⟩ (.int .u16 1)).cell? ⟨g, 1, none⟩ = some (.int .u16 3) := by simp [go_sem, h1]
  have c2 : ((w.setCell ⟨g, 1, none⟩ (.int .u16 3)).setCell ⟨g, 0, none⟩ (.int .u16 1)).cell? ⟨g, 2, none⟩ = some (.int .u16 3) := by simp [go_sem, h2]
  have C : Hid (∀ wr : World, Same4 wr ((w.setCell ⟨g, 1, none⟩ (.int .u16 3)).setCell ⟨g, 0, none⟩ (.int .u16 1)) → wr.cell? ⟨g, 0, none⟩ = some (.int .u16 1) ∧ wr.cell? ⟨g, 1, none⟩ = some (.int .u16 3) ∧ wr.cell? ⟨g, 2, none⟩ = some (.int .u16 3)) :=
    fun wr h => ⟨by rw [same_cell h, c0], by rw [same_cell h, c1], by rw [same_cell h, c2]⟩
  clear c0 c1 c2
  go_enter Try.func32, Try.ntmps32
  go_wp2
  go_loopw [6] (fun i wr => (i = .int .i64 1 ∧ wr = w) ∨ ((i = .int .i64 2 ∨ i = .int .i64 3) ∧ Hid (Same4 wr ((w.setCell ⟨g, 1, none⟩ (.int .u16 3)).setCell ⟨g, 0, none⟩ (.int .u16 1))))) (fun i _ => 3 - (intOf i).toNat)
  case atStart => exact .inl ⟨rfl, rfl⟩
  case round =>
    rcases hrel with ⟨rfl, rfl⟩ | ⟨rfl | rfl, HA⟩
    · go_wp2
      refine wp_loop_rounds 2 ?_
      rw [rounds_succ]
      go_wp2
      go_quiet ((go_at_call 38; exact Calls.quiet_of_same (less_any _ _ _)))
      go_wp2
      go_region
      go_wp2
      rw [rounds_succ]
      go_wp2
      go_quiet ((go_at_call 38; exact Calls.quiet_of_same (less_any _ _ _)))
      go_wp2
      go_roundw
      case rel => exact .inr ⟨.inl rfl, ⟨rfl, rfl, rfl, rfl⟩⟩
      case measure => simp [intOf]
    · obtain ⟨d0, d1, d2⟩ := C.out wr HA.out
      go_wp2
      refine wp_loop_rounds 1 ?_
      rw [rounds_succ]
      go_wp2
      go_quiet ((go_at_call 38; exact Calls.quiet_of_same (less_any _ _ _)))
      go_wp2
      go_roundw
      case rel => exact .inr ⟨.inr rfl, ⟨HA.out.heap, HA.out.os, HA.out.tape, HA.out.output⟩⟩
      case measure => simp [intOf]
    · go_wp2
      go_end0
      exact ⟨rfl, HA.out⟩

end Go.Proofs.Ytghifjiohgninaa
