/- The walk of ValueReads. -/
import Derived.Test.YtmeiloghgoohmaaVd
import Derived.Test.YtmeiloghgoohmaaVb
namespace Go.Proofs.Ytmeiloghgoohmaa
open Go.RowKit
set_option linter.unusedVariables false

set_option maxRecDepth 100000 in
set_option maxHeartbeats 1000000 in
theorem reads_any (ao : Option Addr) (n c : Nat) (bs : List Int) (w : World) (h : Rd .u8 w ao n c bs) (hu : U8 bs) : Calls Try.prog 4 #[.slice ao n c] w fun e w' => e = .returned (.bool true) ∧ Below w.heap.size w w' := by
  have H0 : Hid _ := begun_any w
  by_cases h300 : 300 < n
  · clear h hu
    go_enter Try.func4, Try.ntmps4
    go_wp2_with fail
    refine Calls.mono H0.out ?_
    rintro e w1 ⟨rfl, hb1⟩
    clear H0
    go_wp2
    go_ret
    exact ⟨rfl, hb1⟩
  · have HT : Hid (∀ w1, Below w.heap.size w w1 → _) := fun w1 hb1 => take_any ao n c bs w1 (h.later hb1) hu
    have HR : Hid (∀ w1, Below w.heap.size w w1 → _) := fun w1 hb1 => refTake_any ao n c bs w1 (h.later hb1) hu
    obtain ⟨k, i, m, e, s, hk⟩ : ∃ k i m e : Int, ∃ s : ByteArray, tkR bs = .tuple #[.agg #[.int .i64 k, .int .i64 i, .string s], .int .i64 m, .int .i64 e] := ⟨_, _, _, _, _, rfl⟩
    rw [hk] at HT HR
    clear hk h hu
    go_enter Try.func4, Try.ntmps4
    go_wp2_with fail
    refine Calls.mono H0.out ?_
    rintro e w1 ⟨rfl, hb1⟩
    clear H0
    go_wp2_with fail
    refine Calls.mono (HT.out _ hb1) ?_
    rintro e w2 ⟨rfl, hb2⟩
    have hB2 := Below.on hb1 hb2
    have hB3 : Below w.heap.size w (w2.alloc (.cells #[.int .i64 k, .int .i64 i, .string s] 24)) := hB2.alloc hB2.size _
    have A := Bx.new w2 k i s 24
    clear hb1 hb2 HT
    go_upto_region 6 with fail
    generalize w2.alloc (.cells #[.int .i64 k, .int .i64 i, .string s] 24) = X at *
    go_wp2_with fail
    refine Calls.mono (HR.out _ hB3) ?_
    rintro e w3 ⟨rfl, hb3⟩
    have hB4 := Below.on hB3 hb3
    have hB5 : Below w.heap.size w (w3.alloc (.cells #[.int .i64 k, .int .i64 i, .string s] 24)) := hB4.alloc hB4.size _
    have C := Bx.new w3 k i s 24
    replace A := (A.later hb3).later ((Below.refl _ _).alloc (Nat.le_refl _) (.cells #[.int .i64 k, .int .i64 i, .string s] 24))
    clear hb3 HR hB4 hB3
    go_upto_region 7 with fail
    generalize w3.alloc (.cells #[.int .i64 k, .int .i64 i, .string s] 24) = Z at *
    obtain ⟨a0, a1, a2⟩ := A
    obtain ⟨c0, c1, c2⟩ := C
    go_wp2
    go_ret
    exact ⟨rfl, hB5⟩

end Go.Proofs.Ytmeiloghgoohmaa
