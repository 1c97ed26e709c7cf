/- Operations that came in. -/
import Derived.Test.YtbnikjjcjjabjaaG10
import Derived.Test.YtbnikjjcjjabjaaRow
import Derived.Deep.Slices
import Derived.Deep.Strs
import Derived.Lib.SmallJoins
namespace Go.Proofs.Ytbnikjjcjjabjaa
open Go.ChangeShapes Go.WideShapes Go.ChangeAt Go.RowKit
set_option linter.unusedVariables false
set_option linter.unusedSimpArgs false

theorem cOp : Try.prog.cellsOf 31 = 4 := by kernel_rfl
theorem c3x : Try.prog.cellsOf 3 = 1 := by kernel_rfl
theorem c5x : Try.prog.cellsOf 5 = 1 := by kernel_rfl
theorem addr_at (b o m : Nat) : (⟨b, o, none⟩ : Addr).add m = ⟨b, o + m, none⟩ := by unfold Addr.add; split <;> simp_all
theorem i64_of {n : Int} (h : (Lit.int .i64 n).wf = true) : -9223372036854775808 ≤ n ∧ n ≤ 9223372036854775807 := bounds_i64 h
set_option maxRecDepth 100000 in
theorem open_ops {H : Type} {enc : TypeId × Value → H} {W : World} {r : Reach} {b0 base : Nat} {sp : Nat → Bool} {held : Bool} {v : Value} {d : DataW H} {ps : List MemPlace} (hval : Value.okWide Try.prog W r b0 22 v) (hd : DataW.Trod enc Try.prog W base sp held 22 v d ps) :
    ∃ a len cap, ∃ C : List Op4, v = .slice a len cap ∧ RdO W a len cap C := by
  obtain ⟨a, len, cap, rfl⟩ := okWide_slice Try.underlying22 hval
  obtain ⟨fuel, hf⟩ := hd
  rcases Go.Deep.open_slice Try.underlying22 hf with ⟨hcs, _⟩ | ⟨x, l, c, m, nn, D, Pl, hcs, hb, hl, hm, hmm, _, hx⟩
  · simp [Value.cells] at hcs
    obtain ⟨rfl, rfl, rfl⟩ := hcs
    exact ⟨none, 0, 0, [], rfl, rfl, Nat.le_refl _, by omega, fun h => absurd h (Nat.lt_irrefl _)⟩
  · simp [Value.cells] at hcs
    obtain ⟨rfl, rfl, rfl⟩ := hcs
    have hlm : len ≤ m := by rw [hmm]; split <;> omega
    have one : ∀ i, i < len → ∃ u : Op4, ((0 ≤ u.2.2.2 ∧ u.2.2.2 ≤ 255) ∧ (-9223372036854775808 ≤ u.1 ∧ u.1 ≤ 9223372036854775807) ∧ (-9223372036854775808 ≤ u.2.1 ∧ u.2.1 ≤ 9223372036854775807) ∧ (-9223372036854775808 ≤ u.2.2.1 ∧ u.2.2.1 ≤ 9223372036854775807)) ∧ ∀ j, j < 4 → W.cell? ((x.add (i * 4)).add j) = ([.int .i64 u.1, .int .i64 u.2.1, .int .i64 u.2.2.1, .int .u8 u.2.2.2] : List Value)[j]? := by
      intro i hi
      obtain ⟨cs, h1, h2⟩ := hx i (by omega)
      rw [cOp] at h1
      obtain ⟨_, hlen, hcell⟩ := World.cells?_some h1
      match cs, hlen with
      | [c0, c1, c2, c3], _ =>
      obtain ⟨y0, y1, y2, y3, k, _, _, hy0, hy1, hy2, hy3⟩ := Go.Joins.trod_struct4 Try.underlying31 h2
      simp only [c3x, c5x, List.drop_zero, List.take_succ_cons, List.take_zero, List.drop_succ_cons] at hy0 hy1 hy2 hy3
      obtain ⟨a0, e0, _, wa⟩ := DataW.trod_int Try.underlying3 hy0
      obtain ⟨a1, e1, _, wb⟩ := DataW.trod_int Try.underlying3 hy1
      obtain ⟨a2, e2, _, wc⟩ := DataW.trod_int Try.underlying3 hy2
      obtain ⟨a3, e3, _, we⟩ := DataW.trod_int Try.underlying5 hy3
      cases e0
      cases e1
      cases e2
      cases e3
      exact ⟨(a0, a1, a2, a3), ⟨bounds_u8 we, i64_of wa, i64_of wb, i64_of wc⟩, hcell⟩
    refine ⟨some x, len, cap, List.replicate len (0, 0, 0, 0), rfl, by simp, hl, by simpa [maxLen] using hm, fun hp => ?_⟩
    obtain ⟨b, off, spot⟩ := x
    obtain ⟨u0, _, h0⟩ := one 0 hp
    have hspot : spot = none := by simpa [Addr.add] using World.cell?_spot (h0 0 (by decide))
    subst hspot
    refine ⟨b, off, rfl, fun i hi => ?_⟩
    obtain ⟨⟨k, s, z, x⟩, ⟨b0, b1, b2, b3⟩, hc⟩ := one i hi
    have g0 := hc 0 (by decide)
    have g1 := hc 1 (by decide)
    have g2 := hc 2 (by decide)
    have g3 := hc 3 (by decide)
    rw [addr_at, addr_at] at g0 g1 g2 g3
    exact ⟨k, s, z, x, b0, b1, b2, b3, g0, g1, g2, g3⟩

end Go.Proofs.Ytbnikjjcjjabjaa
