/- A slice of values that came in may be read as the walks are told it. -/
import Derived.Test.YtdeplfhkeneabaaRow
import Derived.Test.YtdeplfhkeneabaaR3
import Derived.Deep.Slices
namespace Go.Proofs.Ytdeplfhkeneabaa
open Go.ChangeShapes Go.WideShapes Go.ChangeAt Go.RowKit
set_option linter.unusedVariables false

theorem add_rv (b o m : Nat) : (⟨b, o, none⟩ : Addr).add m = ⟨b, o + m, none⟩ := by unfold Addr.add; split <;> simp_all
/-- Values that came in. -/
theorem open_values {H : Type} {enc : TypeId × Value → H} {W : World} {r : Reach} {b0 base : Nat} {sp : Nat → Bool} {held : Bool} {v : Value} {d : DataW H} {ps : List MemPlace} (hval : Value.okWide Try.prog W r b0 22 v) (hd : DataW.Trod enc Try.prog W base sp held 22 v d ps) :
    ∃ a len cap, ∃ vs : List Vl, v = .slice a len cap ∧ RdV W a len cap vs ∧ Sized vs ∧ Fit vs := by
  obtain ⟨a, len, cap, rfl⟩ := okWide_slice Try.underlying22 hval
  obtain ⟨fuel, hf⟩ := hd
  rcases Go.Deep.open_slice Try.underlying22 hf with ⟨hcs, _⟩ | ⟨x, l, c, m, nn, D, Pl, hcs, hb, hl, hm, hmm, _, hx⟩
  · simp [Value.cells] at hcs
    obtain ⟨rfl, rfl, rfl⟩ := hcs
    exact ⟨none, 0, 0, [], rfl, RdV.nil W, fun v hv => by simp at hv, fun v hv => by simp at hv⟩
  · simp [Value.cells] at hcs
    obtain ⟨rfl, rfl, rfl⟩ := hcs
    have hlm : len ≤ m := by rw [hmm]; split <;> omega
    have one : ∀ i, i < len → ∃ u : Vl, (W.cell? ((x.add (i * 3)).add 0) = some (.int .i64 u.1) ∧ W.cell? ((x.add (i * 3)).add 1) = some (.int .i64 u.2.1) ∧ W.cell? ((x.add (i * 3)).add 2) = some (.string u.2.2)) ∧ Fits u.2.1 ∧ u.2.2.size ≤ 9223372036854775807 := by
      intro i hi
      obtain ⟨cs, h1, h2⟩ := hx i (by omega)
      rw [cells24] at h1
      obtain ⟨_, hlen, hcell⟩ := World.cells?_some h1
      match cs, hlen with
      | [c0, c1, c2], _ =>
      obtain ⟨y0, y1, y2, k, _, _, hy0, hy1, hy2⟩ := Go.Deep.trod_struct3 Try.underlying35 h2
      obtain ⟨a0, e0, _, wa⟩ := DataW.trod_int Try.underlying3 hy0
      obtain ⟨b1, e1, _, wb⟩ := DataW.trod_int Try.underlying2 hy1
      obtain ⟨s, e2, _, ws⟩ := DataW.trod_string Try.underlying9 hy2
      simp [cells3, cells2, cells9] at e0 e1 e2
      subst e0 e1 e2
      exact ⟨(a0, b1, s), ⟨hcell 0 (by omega), hcell 1 (by omega), hcell 2 (by omega)⟩, bounds_i64 wb, ws⟩
    obtain ⟨f, hfn⟩ := Go.Deep.choose_lt (α := Vl) one
    have hv : ∀ i, i < len → vth ((List.range len).map f) i = f i := fun i hi => by simp [vth, hi]
    refine ⟨some x, len, cap, (List.range len).map f, rfl, ⟨by simp, hl, hm, fun e => by simp at e, fun hp => ?_⟩, ?_, ?_⟩
    · obtain ⟨b, off, spot⟩ := x
      have h0 := (hfn 0 hp).1.1
      have hspot : spot = none := by simpa [Addr.add] using World.cell?_spot h0
      subst hspot
      refine ⟨b, off, rfl, fun i hi => ?_⟩
      rw [hv i hi]
      obtain ⟨⟨k0, k1, k2⟩, _⟩ := hfn i hi
      rw [add_rv, add_rv] at k0 k1 k2
      exact ⟨k0, k1, k2⟩
    · intro u hu
      rw [List.mem_map] at hu
      obtain ⟨i, hi, rfl⟩ := hu
      exact (hfn i (List.mem_range.1 hi)).2.2
    · intro u hu
      rw [List.mem_map] at hu
      obtain ⟨i, hi, rfl⟩ := hu
      exact (hfn i (List.mem_range.1 hi)).2.1

end Go.Proofs.Ytdeplfhkeneabaa
