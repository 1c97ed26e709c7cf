/- Proved: for every list of labels (and for whatever other list of lists of tags) the statement LabelRows answers true: labels that stand in a row are taken one by one. No condition. -/
import Derived.Test.YtgmodalpmicmnaaRow
import Derived.Test.YtgmodalpmicmnaaRowsW
import Derived.Deep.Matrix
namespace Go.Proofs.Ytgmodalpmicmnaa.labelRows
open Go.ChangeShapes Go.WideShapes Go.ChangeAt Go.RowKit Go.Deep
set_option linter.unusedVariables false

set_option maxRecDepth 100000 in
theorem lifted (os : Os) (started : os.Started) (H : Type) (enc : TypeId × Value → H) :
    ReturnsInHanded {} Try.checked os 8 .any (Rows.labelRowsSpec.pre6 enc Try.prog Try.f8 Rows.labelRowsRow.domain false) (Rows.labelRowsSpec.post enc Try.prog Try.f8 false true false false) := by
  refine returnsInHanded_of_change (C := Try.checked) own started (by kernel_rfl) Try.func8
    (ChangeSpec.witness6 (enc := enc) (C := Try.checked) false ⟨#[], #[.slice none 0 0], []⟩ 8 (by kernel_rfl) (by kernel_rfl) (by kernel_rfl) (by kernel_rfl)) ?_
  intro W base args ds gs before hval0 hW hcnd _
  have hval : ∀ (j : Nat) t v, Try.f8.params[j]? = some t → args[j]? = some v → Value.okWide Try.prog W .any base t v := hval0
  have hW' := hW
  obtain ⟨p, q, hA0, hV, rfl, hfz, hnd⟩ := hW
  have hA : DataW.TrodAll enc Try.prog W 0 (fun _ => true) true Try.f8.params.toList args.toList ds p := hA0
  rw [Try.params8] at hA hval
  obtain ⟨v0, vs0, d0, ds0, p0, q0, hargs, rfl, rfl, h0, r0⟩ := trodAll_cons hA
  obtain ⟨rfl, rfl, rfl⟩ := trodAll_nil r0
  obtain rfl : args = #[v0] := by cases args; simp_all
  obtain ⟨rfl, rfl⟩ := trodVars_none hV
  obtain ⟨a0, len0, cap0, rfl⟩ := okWide_slice Try.underlying45 (hval 0 45 v0 rfl rfl)
  have k0 := h0
  have lt0 : ∀ x ∈ p0, x.block < W.heap.size := by obtain ⟨m, hm⟩ := k0; exact DataW.trod_lt m _ _ _ hm
  obtain ⟨A, L, C, X, w0⟩ : ∃ A L C X, RdRows W a0 len0 cap0 A L C X := by
    obtain ⟨fuel, hf⟩ := h0
    rcases open_int_rows Try.underlying45 Try.underlying24 Try.underlying30 (by kernel_rfl) (by kernel_rfl) hf with ⟨hcs, _⟩ | ⟨a, len, cap, A, L, C, Z, hcs, _, hl, hm, _, hrows⟩
    · simp [Value.cells] at hcs
      obtain ⟨rfl, rfl, rfl⟩ := hcs
      exact ⟨fun _ => none, fun _ => 0, fun _ => 0, fun _ => [], ⟨Nat.le_refl _, by omega, fun h => absurd h (Nat.lt_irrefl _), fun i hi => by omega⟩⟩
    · simp [Value.cells] at hcs
      obtain ⟨rfl, rfl, rfl⟩ := hcs
      refine ⟨A, L, C, fun i => (Z i).take (L i), ⟨hl, hm, fun hp => ?_, fun i hi => ?_⟩⟩
      · obtain ⟨b, off, spot⟩ := a
        have hs : spot = none := by simpa [Addr.add] using World.cell?_spot (hrows 0 (by omega)).1
        subst hs
        refine ⟨b, off, rfl, fun i hi => ?_⟩
        have := (hrows i (by omega)).1
        rwa [show (⟨b, off, none⟩ : Addr).add i = ⟨b, off + i, none⟩ from by simp [Addr.add]] at this
      · obtain ⟨_, h1, h2, h3, h4, h5, h6⟩ := hrows i (by omega)
        have hrow : IsRow .u16 W (A i) (L i) (C i) (Z i) := by
          cases e : A i with
          | none =>
            have c0 := h5 e
            exact .inl ⟨rfl, by omega, c0, List.eq_nil_of_length_eq_zero (by omega)⟩
          | some x => exact .inr ⟨x, rfl, h1, h2, h3, fun j hj => (h6 x e).2 j (by omega), h4⟩
        exact ⟨Rd.of_row hrow, u16_of_row hrow⟩
  clear hA0 hval0
  refine (rows_any a0 len0 cap0 A L C X W w0).mono fun e W' ⟨he, bel⟩ => ?_
  subst he
  exact ⟨_, rfl, _, _, _, [], _, [], hW', trodAll_mk1 (shut_bool Try.underlying4 _), (trodAll_cons_mk (Below.trod laidOut (by kernel_rfl) (of_decide_eq_true (by kernel_rfl)) k0 bel lt0) trodAll_mk0), rfl, bel.frame _, fun h => by cases h⟩

theorem over : Rows.labelRowsRow.holds Try.pinned (OpenSpec.ofChange Rows.labelRowsSpec) :=
  OpenClaim.holds_of_wide 8 Try.f8 rfl rfl rfl rfl rfl rfl rfl ⟨rfl, rfl, rfl, rfl, rfl⟩ rfl rfl rfl rfl rfl (by kernel_rfl) Try.func8 (by kernel_rfl)
    (of_decide_eq_true (by kernel_rfl)) (by unfold Func.isWrapper; first | (rw [if_pos (by decide +kernel)]; kernel_rfl) | (rw [if_neg (by decide +kernel)]; exact ⟨rfl, rfl⟩))
    (fun os started H enc _ => lifted os started H enc)

end Go.Proofs.Ytgmodalpmicmnaa.labelRows

namespace Go.Proofs.Ytgmodalpmicmnaa

theorem labelRows_holds : Rows.LabelRowsSaid := labelRows.over
#print axioms labelRows_holds
end Go.Proofs.Ytgmodalpmicmnaa
