/- The walk of RowBack. -/
import Derived.Test.YtdeplfhkeneabaaR8
namespace Go.Proofs.Ytdeplfhkeneabaa
open Go.RowKit
set_option linter.unusedVariables false

/-- What is read may be handed on. -/
theorem rowV_ok {b : List Int} (hu : U8 b) : Sized (rowV b) ∧ Fit (rowV b) := by
  by_cases h : rowE b = 0
  · obtain ⟨h1, h2⟩ := row_read h hu
    refine ⟨fun v hv => ?_, ?_⟩
    · have := (mayV_kind ((mayR_iff.1 h1).2.2 v hv)).2
      rw [nums_len] at this
      omega
    · cases b with
      | nil => intro v hv; simp [rowV] at hv
      | cons c r =>
        rw [rowV, if_pos h]
        have hur : U8 r := fun z hz => hu z (by simp [hz])
        rw [rowE] at h
        by_cases hc : c < 1 ∨ 6 < c
        · rw [if_pos hc] at h; omega
        · rw [if_neg hc] at h
          by_cases hs : tkS c.toNat r = 0
          · exact fun v hv => ((read_all hur c.toNat hs).1 v hv).2
          · rw [if_neg hs] at h; exact absurd h hs
  · have e : rowV b = [] := by rw [rowV_co, if_neg h]
    rw [e]
    exact ⟨fun v hv => by simp at hv, fun v hv => by simp at hv⟩

/-- A slice up to r. -/
theorem slice_upto {w : World} {ao : Option Addr} {n c : Nat} {bs : List Int} (h : Rd .u8 w ao n c bs) {r : Nat} (hr : r ≤ n) :
    ∃ ao' p d, (∀ w', (Instr.slice 23 (.slice ao n c) none (some (.int .i64 r)) none).run Try.prog w' = .ok (.slice ao' p d) w') ∧ ∀ w', Rd .u8 w' ao n c bs → Rd .u8 w' ao' p d (bs.take r) := by
  have hcap := h.cap
  have e0 : ∀ a : Addr, a.add 0 = a := fun a => by unfold Addr.add; simp
  refine ⟨ao, r, c, fun w' => ?_, fun w' h' => ?_⟩
  · have hrc : r ≤ c := by omega
    have hrc' : (r : Int) ≤ (c : Int) := by omega
    cases ao with
    | none => go_simp
    | some a => go_simp
  · have h1 := h'.len
    have h3 := h'.max
    refine ⟨by rw [List.length_take]; omega, by omega, h3, h'.non, fun hp => ?_⟩
    obtain ⟨b, o, e, hc⟩ := h'.cells (by omega)
    refine ⟨b, o, e, fun i hi => ?_⟩
    rw [hc i (by omega)]
    simp only [nth]
    rw [List.getElem?_take_of_lt hi]

end Go.Proofs.Ytdeplfhkeneabaa
