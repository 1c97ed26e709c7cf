/- A heap in memory; what room a page has. -/
import Derived.Test.YtmfoenhbldacfaaI6
namespace Go.Proofs.Ytmfoenhbldacfaa
open Go.RowKit
set_option linter.unusedVariables false
set_option linter.unusedSimpArgs false

/-! ### The room of a page -/
def rawR (R : List (List Int)) : Int := if vac R = R.length then freeR R - 4 else freeR R
def gapR (R : List (List Int)) : Int := max (rawR R) 0
theorem layE_fit {R : List (List Int)} {b : List Int} (hb : b ≠ []) (h2 : b.length ≤ 200) (h : (b.length : Int) ≤ gapR R) : layE R (vac R) b = 0 := by
  have hp : 0 < b.length := List.length_pos_iff.2 hb
  have hv := vac_le R
  have e := setR_free hv b
  rw [vac_out, List.length_nil] at e
  unfold gapR rawR at h
  unfold layE
  rw [if_neg (by intro h; rcases h with h | h; exact hb h; omega), if_neg]
  rw [e]
  split at h <;> split <;> omega
theorem prs_full (R : List (List Int)) : ∀ k, (prs R k).length = k ↔ ∀ s, s < k → rc R s ≠ []
  | 0 => by simp [prs]
  | k + 1 => by
    have hk := prs_len R k
    rw [prs_succ]
    by_cases e : rc R k = []
    · rw [if_pos e]
      constructor
      · intro h; omega
      · intro h; exact absurd e (h k (Nat.lt_succ_self _))
    · rw [if_neg e, List.length_append, List.length_singleton]
      constructor
      · intro h s hs
        rcases Nat.lt_succ_iff_lt_or_eq.1 hs with hs | rfl
        · exact (prs_full R k).1 (by omega) s hs
        · exact e
      · intro h
        have := (prs_full R k).2 (fun s hs => h s (by omega))
        omega
theorem full_vac (R : List (List Int)) : (∀ s, s < R.length → rc R s ≠ []) ↔ vac R = R.length := by
  constructor
  · intro h
    have h1 := vac_le R
    rcases Nat.lt_or_eq_of_le h1 with h2 | h2
    · exact absurd (vac_out R) (h _ h2)
    · exact h2
  · intro h s hs
    exact vac_lt R s (by omega)
theorem prs_last {R : List (List Int)} {k : Nat} (h : rc R k ≠ []) : prs R (k + 1) = prs R k ++ [k] := by rw [prs_succ, if_neg h]

set_option maxRecDepth 100000 in
set_option maxHeartbeats 1000000 in
theorem gapOf_any {w : World} {g : Nat} {Bt : List Int} {R : List (List Int)} {p : Nat → Prop} (h : Pi w g Bt R p) (hT : Tm R) (n : Int) :
    Calls Try.prog 54 #[.int .i64 n, .pointer (some ⟨g, 0, none⟩)] w fun e w' => e = .returned (.agg #[.int .i64 (gapR R), .int .i64 n]) ∧ Below w.heap.size w w' := by
  have hf := h.iv.few
  have hfr := h.iv.fr
  have HS : Hid (∀ w', Below w.heap.size w w' → _) := fun w' hb => slots_any (h.later hb)
  have HF : Hid (∀ w', Below w.heap.size w w' → _) := fun w' hb => free_any (h.later hb)
  have hfl : freeR R ≤ 248 := by unfold freeR; omega
  have hlen := prI_len R R.length
  obtain ⟨M, hM⟩ : ∃ M, gapR R = M := ⟨_, rfl⟩
  rw [hM]
  obtain ⟨f, hfe⟩ : ∃ f, freeR R = f := ⟨_, rfl⟩
  rw [hfe] at HF hfr hfl
  -- what the list of slots says
  have hcase : (prI R R.length = [] ∧ M = max (f - 4) 0) ∨ (∃ P : List Int, ∃ l : Nat, prI R R.length = P ++ [(l : Int)] ∧ l ≤ 61 ∧ ((P.length = l ∧ M = max (f - 4) 0) ∨ (P.length ≠ l ∧ M = max f 0))) := by
    rcases hT with h0 | h0
    · left
      have : R = [] := List.eq_nil_of_length_eq_zero h0
      subst this
      refine ⟨rfl, ?_⟩
      rw [← hM, ← hfe]; rfl
    · right
      have hlt := rc_lt h0
      have e := prs_last h0
      rw [show R.length - 1 + 1 = R.length from by omega] at e
      refine ⟨(prs R (R.length - 1)).map (fun (s : Nat) => (s : Int)), R.length - 1, by rw [prI, e, List.map_append]; rfl, by omega, ?_⟩
      rw [List.length_map]
      by_cases hv : vac R = R.length
      · left
        have h1 := (prs_full R (R.length - 1)).2 (fun s hs => (full_vac R).2 hv s (by omega))
        exact ⟨h1, by rw [← hM, ← hfe]; unfold gapR rawR; rw [if_pos hv]⟩
      · right
        refine ⟨fun h1 => hv ((full_vac R).1 fun s hs => ?_), by rw [← hM, ← hfe]; unfold gapR rawR; rw [if_neg hv]⟩
        by_cases hs2 : s < R.length - 1
        · exact (prs_full R (R.length - 1)).1 h1 s hs2
        · rw [show s = R.length - 1 from by omega]; exact h0
  go_enter Try.func54, Try.ntmps54
  go_wp2_with fail
  have hB0 : Below w.heap.size w (w.alloc (.cells #[.int .i64 0, .int .i64 0] 66)) := (Below.refl _ _).alloc (Nat.le_refl _) _
  refine Calls.mono (HS.out _ hB0) ?_
  rintro e w1 ⟨⟨v, rfl, hv⟩, hb1⟩
  have hB1 := bthen hB0 hb1
  clear hB0
  go_wp2_with fail
  refine Calls.mono (HF.out _ hB1) ?_
  rintro e w2 ⟨rfl, hb2⟩
  have hB2 := bthen hB1 hb2
  replace hv := hv.later hb2
  have hR2 := hv.rd
  have hbx : w2.heap[w.heap.size]? = some (.cells #[.int .i64 0, .int .i64 0] 66 (0, 0)) := by
    have h1 := (bthen hb1 hb2).block w.heap.size (by simp)
    rw [h1]; exact heap_alloc_last w _
  have c0 : w2.cell? ⟨w.heap.size, 0, none⟩ = some (.int .i64 0) := cell_of_row _ _ _ _ _ _ hbx
  have c1 : w2.cell? ⟨w.heap.size, 1, none⟩ = some (.int .i64 0) := cell_of_row _ _ _ _ _ _ hbx
  have z0 : w2.frozen? ⟨w.heap.size, 0, none⟩ = false := by unfold World.frozen?; rw [hbx]; rfl
  have z1 : w2.frozen? ⟨w.heap.size, 1, none⟩ = false := by unfold World.frozen?; rw [hbx]; rfl
  have hBs : Hid (∀ a b : Value, Below w.heap.size w ((w2.setCell ⟨w.heap.size, 0, none⟩ a).setCell ⟨w.heap.size, 1, none⟩ b)) := fun a b => Rest.below hB2 ((Rest.set w.heap.size 0 w2 a).trans (Rest.set _ _ _ _)) (Nat.le_refl _) hB2.size
  have hK : ∀ a b : Value, ((w2.setCell ⟨w.heap.size, 0, none⟩ a).setCell ⟨w.heap.size, 1, none⟩ b).heap[w.heap.size]? = some (.cells #[a, b] 66 (0, 0)) := fun a b => by simp [World.setCell, Array.getElem?_modify, hbx]
  have hK0 : ∀ a b : Value, ((w2.setCell ⟨w.heap.size, 0, none⟩ a).setCell ⟨w.heap.size, 1, none⟩ b).cell? ⟨w.heap.size, 0, none⟩ = some a := fun a b => cell_of_row _ _ _ _ _ _ (hK a b)
  have hK1 : ∀ a b : Value, ((w2.setCell ⟨w.heap.size, 0, none⟩ a).setCell ⟨w.heap.size, 1, none⟩ b).cell? ⟨w.heap.size, 1, none⟩ = some b := fun a b => cell_of_row _ _ _ _ _ _ (hK a b)
  replace hK0 : Hid _ := hK0
  replace hK1 : Hid _ := hK1
  clear hK
  obtain ⟨ao, c, rfl, hr, -⟩ := hR2
  have hnb := hr.cap
  have hnm := hr.max
  clear hv hbx hb1 hb2 HS HF
  generalize hq : w.heap.size = q at *
  rcases hcase with ⟨hP, hMv⟩ | ⟨P, l, hP, hl, hMv⟩
  · have e0 : (prI R R.length).length = 0 := by rw [hP]; rfl
    rw [e0]
    subst hMv
    rcases (by omega : 0 ≤ f - 4 ∨ f - 4 < 0) with h0 | h0
    · go_wp2
      have hBV := hBs.out (.int .i64 (f - 4)) (.int .i64 n); have q0 := hK0.out (.int .i64 (f - 4)) (.int .i64 n); have q1 := hK1.out (.int .i64 (f - 4)) (.int .i64 n); generalize (w2.setCell ⟨q, 0, none⟩ (.int .i64 (f - 4))).setCell ⟨q, 1, none⟩ (.int .i64 n) = V at q0 q1 hBV ⊢; refine bodyPost_ret (v := .agg #[.int .i64 (f - 4), .int .i64 n]) (by simp [results, Try.results54, go_sem, q0, q1]) rfl ⟨by rw [show max (f - 4) 0 = f - 4 from by omega], by rw [hq]; exact hBV⟩
    · go_wp2
      have hBV := hBs.out (.int .i64 (0)) (.int .i64 n); have q0 := hK0.out (.int .i64 (0)) (.int .i64 n); have q1 := hK1.out (.int .i64 (0)) (.int .i64 n); generalize (w2.setCell ⟨q, 0, none⟩ (.int .i64 (0))).setCell ⟨q, 1, none⟩ (.int .i64 n) = V at q0 q1 hBV ⊢; refine bodyPost_ret (v := .agg #[.int .i64 (0), .int .i64 n]) (by simp [results, Try.results54, go_sem, q0, q1]) rfl ⟨by rw [show max (f - 4) 0 = 0 from by omega], by rw [hq]; exact hBV⟩
  · have e0 : (prI R R.length).length = P.length + 1 := by rw [hP]; simp
    rw [e0] at hr hnb ⊢
    rw [hP] at hr
    obtain ⟨b, o, rfl, hcc⟩ := hr.cells (by omega)
    have d0 := hcc P.length (by omega)
    rw [show nth (P ++ [(l : Int)]) P.length = (l : Int) from by simp [nth]] at d0
    obtain ⟨m, hm⟩ : ∃ m, P.length = m := ⟨_, rfl⟩
    rw [hm] at d0 hMv hnb ⊢
    have hml : m ≤ 62 := by rw [← hm]; omega
    have g1 : ((m : Int) + 1 == 0) = false := by simp; omega
    have g4 : (m : Int) + 1 - 1 = (m : Int) := by omega
    clear hr hcc e0 hP hm
    rcases hMv with ⟨rfl, rfl⟩ | ⟨hne, rfl⟩
    · have g2 : ((m : Int) == (m : Int)) = true := by simp
      rcases (by omega : 0 ≤ f - 4 ∨ f - 4 < 0) with h0 | h0
      · go_wp2
        have hBV := hBs.out (.int .i64 (f - 4)) (.int .i64 n); have q0 := hK0.out (.int .i64 (f - 4)) (.int .i64 n); have q1 := hK1.out (.int .i64 (f - 4)) (.int .i64 n); generalize (w2.setCell ⟨q, 0, none⟩ (.int .i64 (f - 4))).setCell ⟨q, 1, none⟩ (.int .i64 n) = V at q0 q1 hBV ⊢; refine bodyPost_ret (v := .agg #[.int .i64 (f - 4), .int .i64 n]) (by simp [results, Try.results54, go_sem, q0, q1]) rfl ⟨by rw [show max (f - 4) 0 = f - 4 from by omega], by rw [hq]; exact hBV⟩
      · go_wp2
        have hBV := hBs.out (.int .i64 (0)) (.int .i64 n); have q0 := hK0.out (.int .i64 (0)) (.int .i64 n); have q1 := hK1.out (.int .i64 (0)) (.int .i64 n); generalize (w2.setCell ⟨q, 0, none⟩ (.int .i64 (0))).setCell ⟨q, 1, none⟩ (.int .i64 n) = V at q0 q1 hBV ⊢; refine bodyPost_ret (v := .agg #[.int .i64 (0), .int .i64 n]) (by simp [results, Try.results54, go_sem, q0, q1]) rfl ⟨by rw [show max (f - 4) 0 = 0 from by omega], by rw [hq]; exact hBV⟩
    · have g2 : ((l : Int) == (m : Int)) = false := by simp; omega
      rcases (by omega : 0 ≤ f ∨ f < 0) with h0 | h0
      · go_wp2
        have hBV := hBs.out (.int .i64 (f)) (.int .i64 n); have q0 := hK0.out (.int .i64 (f)) (.int .i64 n); have q1 := hK1.out (.int .i64 (f)) (.int .i64 n); generalize (w2.setCell ⟨q, 0, none⟩ (.int .i64 (f))).setCell ⟨q, 1, none⟩ (.int .i64 n) = V at q0 q1 hBV ⊢; refine bodyPost_ret (v := .agg #[.int .i64 (f), .int .i64 n]) (by simp [results, Try.results54, go_sem, q0, q1]) rfl ⟨by rw [show max (f) 0 = f from by omega], by rw [hq]; exact hBV⟩
      · exact absurd h0 (by omega)

end Go.Proofs.Ytmfoenhbldacfaa
