/- The walks of 'slices.Clone', 'slices.Sort', 'slices.Compact', 'label.ordered' and 'label.Norm' at the three tags 3, 1, 3. -/
import Derived.Test.YtghifjiohgninaaIns
import Derived.Lib.SliceRun
namespace Go.Proofs.Ytghifjiohgninaa
open Go.RowKit
set_option linter.unusedVariables false

set_option maxHeartbeats 1000000 in
theorem pdq_313 (g cap : Nat) (k : Int) (w : World) (h0 : w.cell? ⟨g, 0, none⟩ = some (.int .u16 3)) (h1 : w.cell? ⟨g, 1, none⟩ = some (.int .u16 1)) (h2 : w.cell? ⟨g, 2, none⟩ = some (.int .u16 3))
    (f0 : w.frozen? ⟨g, 0, none⟩ = false) (f1 : w.frozen? ⟨g, 1, none⟩ = false) :
    Calls Try.prog 30 #[.slice (some ⟨g, 0, none⟩) 3 cap, .int .i64 0, .int .i64 3, .int .i64 k] w fun e w' => e = .returned (.tuple #[]) ∧ Same4 w' ((w.setCell ⟨g, 1, none⟩ (.int .u16 3)).setCell ⟨g, 0, none⟩ (.int .u16 1)) := by
  go_enter Try.func30, Try.ntmps30
  go_wp2
  refine wp_loop_rounds 1 ?_
  rw [rounds_succ]
  go_wp2_with (go_at_call 32; refine (ins_313 g cap _ h0 h1 h2 f0 f1).mono ?_; rintro e w1 ⟨rfl, hw⟩)
  refine bodyPost_ret (results_none rfl _ _ _) rfl ?_
  exact ⟨rfl, by assumption⟩

set_option maxHeartbeats 1000000 in
theorem sort_313 (g cap : Nat) (w : World) (h0 : w.cell? ⟨g, 0, none⟩ = some (.int .u16 3)) (h1 : w.cell? ⟨g, 1, none⟩ = some (.int .u16 1)) (h2 : w.cell? ⟨g, 2, none⟩ = some (.int .u16 3))
    (f0 : w.frozen? ⟨g, 0, none⟩ = false) (f1 : w.frozen? ⟨g, 1, none⟩ = false) :
    Calls Try.prog 28 #[.slice (some ⟨g, 0, none⟩) 3 cap] w fun e w' => e = .returned (.tuple #[]) ∧ Same4 w' ((w.setCell ⟨g, 1, none⟩ (.int .u16 3)).setCell ⟨g, 0, none⟩ (.int .u16 1)) := by
  go_enter Try.func28, Try.ntmps28
  go_wp2_with fail
  refine (len3 _).mono ?_
  rintro e w1 ⟨k, rfl, rfl⟩
  go_wp2_with fail
  refine (pdq_313 g cap k _ h0 h1 h2 f0 f1).mono ?_
  rintro e w1 ⟨rfl, hw⟩
  go_wp2
  go_end0
  exact ⟨rfl, hw⟩

set_option maxHeartbeats 1000000 in
theorem compact_133 (g cap : Nat) (w : World) (hcap : 3 ≤ cap) (hmax : cap ≤ 9223372036854775807) (h0 : w.cell? ⟨g, 0, none⟩ = some (.int .u16 1)) (h1 : w.cell? ⟨g, 1, none⟩ = some (.int .u16 3)) (h2 : w.cell? ⟨g, 2, none⟩ = some (.int .u16 3))
    (f2 : w.frozen? ⟨g, 2, none⟩ = false) :
    Calls Try.prog 29 #[.slice (some ⟨g, 0, none⟩) 3 cap] w fun e w' => e = .returned (.slice (some ⟨g, 0, none⟩) 2 cap) ∧ Same4 w' (w.setCell ⟨g, 2, none⟩ (.int .u16 0)) := by
  have hcl : ∀ nq ty, (Builtin.clear_ #[22] ty #[.slice (some ⟨g, 2, none⟩) 1 (cap - 2)]).run Try.prog (w.drewN nq) = .ok (.tuple #[]) ((w.drewN nq).setCells g 2 (List.replicate 1 (.int .u16 0))) :=
    fun nq ty => Lib.run_clear_slice (w.drewN nq) 22 33 ty (.int .u16 0) Try.underlying22 (fun _ => by kernel_rfl) rfl rfl g 2 1 (cap - 2) (by omega) (fun j hj => by rw [cell_drewN, show 2 + j = 2 from by omega, h2]; rfl) (fun j hj => by rw [show 2 + j = 2 from by omega]; exact f2)
  simp only [List.replicate, World.setCells] at hcl
  go_enter Try.func29, Try.ntmps29
  go_wp2
  refine wp_loop_rounds 2 ?_
  rw [rounds_succ]
  go_wp2
  go_quiet (fail)
  go_wp2
  rw [rounds_succ]
  go_wp2
  go_quiet (fail)
  go_wp2
  refine wp_loop_rounds 1 ?_
  rw [rounds_succ]
  go_wp2
  go_ret
  exact ⟨rfl, rfl, rfl, rfl, rfl⟩

set_option maxHeartbeats 1000000 in
theorem clone_any (ad : Addr) (n c : Nat) (xs : List Int) (w : World) (h : Rd .u16 w (some ad) n c xs) (hn : n ≤ 1000) :
    Calls Try.prog 27 #[.slice (some ad) n c] w fun e w' => ∃ v, e = .returned v ∧ w'.ownsRow w.heap.size 33 1 v n (xs.map (Value.int .u16)) ∧ Below w.heap.size w w' ∧ (0 < n → v ≠ .slice none 0 0) := by
  obtain ⟨i0, hi, hz0, hz1, hz2⟩ := info_parts Try.info33
  have hnil := fun (w : World) => Lib.run_eql_slice_nil (P := Try.prog) w 22 33 (some ad) n c 0 0 Try.underlying22
  simp only [Option.isNone_some] at hnil
  have hlen := h.len
  go_enter Try.func27, Try.ntmps27
  have h' := h.later ((Below.refl w.heap.size w).alloc (Nat.le_refl _) (.cells #[] 33))
  have hm := World.ownsRow_made (size := 1) (e := 33) (base := w.heap.size) w #[] 0 (Nat.le_refl _) (Nat.zero_le _) rfl
  go_wp2_with (at_builtin; refine wpList_append_own _ rfl (.tmp 5) (.tmp 6) 22 rfl w.heap.size 33 i0 (.int .u16 0) 1 2 Try.underlying22 hi hz0 hz1 hz2 rfl (by decide) _ _ _ rfl hm ad n c (xs.map (Value.int .u16)) rfl (by simp; omega) h'.news (ints_one _ _) (by unfold maxLen; omega) (by omega) (by simp) ?_)
  intro v1 w1 hown1 hgrow1 hn1
  have hbel : Below w.heap.size w w1 := below_grown ((Below.refl w.heap.size w).alloc (Nat.le_refl _) _) (by simp) hm (Nat.le_refl _) hgrow1
  clear hgrow1 hm h'
  go_wp2
  go_ret
  exact ⟨v1, rfl, by simpa using hown1, hbel, fun _ => by simpa using hn1⟩

/-- A cell that is stored into holds what was stored; the others hold what they held. -/
theorem cell_set_same {w : World} {a : Addr} {v u : Value} (h : w.cell? a = some v) : (w.setCell a u).cell? a = some u := by simp [go_sem, h]
theorem cell_set_other {w : World} {a b : Addr} {u : Value} (h : b ≠ a) : (w.setCell a u).cell? b = w.cell? b := World.cell?_setCell_other _ _ _ _ (Ne.symm h)
theorem frozen_set (w : World) (a b : Addr) (u : Value) : (w.setCell a u).frozen? b = w.frozen? b := by simp [go_sem]

set_option maxHeartbeats 1000000 in
theorem ordered_313 (ad : Addr) (c : Nat) (w : World) (h : Rd .u16 w (some ad) 3 c [3, 1, 3]) :
    Calls Try.prog 24 #[.slice (some ad) 3 c] w fun e w' => ∃ oo q, e = .returned (.slice oo 2 q) ∧ Rd .u16 w' oo 2 q [1, 3] ∧ Below w.heap.size w w' := by
  have hr : risesB [3, 1, 3] = false := by decide
  go_enter Try.func24, Try.ntmps24
  go_wp2_with fail
  refine (rises_any (some ad) 3 c [3, 1, 3] w h).mono ?_
  rintro e w1 ⟨rfl, hb1⟩
  go_wp2_with fail
  refine (clone_any ad 3 c [3, 1, 3] w1 (h.later hb1) (by omega)).mono ?_
  rintro e w2 ⟨v, rfl, hown, hb2, hnn⟩
  rcases hown.2 with ⟨hv, _⟩ | ⟨g, cap, cur, hv, hg, hcur, hnc, hcm, hcs, htk⟩
  · exact absurd hv (hnn (by omega))
  rw [hv] at hown ⊢
  have hb12 : Below w.heap.size w w2 := hb1.trans (hb2.mono hb1.size)
  have e0 := hown.cellAt 0 (by omega)
  have e1 := hown.cellAt 1 (by omega)
  have e2 := hown.cellAt 2 (by omega)
  have f0 := hown.frozenAt 0
  have f1 := hown.frozenAt 1
  have f2 := hown.frozenAt 2
  simp only [List.map_cons, List.map_nil, List.getElem?_cons_zero, List.getElem?_cons_succ] at e0 e1 e2
  clear hown hv hnn htk hcur
  go_wp2_with fail
  refine (sort_313 g cap w2 e0 e1 e2 f0 f1).mono ?_
  rintro e w3 ⟨rfl, hs3⟩
  have d0 : w3.cell? ⟨g, 0, none⟩ = some (.int .u16 1) := by rw [same_cell hs3]; exact cell_set_same (v := .int .u16 3) (by rw [cell_set_other (by simp)]; exact e0)
  have d1 : w3.cell? ⟨g, 1, none⟩ = some (.int .u16 3) := by rw [same_cell hs3, cell_set_other (by simp)]; exact cell_set_same e1
  have d2 : w3.cell? ⟨g, 2, none⟩ = some (.int .u16 3) := by rw [same_cell hs3, cell_set_other (by simp), cell_set_other (by simp)]; exact e2
  have g2 : w3.frozen? ⟨g, 2, none⟩ = false := by rw [same_frozen hs3, frozen_set, frozen_set]; exact f2
  have hB3 : Below w.heap.size w w3 := hs3.below ((hb12.setCell (by have := hb1.size; simp; omega) _).setCell (by have := hb1.size; simp; omega) _)
  have hg' : w.heap.size ≤ g := by have := hb1.size; omega
  clear hs3 e0 e1 e2 f0 f1 f2
  go_wp2_with fail
  refine (compact_133 g cap w3 (by omega) hcm d0 d1 d2 g2).mono ?_
  rintro e w4 ⟨rfl, hs4⟩
  have k0 : w4.cell? ⟨g, 0, none⟩ = some (.int .u16 1) := by rw [same_cell hs4, cell_set_other (by simp)]; exact d0
  have k1 : w4.cell? ⟨g, 1, none⟩ = some (.int .u16 3) := by rw [same_cell hs4, cell_set_other (by simp)]; exact d1
  have hB4 : Below w.heap.size w w4 := hs4.below (hB3.setCell (by simp; omega) _)
  go_wp2
  go_ret
  refine ⟨some ⟨g, 0, none⟩, cap, rfl, ⟨rfl, by omega, hcm, fun e => by simp at e, fun _ => ⟨g, 0, rfl, fun i hi => ?_⟩⟩, hB4⟩
  rcases (by omega : i = 0 ∨ i = 1) with rfl | rfl
  · simpa [nth] using k0
  · simpa [nth] using k1

end Go.Proofs.Ytghifjiohgninaa
