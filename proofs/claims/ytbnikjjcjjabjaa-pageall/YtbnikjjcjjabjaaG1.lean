/- Holes: which slots of a page have no record; a row of bytes of the call's own, written byte by byte. -/
import Derived.Test.YtbnikjjcjjabjaaP9
import Derived.Laws.BytesArg
namespace Go.Proofs.Ytbnikjjcjjabjaa
open Go.RowKit
set_option linter.unusedVariables false

theorem conv_rd {w : World} {ao : Option Addr} {n c : Nat} {xs : List Int} (h : Rd .u8 w ao n c xs) : (convert 32 9 (.slice ao n c)).run Try.prog w = .ok (.string (strOfNums xs)) w := by
  by_cases hn : 0 < n
  · obtain ⟨b, o, e, hc⟩ := h.cells hn
    subst e
    exact run_convert_bytes_arg w 32 5 Try.underlying32 Try.underlying5 b o n c xs h.len (fun i hi => by rw [hc i hi]; rfl) 9 Try.underlying9
  · obtain rfl : n = 0 := by omega
    obtain rfl : xs = [] := List.eq_nil_of_length_eq_zero h.len
    cases ao with
    | none => exact run_convert_bytes_nil w 32 5 Try.underlying32 Try.underlying5 0 c 9 Try.underlying9
    | some a =>
      rw [run_convert_bytes_string w 32 9 5 _ 0 c Try.underlying32 Try.underlying5 Try.underlying9, run_bytesToString w a 0 c [] (by simp [loadCells, loadCellsFrom])]
      rfl

/-- Which numbers stand where in the row of the slots that have a record. -/
theorem prs_at (R : List (List Int)) : ∀ n, (∀ t (h : t < (prs R n).length), (t < vac R → (prs R n)[t] = t) ∧ (vac R ≤ t → t < (prs R n)[t])) ∧ (n ≤ vac R → (prs R n).length = n) ∧ (vac R < n → vac R ≤ (prs R n).length ∧ (prs R n).length < n)
  | 0 => ⟨fun t h => by simp [prs] at h, fun _ => by simp [prs], fun h => by omega⟩
  | n + 1 => by
    obtain ⟨h1, h2, h3⟩ := prs_at R n
    by_cases e : rc R n = []
    · have hle : vac R ≤ n := by
        by_cases k : n < vac R
        · exact absurd e (vac_lt R n k)
        · omega
      have hs : prs R (n + 1) = prs R n := by rw [prs_succ, if_pos e]
      rw [hs]
      refine ⟨h1, fun k => by omega, fun _ => ?_⟩
      by_cases k : vac R < n
      · have := h3 k; omega
      · have := h2 (by omega); omega
    · have hs : prs R (n + 1) = prs R n ++ [n] := by rw [prs_succ, if_neg e]
      have hne : n ≠ vac R := fun k => by rw [k] at e; exact e (vac_out R)
      rw [hs]
      refine ⟨fun t h => ?_, fun k => by rw [List.length_append, h2 (by omega)]; rfl, fun k => by have := h3 (by omega); rw [List.length_append]; simp; omega⟩
      by_cases ht : t < (prs R n).length
      · rw [List.getElem_append_left ht]; exact h1 t ht
      · have htl : t = (prs R n).length := by simp at h; omega
        subst htl
        rw [List.getElem_append_right (Nat.le_refl _)]
        simp only [Nat.sub_self, List.getElem_cons_zero]
        by_cases k : n < vac R
        · have := h2 (by omega); omega
        · have := h3 (by omega); omega
theorem prI_at (R : List (List Int)) (n t : Nat) (h : t < (prI R n).length) : ((nth (prI R n) t == (t : Int)) = decide (t < vac R)) := by
  have hl : (prI R n).length = (prs R n).length := by simp [prI]
  have h' : t < (prs R n).length := by omega
  obtain ⟨h1, _⟩ := prs_at R n
  obtain ⟨a, b⟩ := h1 t h'
  have e : nth (prI R n) t = ((prs R n)[t] : Int) := by simp [nth, prI, h']
  rw [e]
  by_cases k : t < vac R
  · rw [a k]; simp [k]
  · have := b (by omega)
    rw [Bool.eq_iff_iff]
    simp
    omega
/-- With a record in the last slot: there is a hole if one of the row does not stand at its own number. -/
theorem hole_iff {R : List (List Int)} (h : Tm R) : decide (vac R < (prI R R.length).length) = decide (vac R < R.length) := by
  have hl : (prI R R.length).length = (prs R R.length).length := by simp [prI]
  obtain ⟨_, h2, h3⟩ := prs_at R R.length
  have hv := vac_le R
  rw [hl, Bool.eq_iff_iff]
  simp only [decide_eq_true_eq]
  by_cases k : vac R < R.length
  · refine ⟨fun _ => k, fun _ => ?_⟩
    have hlast := h.resolve_left (by omega)
    have hne : R.length - 1 ≠ vac R := fun e => by rw [e] at hlast; exact hlast (vac_out R)
    have hmem : R.length - 1 ∈ prs R R.length := prs_mem.2 ⟨by omega, hlast⟩
    obtain ⟨t, ht, e⟩ := List.getElem_of_mem hmem
    obtain ⟨a, b⟩ := (prs_at R R.length).1 t ht
    by_cases k2 : t < vac R
    · have := a k2; omega
    · omega
  · have := h2 (by omega)
    omega

theorem vacSet_free {R : List (List Int)} (b : List Int) : freeR (setR R (vac R) b) = freeR R - b.length - (if vac R < R.length then 0 else 4) := by
  rw [setR_free (vac_le R) b, vac_out R]; simp

theorem layR_tm {R : List (List Int)} (h : Tm R) {s : Nat} (hs : s ≤ R.length) (b : List Int) : Tm (layR R s b) := by
  rw [layR]; split
  · rename_i e
    refine setR_tm h hs fun hb => ?_
    rw [layE, if_pos (.inl hb)] at e
    omega
  · exact h

/-- Block q holds those bytes, and is the call's own. -/
structure Bx8 (W w : World) (q : Nat) (bs : List Int) : Prop where
  row : w.heap[q]? = some (.cells (bs.map (Value.int .u8)).toArray 5 (0, 0))
  own : W.heap.size ≤ q
theorem Bx8.lt {W w : World} {q : Nat} {bs : List Int} (h : Bx8 W w q bs) : q < w.heap.size := (Array.getElem?_eq_some_iff.1 h.row).1
theorem Bx8.cell {W w : World} {q : Nat} {bs : List Int} (h : Bx8 W w q bs) {i : Nat} (hi : i < bs.length) : w.cell? ⟨q, i, none⟩ = some (.int .u8 (nth bs i)) := by
  rw [cell_of_row _ _ _ _ _ _ h.row]; simp [nth, hi]
theorem Bx8.frozen {W w : World} {q : Nat} {bs : List Int} (h : Bx8 W w q bs) (i : Nat) : w.frozen? ⟨q, i, none⟩ = false := by
  unfold World.frozen?; rw [h.row]; rfl
theorem Bx8.set {W w : World} {q : Nat} {bs : List Int} (h : Bx8 W w q bs) {i : Nat} {v : Int} : Bx8 W (w.setCell ⟨q, i, none⟩ (.int .u8 v)) q (bs.set i v) :=
  ⟨by simp [World.setCell, Array.getElem?_modify, h.row], h.own⟩
theorem Bx8.later {W w w' : World} {q : Nat} {bs : List Int} (h : Bx8 W w q bs) (hb : Below w.heap.size w w') : Bx8 W w' q bs := ⟨by rw [hb.block q h.lt]; exact h.row, h.own⟩
theorem Bx8.rest {W w w' : World} {g q : Nat} {bs : List Int} (h : Bx8 W w q bs) (hb : Rest g w w') (hg : q ≠ g) : Bx8 W w' q bs := ⟨by rw [hb.block q h.lt hg]; exact h.row, h.own⟩
theorem Bx8.rd {W w : World} {q n : Nat} {bs : List Int} (h : Bx8 W w q bs) (hn : bs.length = n) (h1 : n ≤ 100000) : Rd .u8 w (some ⟨q, 0, none⟩) n n bs :=
  ⟨hn, Nat.le_refl _, by omega, (fun e => by cases e), fun _ => ⟨q, 0, rfl, fun i hi => by rw [Nat.zero_add]; exact h.cell (by omega)⟩⟩
theorem Bx8.new {W w : World} (hb : Below W.heap.size W w) (k : Nat) : Bx8 W (w.alloc (.cells (zc k) 5)) w.heap.size (List.replicate k 0) := ⟨heap_alloc_last w _, hb.size⟩
theorem My.set8 {W w : World} {g q : Nat} {R : List (List Int)} (h : My W w g R) (hq : W.heap.size ≤ q) (hne : g ≠ q) (i : Nat) (v : Value) : My W (w.setCell ⟨q, i, none⟩ v) g R := h.other (Rest.set q i w v) hq hne

end Go.Proofs.Ytbnikjjcjjabjaa
