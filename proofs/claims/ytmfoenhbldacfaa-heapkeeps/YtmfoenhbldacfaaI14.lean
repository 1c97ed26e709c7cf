/- A record out of a page, a record into one. -/
import Derived.Test.YtmfoenhbldacfaaI13
namespace Go.Proofs.Ytmfoenhbldacfaa
open Go.RowKit
set_option linter.unusedVariables false
set_option linter.unusedSimpArgs false

theorem nh_cells {A : Array Value} {t : TypeId} (h1 : t ≠ 46) (h2 : t ≠ 66) (h3 : t ≠ 69) : ¬ Hy (.cells A t (0, 0)) := by
  rintro (⟨A', e⟩ | ⟨es, c, e⟩ | ⟨A', e⟩ | ⟨A', e⟩)
  · exact ty_ne h1 e
  · cases e
  · exact ty_ne h2 e
  · exact ty_ne h3 e
/-- A block of the call's own does not count. -/
theorem Ft.fresh {B : Nat} {X : Nat → Prop} {w w0 w' : World} (h0 : Below w.heap.size w w0) (h : Ft B X w0 w') (hX : ∀ k, X k → w.heap.size ≤ k) : Ft B noX w w' :=
  ⟨h.os.trans h0.os, h.tape.trans h0.tape, h.output.trans h0.output, Nat.le_trans h0.size h.size, fun k o e _ hk => by
    have hl := (Array.getElem?_eq_some_iff.1 e).1
    exact h.block k o (by rw [h0.block k hl]; exact e) (fun hx => by have := hX k hx; omega) hk⟩

set_option maxRecDepth 100000 in
set_option maxHeartbeats 2000000 in
theorem drop1_any {w : World} {g q : Nat} {Bt : List Int} {R : Rc} {n : Int} {s : Nat} (hP : Pi w g Bt R allP) (hs : rc R s ≠ []) (hq : w.heap[q]? = some (.cells #[.int .i64 n, .int .i64 (s : Int)] 57 (0, 0))) :
    Calls Try.prog 33 #[.pointer (some ⟨g, 0, none⟩), .pointer (some ⟨q, 0, none⟩)] w fun e w2 => e = .returned (.tuple #[]) ∧ (∃ Bt', Pi w2 g Bt' (trimR (R.set s [])) allP) ∧ w2.heap[q]? = some (.cells #[.int .i64 n, .int .i64 (s : Int)] 57 (0, 0)) ∧ Rx g q w w2 := by
  have HD : Hid _ := drop_any hP s hs
  have c1 : w.cell? ⟨q, 1, none⟩ = some (.int .i64 (s : Int)) := cell_of_row _ _ _ _ _ _ hq
  have hne : q ≠ g := ob_ne hq hP.pg.row (ty_ne (by decide))
  replace hq : Hid _ := hq
  clear hP hs
  go_enter Try.func33, Try.ntmps33
  go_wp2_with fail
  refine Calls.mono HD.out ?_
  rintro e w2 ⟨rfl, hp2, hr⟩
  have hq2 : w2.heap[q]? = some (.cells #[.int .i64 n, .int .i64 (s : Int)] 57 (0, 0)) := by
    rw [hr.block q (Array.getElem?_eq_some_iff.1 hq.out).1 hne]; exact hq.out
  have hx : Rx g q w w2 := ⟨hr.os, hr.tape, hr.output, hr.size, fun k h1 h2 _ => hr.block k h1 h2⟩
  clear HD hr
  go_wp2
  exact bodyPost_end (results_none rfl _ _ _) rfl ⟨rfl, hp2, hq2, hx⟩

set_option maxRecDepth 100000 in
set_option maxHeartbeats 2000000 in
theorem hdrop_any {B : Nat} {w : World} {H : Hs} (h : HI B w H) (hp : HP H none) {n : Int} {g s : Nat} {R : Rc} (hn : (n, (g, R)) ∈ H.G) (hs : rc R s ≠ []) (hl : H.G.length ≤ 900) :
    Calls Try.prog 21 #[.pointer (some ⟨H.hb, 0, none⟩), .agg #[.int .i64 n, .int .i64 (s : Int)]] w fun e w' => e = .returned (.tuple #[]) ∧ (∃ v, HI B w' { H with fv := v, G := chG H.G n g (trimR (R.set s [])), F := chF H.F n R (trimR (R.set s [])) }) ∧ Ft B noX w w' := by
  have hb0 : Below w.heap.size w (w.alloc (.cells #[.int .i64 n, .int .i64 (s : Int)] 57)) := (Below.refl _ _).alloc (Nat.le_refl _) _
  have hx : (w.alloc (.cells #[.int .i64 n, .int .i64 (s : Int)] 57)).heap[w.heap.size]? = some (.cells #[.int .i64 n, .int .i64 (s : Int)] 57 (0, 0)) := heap_alloc_last w _
  have HC := change_any (h.later hb0) (hp.exempt (some n)) hn (trimR_tm (R.set s [])) hl (N := 33) (caps := #[.pointer (some ⟨w.heap.size, 0, none⟩)]) (by intro args w'; kernel_rfl) hx (nh_cells (by decide) (by decide) (by decide))
    (fun w1 Bt k1 k2 k3 => drop1_any k2 hs k3) (nh_cells (by decide) (by decide) (by decide))
  replace HC : Hid _ := HC
  have k0 : (w.alloc (.cells #[.int .i64 n, .int .i64 (s : Int)] 57)).cell? ⟨w.heap.size, 0, none⟩ = some (.int .i64 n) := cell_of_row _ _ _ _ _ _ hx
  clear h hp hn hs hx
  go_enter Try.func21, Try.ntmps21
  go_wp2_with fail
  refine Calls.mono HC.out ?_
  rintro e w2 ⟨rfl, hI, hft, _⟩
  have hft2 := hft.fresh hb0 (fun k e => by rw [e]; exact Nat.le_refl _)
  clear HC hft
  go_wp2
  exact bodyPost_end (results_none rfl _ _ _) rfl ⟨rfl, hI, hft2⟩

end Go.Proofs.Ytmfoenhbldacfaa
