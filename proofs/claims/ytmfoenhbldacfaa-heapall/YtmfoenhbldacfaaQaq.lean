import Derived.Test.YtmfoenhbldacfaaQap
/- A heap's list of free pages: one in, one out. -/
namespace Go.Proofs.Ytmfoenhbldacfaa
open Go.RowKit
set_option linter.unusedVariables false
set_option linter.unusedSimpArgs false

set_option maxRecDepth 100000 in
set_option maxHeartbeats 2000000 in
theorem list_any {B : Nat} {w : World} {H : Hs} (h : HI B w H) (hs : H.F.Pairwise glt) (hl : H.F.length ≤ 900) (r n : Int) :
    Calls Try.prog 56 #[.pointer (some ⟨H.hb, 0, none⟩), .agg #[.int .i64 r, .int .i64 n]] w fun e w' => e = .returned (.tuple #[]) ∧ (∃ v, HI B w' { H with fv := v, F := if 0 < r then insG H.F (r, n) else H.F }) ∧ Ft B noX w w' := by
  have hb0 : Below w.heap.size w (w.alloc (.cells #[.int .i64 r, .int .i64 n] 66)) := (Below.refl _ _).alloc (Nat.le_refl _) _
  by_cases hr : 0 < r
  · rw [if_pos hr]
    have g1 : decide (r > 0) = true := by simpa using hr
    have g1' : decide (0 < r) = true := by simpa using hr
    obtain ⟨ao, c, hfv, _⟩ := h.fr.cells
    have hlb := lb_le H.F (r, n)
    have HS : Hid (∀ w', Below w.heap.size w w' → _) := fun w' k => search_any (w := w') (ao := ao) (n := H.F.length) (c := c) (by rw [← hfv]; exact h.fr.later k) hs (by omega) r n
    have HIn : Hid (∀ w', Below w.heap.size w w' → Calls Try.prog 69 #[.slice ao H.F.length c, .int .i64 (lb H.F (r, n) : Int), .slice (some ⟨w'.heap.size, 0, none⟩) 1 1] (w'.alloc (.cells #[.int .i64 r, .int .i64 n] 66)) fun e w2 => ∃ v', e = .returned v' ∧ OwnG B w2 v' (insG H.F (r, n)) ∧ (w'.alloc (.cells #[.int .i64 r, .int .i64 n] 66)).grownBy w2 H.fv.ownBlock) := fun w' k => by
      have k2 : Below w.heap.size w (w'.alloc (.cells #[.int .i64 r, .int .i64 n] 66)) := k.alloc k.size _
      have := insert_any (w := w'.alloc (.cells #[.int .i64 r, .int .i64 n] 66)) (v := H.fv) (h.fr.later k2) (r, n) w'.heap.size ⟨heap_alloc_last _ _⟩ (fun g hg => by
        have h1 := k.size
        obtain ⟨_, A, h2⟩ := h.ownb g hg
        have h3 := (Array.getElem?_eq_some_iff.1 h2).1
        omega) (lb H.F (r, n)) hlb hl (by have := h.bw; have := k2.size; omega)
      rw [hfv] at this ⊢
      exact this
    have HC : Hid (∀ w', Below w.heap.size w w' → w'.cell? ⟨H.hb, 2, none⟩ = some (.slice ao H.F.length c)) := fun w' k => bcl k (by rw [← hfv]; exact h.cells.2.2.1)
    have HC2 : Hid (∀ w' y, Below w.heap.size w w' → w'.grownBy y H.fv.ownBlock → y.cell? ⟨H.hb, 2, none⟩ = some (.slice ao H.F.length c)) := fun w' y k g => g.cell (bcl k (by rw [← hfv]; exact h.cells.2.2.1)) (fun e => by
      obtain ⟨_, A, h2⟩ := h.ownb _ e.symm
      rw [h.hdr] at h2
      exact absurd (Option.some.inj h2) (ty_ne (by decide)))
    have HL : Hid (∀ w' y v, Below w.heap.size w w' → w'.grownBy y H.fv.ownBlock → OwnG B y v (insG H.F (r, n)) → HI B (y.setCell ⟨H.hb, 2, none⟩ v) { H with fv := v, F := insG H.F (r, n) } ∧ Ft B noX w (y.setCell ⟨H.hb, 2, none⟩ v) ∧ y.frozen? ⟨H.hb, 2, none⟩ = false) := fun w' y v k g hv => by
      have h' := h.later k
      have hd : y.heap[H.hb]? = w'.heap[H.hb]? := g.block _ h'.lt fun e2 => by
        obtain ⟨_, A, h2⟩ := h'.ownb _ e2.symm
        rw [h'.hdr] at h2
        exact absurd (Option.some.inj h2) (ty_ne (by decide))
      refine ⟨h'.list g hv, (Ft.of k).trans ((Ft.grown g h'.ownb).trans (Ft.rest (Rest.set H.hb 2 y v) h.bh (by rw [hd]; exact h'.hdr) (.inl ⟨_, rfl⟩))), ?_⟩
      unfold World.frozen?; rw [hd, h'.hdr]; rfl
    obtain ⟨b, hbe⟩ : ∃ b, lb H.F (r, n) = b := ⟨_, rfl⟩
    obtain ⟨N, hN⟩ : ∃ b, H.F.length = b := ⟨_, rfl⟩
    obtain ⟨I, hI⟩ : ∃ b, decide (inG H.F (r, n)) = b := ⟨_, rfl⟩
    rw [hbe, hN, hI] at HS
    rw [hbe, hN] at HIn
    rw [hN] at HC HC2
    have hqe : H.hb < w.heap.size := h.lt
    have hrq : some w.heap.size ≠ H.fv.ownBlock := fun e => by
      obtain ⟨_, A, h2⟩ := h.ownb _ e.symm
      have := (Array.getElem?_eq_some_iff.1 h2).1
      omega
    obtain ⟨H0, hH0⟩ : ∃ x, H.hb = x := ⟨_, rfl⟩
    rw [hH0] at HC HC2 hqe
    generalize hrow : H.fv.ownBlock = row at *
    generalize hIF : insG H.F (r, n) = IF at *
    have k0 : (w.alloc (.cells #[.int .i64 r, .int .i64 n] 66)).cell? ⟨w.heap.size, 0, none⟩ = some (.int .i64 r) := by simp [go_sem]
    have k1 : (w.alloc (.cells #[.int .i64 r, .int .i64 n] 66)).cell? ⟨w.heap.size, 1, none⟩ = some (.int .i64 n) := by simp [go_sem]
    replace hH0 : Hid _ := hH0
    replace hN : Hid _ := hN
    replace hfv : Hid _ := hfv
    replace hI : Hid _ := hI
    replace hbe : Hid _ := hbe
    have hh : Hid _ := h
    clear h hs hl hlb
    go_enter Try.func56, Try.ntmps56
    rw [hH0.out]
    go_upto_region 2 with fail
    generalize hW : (w.alloc (.cells #[.int .i64 r, .int .i64 n] 66)) = W at *
    have hC : Below w.heap.size w W.drew := hb0.drew
    have hD : Below W.heap.size W W.drew := (Below.refl _ _).drew
    have kk : Hid (∀ w', Below W.heap.size W w' → w'.cell? ⟨w.heap.size, 0, none⟩ = some (.int .i64 r) ∧ w'.cell? ⟨w.heap.size, 1, none⟩ = some (.int .i64 n)) := fun w' k => ⟨bcl k k0, bcl k k1⟩
    go_region_held3 (fun w' => w'.cell? ⟨H0, 2, none⟩ = some (.slice ao N c) ∧ w'.cell? ⟨w.heap.size, 0, none⟩ = some (.int .i64 r) ∧ w'.cell? ⟨w.heap.size, 1, none⟩ = some (.int .i64 n)) (exact ⟨HC.out _ hC, kk.out _ hD⟩)
      (first | (go_at_call 58; refine Calls.mono (HS.out _ hC) ?_; rintro e y1 ⟨rfl, hb1⟩; replace hC := bthen hC hb1; replace hD := bthen hD hb1))
    all_goals
      obtain ⟨j0, j1⟩ := kk.out _ hD
      have j2 := HC.out _ hC
      go_upto_region 3 with fail
      have hC3 : Below w.heap.size w y1.drew := hC.drew
      have hC4 : Below w.heap.size w (y1.drew.alloc (.cells #[.int .i64 r, .int .i64 n] 66)) := hC3.alloc hC3.size _
      have A0 : y1.drew.cell? ⟨H0, 2, none⟩ = some (.slice ao N c) ∧ y1.drew.cell? ⟨w.heap.size, 0, none⟩ = some (.int .i64 r) ∧ y1.drew.cell? ⟨w.heap.size, 1, none⟩ = some (.int .i64 n) := ⟨j2, j0, j1⟩
      have A1 : (y1.drew.alloc (.cells #[.int .i64 r, .int .i64 n] 66)).cell? ⟨H0, 2, none⟩ = some (.slice ao N c) ∧ (y1.drew.alloc (.cells #[.int .i64 r, .int .i64 n] 66)).cell? ⟨w.heap.size, 0, none⟩ = some (.int .i64 r) ∧ (y1.drew.alloc (.cells #[.int .i64 r, .int .i64 n] 66)).cell? ⟨w.heap.size, 1, none⟩ = some (.int .i64 n) :=
        have k : Below y1.drew.heap.size y1.drew (y1.drew.alloc (.cells #[.int .i64 r, .int .i64 n] 66)) := (Below.refl _ _).alloc (Nat.le_refl _) _
        ⟨bcl k j2, bcl k j0, bcl k j1⟩
      have HA2 : Hid (∀ y3, (y1.drew.alloc (.cells #[.int .i64 r, .int .i64 n] 66)).grownBy y3 row → y3.cell? ⟨H0, 2, none⟩ = some (.slice ao N c) ∧ y3.cell? ⟨w.heap.size, 0, none⟩ = some (.int .i64 r) ∧ y3.cell? ⟨w.heap.size, 1, none⟩ = some (.int .i64 n)) := fun y3 g =>
        ⟨HC2.out _ _ hC4 g, g.cell A1.2.1 hrq, g.cell A1.2.2 hrq⟩
      have HI3 := HIn.out _ hC3
      have hz2 : w.heap.size < y1.heap.size := World.block_lt_of_cell? _ _ j0
      have hz1 : H0 < y1.heap.size := by omega
      have HL3 : Hid _ := HL.out (y1.drew.alloc (.cells #[.int .i64 r, .int .i64 n] 66))
      clear HIn HC HC2 HS hC hD kk HL
      obtain ⟨A00, A01, A02⟩ := A0
      obtain ⟨A10, A11, A12⟩ := A1
      go_region_with (first | (refine Calls.mono HI3 ?_; rintro e y3 ⟨v', rfl, hO3, hg3⟩; obtain ⟨a2, c2, rfl, -⟩ := hO3.cells; obtain ⟨A20, A21, A22⟩ := HA2.out _ hg3; have L0 := HL3.out _ _ hC4 hg3 hO3; have L3 : y3.frozen? ⟨H0, 2, none⟩ = false := by (rw [← hH0.out]; exact L0.2.2)))
      all_goals
        have e := hH0.out
        subst e
        first
        | exact bodyPost_end (results_none rfl _ _ _) rfl ⟨rfl, ⟨_, L0.1⟩, L0.2.1⟩
        | (go_wp2; exact bodyPost_end (results_none rfl _ _ _) rfl ⟨rfl, ⟨_, L0.1⟩, L0.2.1⟩)
  · rw [if_neg hr]
    have g1 : decide (r > 0) = false := by simpa using hr
    have g1' : decide (0 < r) = false := by simpa using hr
    have hX := h.later hb0
    have hY : Ft B noX w _ := Ft.of hb0
    go_enter Try.func56, Try.ntmps56
    go_wp2
    exact bodyPost_end (results_none rfl _ _ _) rfl ⟨rfl, ⟨_, hX⟩, hY⟩

set_option maxRecDepth 100000 in
set_option maxHeartbeats 2000000 in
theorem unlist_any {B : Nat} {w : World} {H : Hs} (h : HI B w H) (hs : H.F.Pairwise glt) (hl : H.F.length ≤ 900) (r n : Int) :
    Calls Try.prog 53 #[.pointer (some ⟨H.hb, 0, none⟩), .agg #[.int .i64 r, .int .i64 n]] w fun e w' => e = .returned (.tuple #[]) ∧ (∃ v, HI B w' { H with fv := v, F := if inG H.F (r, n) then delG H.F (r, n) else H.F }) ∧ Ft B noX w w' := by
  have hb0 : Below w.heap.size w (w.alloc (.cells #[.int .i64 r, .int .i64 n] 66)) := (Below.refl _ _).alloc (Nat.le_refl _) _
  obtain ⟨ao, c, hfv, _⟩ := h.fr.cells
  have HS : Hid (∀ w', Below w.heap.size w w' → _) := fun w' k => search_any (w := w') (ao := ao) (n := H.F.length) (c := c) (by rw [← hfv]; exact h.fr.later k) hs (by omega) r n
  have HC : Hid (∀ w', Below w.heap.size w w' → w'.cell? ⟨H.hb, 2, none⟩ = some (.slice ao H.F.length c)) := fun w' k => bcl k (by rw [← hfv]; exact h.cells.2.2.1)
  have HIn : Hid (∀ w', Below w.heap.size w w' → inG H.F (r, n) → Calls Try.prog 68 #[.slice ao H.F.length c, .int .i64 (lb H.F (r, n) : Int), .int .i64 ((lb H.F (r, n) : Int) + 1)] w' fun e w2 => ∃ v', e = .returned v' ∧ OwnG B w2 v' (delG H.F (r, n)) ∧ w'.grownBy w2 H.fv.ownBlock) := fun w' k hin => by
    have hlt : lb H.F (r, n) < H.F.length := (List.getElem?_eq_some_iff.1 hin).1
    have hO := h.fr.later k
    rcases h.fr.parts with ⟨e, hF⟩ | ⟨g, cap, cur, e, _⟩
    · rw [hF] at hlt; cases hlt
    · rw [hfv] at e
      cases e
      rw [hfv] at hO ⊢
      refine Calls.mono (delete_any hO _ hlt (by omega)) ?_
      rintro e w2 ⟨rfl, h1, h2⟩
      exact ⟨_, rfl, h1, ⟨h2.os, h2.tape, h2.output, h2.size, fun k hk hkg => h2.block k hk (fun e => hkg (by rw [e]; rfl))⟩⟩
  have HL : Hid (∀ w' y v, Below w.heap.size w w' → w'.grownBy y H.fv.ownBlock → OwnG B y v (delG H.F (r, n)) → HI B (y.setCell ⟨H.hb, 2, none⟩ v) { H with fv := v, F := delG H.F (r, n) } ∧ Ft B noX w (y.setCell ⟨H.hb, 2, none⟩ v) ∧ y.frozen? ⟨H.hb, 2, none⟩ = false ∧ y.cell? ⟨H.hb, 2, none⟩ = some (.slice ao H.F.length c)) := fun w' y v k g hv => by
    have h' := h.later k
    have hd : y.heap[H.hb]? = w'.heap[H.hb]? := g.block _ h'.lt fun e2 => by
      obtain ⟨_, A, h2⟩ := h'.ownb _ e2.symm
      rw [h'.hdr] at h2
      exact absurd (Option.some.inj h2) (ty_ne (by decide))
    refine ⟨h'.list g hv, (Ft.of k).trans ((Ft.grown g h'.ownb).trans (Ft.rest (Rest.set H.hb 2 y v) h.bh (by rw [hd]; exact h'.hdr) (.inl ⟨_, rfl⟩))), ?_, ?_⟩
    · unfold World.frozen?; rw [hd, h'.hdr]; rfl
    · rw [World.cell?_of_block (a := ⟨H.hb, 2, none⟩) hd, ← hfv]; exact h'.cells.2.2.1
  have HN : Hid (∀ w', Below w.heap.size w w' → HI B w' { H with fv := H.fv, F := H.F } ∧ Ft B noX w w') := fun w' k => ⟨h.later k, Ft.of k⟩
  have hlb : lb H.F (r, n) ≤ 900 := by have := lb_le H.F (r, n); omega
  obtain ⟨b, hbe⟩ : ∃ b, lb H.F (r, n) = b := ⟨_, rfl⟩
  obtain ⟨N, hN⟩ : ∃ b, H.F.length = b := ⟨_, rfl⟩
  rw [hbe, hN] at HS
  rw [hbe, hN] at HIn
  rw [hN] at HC HL
  rw [hbe] at hlb
  have hqe : H.hb < w.heap.size := h.lt
  obtain ⟨H0, hH0⟩ : ∃ x, H.hb = x := ⟨_, rfl⟩
  rw [hH0] at HC hqe
  generalize hrow : H.fv.ownBlock = row at *
  have k0 : (w.alloc (.cells #[.int .i64 r, .int .i64 n] 66)).cell? ⟨w.heap.size, 0, none⟩ = some (.int .i64 r) := by simp [go_sem]
  have k1 : (w.alloc (.cells #[.int .i64 r, .int .i64 n] 66)).cell? ⟨w.heap.size, 1, none⟩ = some (.int .i64 n) := by simp [go_sem]
  replace hH0 : Hid _ := hH0
  replace hN : Hid _ := hN
  replace hfv : Hid _ := hfv
  replace hbe : Hid _ := hbe
  have hwr : IntKind.i64.wrap ((b : Int) + 1) = (b : Int) + 1 := by rw [IntKind.wrap_i64]; omega
  by_cases hin : inG H.F (r, n)
  · rw [if_pos hin]
    rw [decide_eq_true hin] at HS
    replace HIn : Hid (∀ w', Below w.heap.size w w' → _) := fun w' k => HIn.out w' k hin
    clear h hs hl hin
    go_enter Try.func53, Try.ntmps53
    rw [hH0.out]
    go_upto_region 1 with fail
    generalize hW : (w.alloc (.cells #[.int .i64 r, .int .i64 n] 66)) = W at *
    have hC : Below w.heap.size w W.drew := hb0.drew
    have hD : Below W.heap.size W W.drew := (Below.refl _ _).drew
    have kk : Hid (∀ w', Below W.heap.size W w' → w'.cell? ⟨w.heap.size, 0, none⟩ = some (.int .i64 r) ∧ w'.cell? ⟨w.heap.size, 1, none⟩ = some (.int .i64 n)) := fun w' k => ⟨bcl k k0, bcl k k1⟩
    go_region_held3 (fun w' => w'.cell? ⟨H0, 2, none⟩ = some (.slice ao N c) ∧ w'.cell? ⟨w.heap.size, 0, none⟩ = some (.int .i64 r) ∧ w'.cell? ⟨w.heap.size, 1, none⟩ = some (.int .i64 n)) (exact ⟨HC.out _ hC, kk.out _ hD⟩)
      (first | (go_at_call 58; refine Calls.mono (HS.out _ hC) ?_; rintro e y1 ⟨rfl, hb1⟩; replace hC := bthen hC hb1; replace hD := bthen hD hb1))
    all_goals
      obtain ⟨j0, j1⟩ := kk.out _ hD
      have j2 := HC.out _ hC
      have HI3 : Hid _ := HIn.out _ hC
      have HL3 : Hid _ := HL.out y1
      clear HIn HC HS hD kk HL HN
      go_wp2_with fail
      refine Calls.mono HI3.out ?_
      rintro e y3 ⟨v', rfl, hO3, hg3⟩
      obtain ⟨a2, c2, rfl, -⟩ := hO3.cells
      have L0 := HL3.out _ _ hC hg3 hO3
      have L3 : y3.frozen? ⟨H0, 2, none⟩ = false := by rw [← hH0.out]; exact L0.2.2.1
      have L4 : y3.cell? ⟨H0, 2, none⟩ = some (.slice ao N c) := by rw [← hH0.out]; exact L0.2.2.2
      go_wp2
      have e := hH0.out
      subst e
      exact bodyPost_end (results_none rfl _ _ _) rfl ⟨rfl, ⟨_, L0.1⟩, L0.2.1⟩
  · rw [if_neg hin]
    rw [decide_eq_false hin] at HS
    clear h hs hl hin HIn
    go_enter Try.func53, Try.ntmps53
    rw [hH0.out]
    go_upto_region 1 with fail
    generalize hW : (w.alloc (.cells #[.int .i64 r, .int .i64 n] 66)) = W at *
    have hC : Below w.heap.size w W.drew := hb0.drew
    have hD : Below W.heap.size W W.drew := (Below.refl _ _).drew
    have kk : Hid (∀ w', Below W.heap.size W w' → w'.cell? ⟨w.heap.size, 0, none⟩ = some (.int .i64 r) ∧ w'.cell? ⟨w.heap.size, 1, none⟩ = some (.int .i64 n)) := fun w' k => ⟨bcl k k0, bcl k k1⟩
    go_region_held3 (fun w' => w'.cell? ⟨H0, 2, none⟩ = some (.slice ao N c) ∧ w'.cell? ⟨w.heap.size, 0, none⟩ = some (.int .i64 r) ∧ w'.cell? ⟨w.heap.size, 1, none⟩ = some (.int .i64 n)) (exact ⟨HC.out _ hC, kk.out _ hD⟩)
      (first | (go_at_call 58; refine Calls.mono (HS.out _ hC) ?_; rintro e y1 ⟨rfl, hb1⟩; replace hC := bthen hC hb1; replace hD := bthen hD hb1))
    all_goals
      have HN3 := HN.out _ hC
      go_wp2
      have e := hH0.out
      subst e
      exact bodyPost_end (results_none rfl _ _ _) rfl ⟨rfl, ⟨_, HN3.1⟩, HN3.2⟩

end Go.Proofs.Ytmfoenhbldacfaa
