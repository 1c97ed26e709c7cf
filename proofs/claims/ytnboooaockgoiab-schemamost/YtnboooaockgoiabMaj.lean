import Derived.Test.YtnboooaockgoiabMai
/- Views copied. -/
namespace Go.Proofs.Ytnboooaockgoiab
open Go.RowKit
set_option linter.unusedVariables false
set_option linter.unusedSimpArgs false

set_option maxRecDepth 100000 in
set_option maxHeartbeats 4000000 in
theorem copyView_cp (v : Vw) (hB : VwB v) : Cp eVw 21 v := by
  intro Q w cs h
  obtain ⟨a, n, c, s, rfl, hr, h, hi⟩ := h
  obtain ⟨nm, strip, m⟩ := v
  obtain ⟨hBn, hBs, hBm⟩ := hB
  simp only at hr h hBn hBs hBm ⊢
  have HS : Hid (∀ w', Below w.heap.size w w' → IsS Q w' m s) := hid fun w' hb => h.keep fun b _ hl => hb.block b hl
  clear h
  obtain ⟨sk, stb, snm, ⟨co1, co2, co3⟩, ⟨ta1, ta2, ta3⟩, ⟨va1, va2, va3⟩, ⟨it1, it2, it3⟩, sjn, ⟨on1, on2, on3⟩, ⟨wh1, wh2, wh3⟩, ⟨od1, od2, od3⟩, sds, sinn⟩ := s
  replace hi : sinn = (none, 0, 0) := hi
  subst hi
  unfold svC
  dsimp only
  go_enter Try.func21, Try.ntmps21
  go_upto_region 1 with fail
  generalize hU : (w.alloc (.cells #[.string nm, .slice a n c, .int .i64 sk, .string stb, .string snm, .slice co1 co2 co3, .slice ta1 ta2 ta3, .slice va1 va2 va3, .slice it1 it2 it3, .string sjn, .slice on1 on2 on3, .slice wh1 wh2 wh3, .slice od1 od2 od3, .bool sds, .slice none 0 0] 68)).alloc (.cells #[.string ⟨#[]⟩, .slice none 0 0, .int .i64 0, .string ⟨#[]⟩, .string ⟨#[]⟩, .slice none 0 0, .slice none 0 0, .slice none 0 0, .slice none 0 0, .string ⟨#[]⟩, .slice none 0 0, .slice none 0 0, .slice none 0 0, .bool false, .slice none 0 0] 68) = U
  have b0 : Bk U w.heap.size (.cells #[.string nm, .slice a n c, .int .i64 sk, .string stb, .string snm, .slice co1 co2 co3, .slice ta1 ta2 ta3, .slice va1 va2 va3, .slice it1 it2 it3, .string sjn, .slice on1 on2 on3, .slice wh1 wh2 wh3, .slice od1 od2 od3, .bool sds, .slice none 0 0] 68) := hU ▸ (Bk.new w _).later (bal (Below.refl _ _) _)
  have bx : Bk U (w.heap.size + 1) (.cells #[.string ⟨#[]⟩, .slice none 0 0, .int .i64 0, .string ⟨#[]⟩, .string ⟨#[]⟩, .slice none 0 0, .slice none 0 0, .slice none 0 0, .slice none 0 0, .string ⟨#[]⟩, .slice none 0 0, .slice none 0 0, .slice none 0 0, .bool false, .slice none 0 0] 68) := by
    have := Bk.new (w.alloc (.cells #[.string nm, .slice a n c, .int .i64 sk, .string stb, .string snm, .slice co1 co2 co3, .slice ta1 ta2 ta3, .slice va1 va2 va3, .slice it1 it2 it3, .string sjn, .slice on1 on2 on3, .slice wh1 wh2 wh3, .slice od1 od2 od3, .bool sds, .slice none 0 0] 68)) (.cells #[.string ⟨#[]⟩, .slice none 0 0, .int .i64 0, .string ⟨#[]⟩, .string ⟨#[]⟩, .slice none 0 0, .slice none 0 0, .slice none 0 0, .slice none 0 0, .string ⟨#[]⟩, .slice none 0 0, .slice none 0 0, .slice none 0 0, .bool false, .slice none 0 0] 68)
    rw [World.size_alloc] at this
    exact hU ▸ this
  have hw : Below w.heap.size w U := hU ▸ bal (bal (Below.refl _ _) _) _
  have hs : U.heap.size = w.heap.size + 2 := by rw [← hU]; simp
  have H1 : Hid (∀ w, _) := hid fun w => clone_any nm hBn w
  have H2 : Hid (∀ w1, Below U.heap.size U w1 → Calls Try.prog 39 #[.slice a n c] w1 (TeR eTag w1 strip)) := hid fun w1 hb => cloneLabel_any hBs (hr.keep (by decide) fun b _ hl => (Below.trans hw (hb.mono hw.size)).block b hl)
  have H3 : Hid (∀ w1, Below U.heap.size U w1 → Calls Try.prog 40 #[stV (⟨sk, stb, snm, (co1, co2, co3), (ta1, ta2, ta3), (va1, va2, va3), (it1, it2, it3), sjn, (on1, on2, on3), (wh1, wh2, wh3), (od1, od2, od3), sds, (none, 0, 0)⟩ : Sv)] w1 fun e w' => ∃ s', e = .returned (stV s') ∧ IsS (fun b => w1.heap.size ≤ b) w' m s' ∧ s'.inn = (none, 0, 0) ∧ Below w1.heap.size w1 w') := hid fun w1 hb => copyStmt_any hBm (HS.out w1 (Below.trans hw (hb.mono hw.size))) rfl
  have hY : Below U.heap.size U U.drew := (Below.refl _ _).drew
  have c0 := b0.cell 0
  have c1 := b0.cell 1
  have c2 := b0.cell 2
  have c3 := b0.cell 3
  have c4 := b0.cell 4
  have c5 := b0.cell 5
  have c6 := b0.cell 6
  have c7 := b0.cell 7
  have c8 := b0.cell 8
  have c9 := b0.cell 9
  have c10 := b0.cell 10
  have c11 := b0.cell 11
  have c12 := b0.cell 12
  have c13 := b0.cell 13
  have c14 := b0.cell 14
  simp only [List.getElem?_toArray, List.getElem?_cons_zero, List.getElem?_cons_succ] at c0 c1 c2 c3 c4 c5 c6 c7 c8 c9 c10 c11 c12 c13 c14
  replace bx := bx.later hY
  clear hBn hBs hBm hr HS b0
  replace hs : Hid _ := hid hs
  clear hU
  generalize hz : w.heap.size + 1 = z at bx ⊢
  have hzw : w.heap.size < z := by omega
  replace hz : Hid _ := hid hz
  go_wp2
  refine wp_region_held_drew (S := fun w' => w'.cell? ⟨w.heap.size, 0, none⟩ = some (.string nm) ∧ w'.cell? ⟨w.heap.size, 1, none⟩ = some (.slice a n c) ∧ w'.cell? ⟨w.heap.size, 2, none⟩ = some (.int .i64 sk) ∧ w'.cell? ⟨w.heap.size, 3, none⟩ = some (.string stb) ∧ w'.cell? ⟨w.heap.size, 4, none⟩ = some (.string snm) ∧ w'.cell? ⟨w.heap.size, 5, none⟩ = some (.slice co1 co2 co3) ∧ w'.cell? ⟨w.heap.size, 6, none⟩ = some (.slice ta1 ta2 ta3) ∧ w'.cell? ⟨w.heap.size, 7, none⟩ = some (.slice va1 va2 va3) ∧ w'.cell? ⟨w.heap.size, 8, none⟩ = some (.slice it1 it2 it3) ∧ w'.cell? ⟨w.heap.size, 9, none⟩ = some (.string sjn) ∧ w'.cell? ⟨w.heap.size, 10, none⟩ = some (.slice on1 on2 on3) ∧ w'.cell? ⟨w.heap.size, 11, none⟩ = some (.slice wh1 wh2 wh3) ∧ w'.cell? ⟨w.heap.size, 12, none⟩ = some (.slice od1 od2 od3) ∧ w'.cell? ⟨w.heap.size, 13, none⟩ = some (.bool sds) ∧ w'.cell? ⟨w.heap.size, 14, none⟩ = some (.slice none 0 0)) (by kernel_rfl) (⟨cell_later hY c0, cell_later hY c1, cell_later hY c2, cell_later hY c3, cell_later hY c4, cell_later hY c5, cell_later hY c6, cell_later hY c7, cell_later hY c8, cell_later hY c9, cell_later hY c10, cell_later hY c11, cell_later hY c12, cell_later hY c13, cell_later hY c14⟩) (fun hHeld => ?_)
  refine wpAnyH_take (i := 0) (v := ?tv68) rfl (by kernel_rfl) (by kernel_rfl) (by kernel_rfl) (fun _ _ _ h => h) (Or.inl ⟨by rfl, ?hy68⟩) (by assumption) ?rs68
  case hy68 => (intro w9 hSw; (try dsimp only at hSw); go_simp; (try with_reducible rfl))
  (try simp only [Act.put, List.getElem_toArray, List.getElem_cons_zero, List.getElem_cons_succ, List.setIfInBounds_toArray, List.set_cons_zero, List.set_cons_succ])
  refine wpAnyH_take (i := 1) (v := ?tv69) rfl (by kernel_rfl) (by kernel_rfl) (by kernel_rfl) (fun _ _ _ h => h) (Or.inl ⟨by rfl, ?hy69⟩) (by assumption) ?rs69
  case hy69 => (intro w9 hSw; (try dsimp only at hSw); go_simp; (try with_reducible rfl))
  (try simp only [Act.put, List.getElem_toArray, List.getElem_cons_zero, List.getElem_cons_succ, List.setIfInBounds_toArray, List.set_cons_zero, List.set_cons_succ])
  refine wpAnyH_take (i := 3) (v := ?tv70) rfl (by kernel_rfl) (by kernel_rfl) (by kernel_rfl) (fun _ _ _ h => h) (Or.inl ⟨by rfl, ?hy70⟩) (by assumption) ?rs70
  case hy70 => (intro w9 hSw; (try dsimp only at hSw); go_simp; (try with_reducible rfl))
  (try simp only [Act.put, List.getElem_toArray, List.getElem_cons_zero, List.getElem_cons_succ, List.setIfInBounds_toArray, List.set_cons_zero, List.set_cons_succ])
  refine wpAnyH_take (i := 4) (v := ?tv71) rfl (by kernel_rfl) (by kernel_rfl) (by kernel_rfl) (fun _ _ _ h => h) (Or.inl ⟨by rfl, ?hy71⟩) (by assumption) ?rs71
  case hy71 => (intro w9 hSw; (try dsimp only at hSw); go_simp; (try with_reducible rfl))
  (try simp only [Act.put, List.getElem_toArray, List.getElem_cons_zero, List.getElem_cons_succ, List.setIfInBounds_toArray, List.set_cons_zero, List.set_cons_succ])
  refine wpAnyH_take (i := 6) (v := ?tv72) rfl (by kernel_rfl) (by kernel_rfl) (by kernel_rfl) (fun _ _ _ h => h) (Or.inl ⟨by rfl, ?hy72⟩) (by assumption) ?rs72
  case hy72 => (intro w9 hSw; (try dsimp only at hSw); go_simp; (try with_reducible rfl))
  (try simp only [Act.put, List.getElem_toArray, List.getElem_cons_zero, List.getElem_cons_succ, List.setIfInBounds_toArray, List.set_cons_zero, List.set_cons_succ])
  refine wpAnyH_take (i := 7) (v := ?tv73) rfl (by kernel_rfl) (by kernel_rfl) (by kernel_rfl) (fun _ _ _ h => h) (Or.inl ⟨by rfl, ?hy73⟩) (by assumption) ?rs73
  case hy73 => (intro w9 hSw; (try dsimp only at hSw); go_simp; (try with_reducible rfl))
  (try simp only [Act.put, List.getElem_toArray, List.getElem_cons_zero, List.getElem_cons_succ, List.setIfInBounds_toArray, List.set_cons_zero, List.set_cons_succ])
  refine wpAnyH_ready (rs := [2]) (by kernel_rfl) (by simp) ?_
  refine AllReadyH.cons rfl (fun K hK => ?_) AllReadyH.nil
  go_simp
  go_wp2_with (first | (go_at_call 24; (refine Calls.mono (H1.out _) ?_); rintro e y ⟨rfl, hby⟩; replace bx := bx.later hby; replace hY := Below.on hY hby))
  refine hK.out _ _ (⟨cell_later hY c0, cell_later hY c1, cell_later hY c2, cell_later hY c3, cell_later hY c4, cell_later hY c5, cell_later hY c6, cell_later hY c7, cell_later hY c8, cell_later hY c9, cell_later hY c10, cell_later hY c11, cell_later hY c12, cell_later hY c13, cell_later hY c14⟩) (fun hHeld => ?_)
  clear hK K
  (try simp only [Act.put, List.getElem_toArray, List.getElem_cons_zero, List.getElem_cons_succ, List.setIfInBounds_toArray, List.set_cons_zero, List.set_cons_succ])
  refine wpAnyH_ready (rs := [5]) (by kernel_rfl) (by simp) ?_
  refine AllReadyH.cons rfl (fun K hK => ?_) AllReadyH.nil
  go_simp
  go_wp2_with (first | (go_at_call 39; (refine Calls.mono (H2.out _ hY) ?_); rintro e y ⟨a2, m2, d2, rfl, r2, hby⟩; replace bx := bx.later hby; replace r2 := r2.mono (by decide) (Q' := fun b => w.heap.size + 2 ≤ b) (fun b hb _ => (by have h1 := hY.size; have h2 := hs.out; have h3 : _ ≤ b := hb; show w.heap.size + 2 ≤ b; omega)); replace hY := Below.on hY hby))
  refine hK.out _ _ (⟨cell_later hY c0, cell_later hY c1, cell_later hY c2, cell_later hY c3, cell_later hY c4, cell_later hY c5, cell_later hY c6, cell_later hY c7, cell_later hY c8, cell_later hY c9, cell_later hY c10, cell_later hY c11, cell_later hY c12, cell_later hY c13, cell_later hY c14⟩) (fun hHeld => ?_)
  clear hK K
  (try simp only [Act.put, List.getElem_toArray, List.getElem_cons_zero, List.getElem_cons_succ, List.setIfInBounds_toArray, List.set_cons_zero, List.set_cons_succ])
  refine wpAnyH_ready (rs := [8]) (by kernel_rfl) (by simp) ?_
  refine AllReadyH.cons rfl (fun K hK => ?_) AllReadyH.nil
  go_simp
  go_wp2_with (first | (go_at_call 40; (refine Calls.mono (H3.out _ hY) ?_); rintro e y ⟨s', rfl, hI, hin, hby⟩; replace bx := bx.later hby; replace hI := hI.mono (Q' := fun b => w.heap.size + 2 ≤ b) (fun b hb _ => (by have h1 := hY.size; have h2 := hs.out; have h3 : _ ≤ b := hb; show w.heap.size + 2 ≤ b; omega)); replace r2 := r2.keep (by decide) (fun b _ hl => hby.block b hl); replace hY := Below.on hY hby))
  obtain ⟨tk, ttb, tnm, ⟨xco1, xco2, xco3⟩, ⟨xta1, xta2, xta3⟩, ⟨xva1, xva2, xva3⟩, ⟨xit1, xit2, xit3⟩, tjn, ⟨xon1, xon2, xon3⟩, ⟨xwh1, xwh2, xwh3⟩, ⟨xod1, xod2, xod3⟩, tds, tinn⟩ := s'
  replace hin : tinn = (none, 0, 0) := hin
  subst hin
  unfold stV
  dsimp only
  refine hK.out _ _ (⟨cell_later hY c0, cell_later hY c1, cell_later hY c2, cell_later hY c3, cell_later hY c4, cell_later hY c5, cell_later hY c6, cell_later hY c7, cell_later hY c8, cell_later hY c9, cell_later hY c10, cell_later hY c11, cell_later hY c12, cell_later hY c13, cell_later hY c14⟩) (fun hHeld => ?_)
  clear hK K
  (try simp only [Act.put, List.getElem_toArray, List.getElem_cons_zero, List.getElem_cons_succ, List.setIfInBounds_toArray, List.set_cons_zero, List.set_cons_succ])
  refine wpAnyH_take (i := 9) (v := ?tv74) rfl (by kernel_rfl) (by kernel_rfl) (by kernel_rfl) (fun _ _ _ h => h) (Or.inl ⟨by rfl, ?hy74⟩) (by assumption) ?rs74
  case hy74 => (intro w9 hSw; (try dsimp only at hSw); go_simp; (try with_reducible rfl))
  (try simp only [Act.put, List.getElem_toArray, List.getElem_cons_zero, List.getElem_cons_succ, List.setIfInBounds_toArray, List.set_cons_zero, List.set_cons_succ])
  refine wpAnyH_ready (rs := [10]) (by kernel_rfl) (by simp) ?_
  refine AllReadyH.cons rfl (fun K hK => ?_) AllReadyH.nil
  have hth : y.there z 0 15 := bx.there rfl
  have z0 := stW_cell (l := [.string nm, .slice a2 m2 d2, .int .i64 tk, .string ttb, .string tnm, .slice xco1 xco2 xco3, .slice xta1 xta2 xta3, .slice xva1 xva2 xva3, .slice xit1 xit2 xit3, .string tjn, .slice xon1 xon2 xon3, .slice xwh1 xwh2 xwh3, .slice xod1 xod2 xod3, .bool tds, .slice none 0 0]) hth (j := 0) rfl
  have z1 := stW_cell (l := [.string nm, .slice a2 m2 d2, .int .i64 tk, .string ttb, .string tnm, .slice xco1 xco2 xco3, .slice xta1 xta2 xta3, .slice xva1 xva2 xva3, .slice xit1 xit2 xit3, .string tjn, .slice xon1 xon2 xon3, .slice xwh1 xwh2 xwh3, .slice xod1 xod2 xod3, .bool tds, .slice none 0 0]) hth (j := 1) rfl
  have z2 := stW_cell (l := [.string nm, .slice a2 m2 d2, .int .i64 tk, .string ttb, .string tnm, .slice xco1 xco2 xco3, .slice xta1 xta2 xta3, .slice xva1 xva2 xva3, .slice xit1 xit2 xit3, .string tjn, .slice xon1 xon2 xon3, .slice xwh1 xwh2 xwh3, .slice xod1 xod2 xod3, .bool tds, .slice none 0 0]) hth (j := 2) rfl
  have z3 := stW_cell (l := [.string nm, .slice a2 m2 d2, .int .i64 tk, .string ttb, .string tnm, .slice xco1 xco2 xco3, .slice xta1 xta2 xta3, .slice xva1 xva2 xva3, .slice xit1 xit2 xit3, .string tjn, .slice xon1 xon2 xon3, .slice xwh1 xwh2 xwh3, .slice xod1 xod2 xod3, .bool tds, .slice none 0 0]) hth (j := 3) rfl
  have z4 := stW_cell (l := [.string nm, .slice a2 m2 d2, .int .i64 tk, .string ttb, .string tnm, .slice xco1 xco2 xco3, .slice xta1 xta2 xta3, .slice xva1 xva2 xva3, .slice xit1 xit2 xit3, .string tjn, .slice xon1 xon2 xon3, .slice xwh1 xwh2 xwh3, .slice xod1 xod2 xod3, .bool tds, .slice none 0 0]) hth (j := 4) rfl
  have z5 := stW_cell (l := [.string nm, .slice a2 m2 d2, .int .i64 tk, .string ttb, .string tnm, .slice xco1 xco2 xco3, .slice xta1 xta2 xta3, .slice xva1 xva2 xva3, .slice xit1 xit2 xit3, .string tjn, .slice xon1 xon2 xon3, .slice xwh1 xwh2 xwh3, .slice xod1 xod2 xod3, .bool tds, .slice none 0 0]) hth (j := 5) rfl
  have z6 := stW_cell (l := [.string nm, .slice a2 m2 d2, .int .i64 tk, .string ttb, .string tnm, .slice xco1 xco2 xco3, .slice xta1 xta2 xta3, .slice xva1 xva2 xva3, .slice xit1 xit2 xit3, .string tjn, .slice xon1 xon2 xon3, .slice xwh1 xwh2 xwh3, .slice xod1 xod2 xod3, .bool tds, .slice none 0 0]) hth (j := 6) rfl
  have z7 := stW_cell (l := [.string nm, .slice a2 m2 d2, .int .i64 tk, .string ttb, .string tnm, .slice xco1 xco2 xco3, .slice xta1 xta2 xta3, .slice xva1 xva2 xva3, .slice xit1 xit2 xit3, .string tjn, .slice xon1 xon2 xon3, .slice xwh1 xwh2 xwh3, .slice xod1 xod2 xod3, .bool tds, .slice none 0 0]) hth (j := 7) rfl
  have z8 := stW_cell (l := [.string nm, .slice a2 m2 d2, .int .i64 tk, .string ttb, .string tnm, .slice xco1 xco2 xco3, .slice xta1 xta2 xta3, .slice xva1 xva2 xva3, .slice xit1 xit2 xit3, .string tjn, .slice xon1 xon2 xon3, .slice xwh1 xwh2 xwh3, .slice xod1 xod2 xod3, .bool tds, .slice none 0 0]) hth (j := 8) rfl
  have z9 := stW_cell (l := [.string nm, .slice a2 m2 d2, .int .i64 tk, .string ttb, .string tnm, .slice xco1 xco2 xco3, .slice xta1 xta2 xta3, .slice xva1 xva2 xva3, .slice xit1 xit2 xit3, .string tjn, .slice xon1 xon2 xon3, .slice xwh1 xwh2 xwh3, .slice xod1 xod2 xod3, .bool tds, .slice none 0 0]) hth (j := 9) rfl
  have z10 := stW_cell (l := [.string nm, .slice a2 m2 d2, .int .i64 tk, .string ttb, .string tnm, .slice xco1 xco2 xco3, .slice xta1 xta2 xta3, .slice xva1 xva2 xva3, .slice xit1 xit2 xit3, .string tjn, .slice xon1 xon2 xon3, .slice xwh1 xwh2 xwh3, .slice xod1 xod2 xod3, .bool tds, .slice none 0 0]) hth (j := 10) rfl
  have z11 := stW_cell (l := [.string nm, .slice a2 m2 d2, .int .i64 tk, .string ttb, .string tnm, .slice xco1 xco2 xco3, .slice xta1 xta2 xta3, .slice xva1 xva2 xva3, .slice xit1 xit2 xit3, .string tjn, .slice xon1 xon2 xon3, .slice xwh1 xwh2 xwh3, .slice xod1 xod2 xod3, .bool tds, .slice none 0 0]) hth (j := 11) rfl
  have z12 := stW_cell (l := [.string nm, .slice a2 m2 d2, .int .i64 tk, .string ttb, .string tnm, .slice xco1 xco2 xco3, .slice xta1 xta2 xta3, .slice xva1 xva2 xva3, .slice xit1 xit2 xit3, .string tjn, .slice xon1 xon2 xon3, .slice xwh1 xwh2 xwh3, .slice xod1 xod2 xod3, .bool tds, .slice none 0 0]) hth (j := 12) rfl
  have z13 := stW_cell (l := [.string nm, .slice a2 m2 d2, .int .i64 tk, .string ttb, .string tnm, .slice xco1 xco2 xco3, .slice xta1 xta2 xta3, .slice xva1 xva2 xva3, .slice xit1 xit2 xit3, .string tjn, .slice xon1 xon2 xon3, .slice xwh1 xwh2 xwh3, .slice xod1 xod2 xod3, .bool tds, .slice none 0 0]) hth (j := 13) rfl
  have z14 := stW_cell (l := [.string nm, .slice a2 m2 d2, .int .i64 tk, .string ttb, .string tnm, .slice xco1 xco2 xco3, .slice xta1 xta2 xta3, .slice xva1 xva2 xva3, .slice xit1 xit2 xit3, .string tjn, .slice xon1 xon2 xon3, .slice xwh1 xwh2 xwh3, .slice xod1 xod2 xod3, .bool tds, .slice none 0 0]) hth (j := 14) rfl
  rw [if_pos (by rfl)]
  refine wp_store_mid _ _ _ rfl z 0 (List.toArray [.string nm, .slice a2 m2 d2, .int .i64 tk, .string ttb, .string tnm, .slice xco1 xco2 xco3, .slice xta1 xta2 xta3, .slice xva1 xva2 xva3, .slice xit1 xit2 xit3, .string tjn, .slice xon1 xon2 xon3, .slice xwh1 xwh2 xwh3, .slice xod1 xod2 xod3, .bool tds, .slice none 0 0]) rfl rfl hth (by kernel_rfl) (by simp [Value.oneCell']) ?_
  show K _ (stW y z [.string nm, .slice a2 m2 d2, .int .i64 tk, .string ttb, .string tnm, .slice xco1 xco2 xco3, .slice xta1 xta2 xta3, .slice xva1 xva2 xva3, .slice xit1 xit2 xit3, .string tjn, .slice xon1 xon2 xon3, .slice xwh1 xwh2 xwh3, .slice xod1 xod2 xod3, .bool tds, .slice none 0 0])
  refine hK.out _ _ (⟨stW_far (by omega) (cell_later hY c0), stW_far (by omega) (cell_later hY c1), stW_far (by omega) (cell_later hY c2), stW_far (by omega) (cell_later hY c3), stW_far (by omega) (cell_later hY c4), stW_far (by omega) (cell_later hY c5), stW_far (by omega) (cell_later hY c6), stW_far (by omega) (cell_later hY c7), stW_far (by omega) (cell_later hY c8), stW_far (by omega) (cell_later hY c9), stW_far (by omega) (cell_later hY c10), stW_far (by omega) (cell_later hY c11), stW_far (by omega) (cell_later hY c12), stW_far (by omega) (cell_later hY c13), stW_far (by omega) (cell_later hY c14)⟩) (fun hHeld => ?_)
  clear hK K hth
  (try simp only [Act.put, List.getElem_toArray, List.getElem_cons_zero, List.getElem_cons_succ, List.setIfInBounds_toArray, List.set_cons_zero, List.set_cons_succ])
  refine wpAnyH_done (by kernel_rfl) ?_ _
  ·
    have hW := Below.trans hw (hY.mono (by have := hw.size; omega))
    clear hY bx
    go_wp2
    refine bodyPost_ret (v := .agg #[.string nm, .slice a2 m2 d2, .int .i64 tk, .string ttb, .string tnm, .slice xco1 xco2 xco3, .slice xta1 xta2 xta3, .slice xva1 xva2 xva3, .slice xit1 xit2 xit3, .string tjn, .slice xon1 xon2 xon3, .slice xwh1 xwh2 xwh3, .slice xod1 xod2 xod3, .bool tds, .slice none 0 0]) (by simp [results, Try.results21, go_sem, z0, z1, z2, z3, z4, z5, z6, z7, z8, z9, z10, z11, z12, z13, z14]) rfl ?_
    have q2 : RowIs eTag (fun b => w.heap.size ≤ b) (stW y z [.string nm, .slice a2 m2 d2, .int .i64 tk, .string ttb, .string tnm, .slice xco1 xco2 xco3, .slice xta1 xta2 xta3, .slice xva1 xva2 xva3, .slice xit1 xit2 xit3, .string tjn, .slice xon1 xon2 xon3, .slice xwh1 xwh2 xwh3, .slice xod1 xod2 xod3, .bool tds, .slice none 0 0]) (.slice a2 m2 d2) strip := ((r2).keep (by decide) fun b hb _ => by have hb' : w.heap.size + 2 ≤ b := hb; have h9 := hz.out; exact stW_heap (by omega)).mono (by decide) fun b hb _ => by have hb' : w.heap.size + 2 ≤ b := hb; show w.heap.size ≤ b; omega
    have qI : IsS (fun b => w.heap.size ≤ b) (stW y z [.string nm, .slice a2 m2 d2, .int .i64 tk, .string ttb, .string tnm, .slice xco1 xco2 xco3, .slice xta1 xta2 xta3, .slice xva1 xva2 xva3, .slice xit1 xit2 xit3, .string tjn, .slice xon1 xon2 xon3, .slice xwh1 xwh2 xwh3, .slice xod1 xod2 xod3, .bool tds, .slice none 0 0]) m ⟨tk, ttb, tnm, (xco1, xco2, xco3), (xta1, xta2, xta3), (xva1, xva2, xva3), (xit1, xit2, xit3), tjn, (xon1, xon2, xon3), (xwh1, xwh2, xwh3), (xod1, xod2, xod3), tds, (none, 0, 0)⟩ := ((hI).keep fun b hb _ => by have hb' : w.heap.size + 2 ≤ b := hb; have h9 := hz.out; exact stW_heap (by omega)).mono fun b hb _ => by have hb' : w.heap.size + 2 ≤ b := hb; show w.heap.size ≤ b; omega
    exact ⟨[.string nm, .slice a2 m2 d2, .int .i64 tk, .string ttb, .string tnm, .slice xco1 xco2 xco3, .slice xta1 xta2 xta3, .slice xva1 xva2 xva3, .slice xit1 xit2 xit3, .string tjn, .slice xon1 xon2 xon3, .slice xwh1 xwh2 xwh3, .slice xod1 xod2 xod3, .bool tds, .slice none 0 0], rfl, ⟨_, _, _, ⟨tk, ttb, tnm, (xco1, xco2, xco3), (xta1, xta2, xta3), (xva1, xva2, xva3), (xit1, xit2, xit3), tjn, (xon1, xon2, xon3), (xwh1, xwh2, xwh3), (xod1, xod2, xod3), tds, (none, 0, 0)⟩, rfl, q2, qI, rfl⟩, stW_below hW (by omega)⟩

end Go.Proofs.Ytnboooaockgoiab
/- Rows of views copied. -/
namespace Go.Proofs.Ytnboooaockgoiab
open Go.RowKit
set_option linter.unusedVariables false
set_option linter.unusedSimpArgs false

theorem Try.infoZVw : (Try.prog.info? 68).map (fun i => (i.zero, i.size, i.bytes)) = some (some (.agg #[.string ⟨#[]⟩, .slice none 0 0, .int .i64 0, .string ⟨#[]⟩, .string ⟨#[]⟩, .slice none 0 0, .slice none 0 0, .slice none 0 0, .slice none 0 0, .string ⟨#[]⟩, .slice none 0 0, .slice none 0 0, .slice none 0 0, .bool false, .slice none 0 0]), 15, 296) := by kernel_rfl
set_option maxRecDepth 100000 in
set_option maxHeartbeats 4000000 in
theorem copiesVw_own {l : List Vw} (hcp : ∀ x ∈ l, Cp eVw 21 x) (hlen : l.length ≤ 500) {Q : Nat → Prop} {w : World} {ao : Option Addr} {n c : Nat} (h : RowIs eVw Q w (.slice ao n c) l) :
    Calls Try.prog 20 #[.slice ao n c, .func (.func 21) #[] #[]] w (TeO eVw 68 w l) := by
  have HC : Hid (∀ x ∈ l, Cp eVw 21 x) := hid hcp
  have HR : Hid (∀ w', Below w.heap.size w w' → RowIs eVw Q w' (.slice ao n c) l) := hid fun w' hb => h.keep (by decide) fun b _ hl => hb.block b hl
  obtain ⟨ao', n', c', e', hn, hnc, hc, _⟩ := h
  cases e'
  subst hn
  clear hcp
  go_enter Try.func20, Try.ntmps20
  go_wp2
  go_loopw [5, 10] (fun v5 v10 wr => ∃ (k : Nat) (css : List (List Value)), k ≤ l.length ∧ v10 = .int .i64 k ∧ Below w.heap.size w wr ∧ OwnR 68 15 w.heap.size wr v5 css ∧ css.length = k ∧ Hid (∀ i (h1 : i < l.length) (h2 : i < css.length), (eVw).E (fun b => w.heap.size ≤ b ∧ some b ≠ v5.ownBlock) wr l[i] css[i])) (fun _ i _ => l.length - (intOf i).toNat)
  case atStart => exact ⟨0, [], Nat.zero_le _, rfl, Below.refl _ _, OwnR.nil _ _ _ _, rfl, hid fun i h1 h2 => by simp at h2⟩
  case round =>
    obtain ⟨k, css, hk, rfl, hB, ho, hcl, HE⟩ := hrel
    by_cases hlt : k < l.length
    · have hcl' : css.length ≤ 500 := by omega
      obtain ⟨_, _, _, e', _, _, _, hx⟩ := HR.out wr hB
      cases e'
      obtain ⟨b, o, rfl, hq, hi⟩ := hx (by omega)
      obtain ⟨cs, hEx, h2, h3⟩ := hi k hlt
      obtain ⟨x, hxl, hxm⟩ : ∃ x, l[k] = x ∧ x ∈ l := ⟨_, rfl, List.getElem_mem hlt⟩
      rw [hxl] at hEx
      have hEx' := hEx
      obtain ⟨ea, en, ec, ⟨ek, etb, enm, ⟨eco1, eco2, eco3⟩, ⟨eta1, eta2, eta3⟩, ⟨eva1, eva2, eva3⟩, ⟨eit1, eit2, eit3⟩, ejn, ⟨eon1, eon2, eon3⟩, ⟨ewh1, ewh2, ewh3⟩, ⟨eod1, eod2, eod3⟩, eds, ⟨ein1, ein2, ein3⟩⟩, rfl, er1, er2, er3⟩ := hEx'
      have c0 : wr.cell? ⟨b, o + k * 15, none⟩ = some (.string x.name) := h3 0 (show 0 < 15 by decide)
      have c1 : wr.cell? ⟨b, o + k * 15 + 1, none⟩ = some (.slice ea en ec) := h3 1 (show 1 < 15 by decide)
      have c2 : wr.cell? ⟨b, o + k * 15 + 2, none⟩ = some (.int .i64 ek) := h3 2 (show 2 < 15 by decide)
      have c3 : wr.cell? ⟨b, o + k * 15 + 3, none⟩ = some (.string etb) := h3 3 (show 3 < 15 by decide)
      have c4 : wr.cell? ⟨b, o + k * 15 + 4, none⟩ = some (.string enm) := h3 4 (show 4 < 15 by decide)
      have c5 : wr.cell? ⟨b, o + k * 15 + 5, none⟩ = some (.slice eco1 eco2 eco3) := h3 5 (show 5 < 15 by decide)
      have c6 : wr.cell? ⟨b, o + k * 15 + 6, none⟩ = some (.slice eta1 eta2 eta3) := h3 6 (show 6 < 15 by decide)
      have c7 : wr.cell? ⟨b, o + k * 15 + 7, none⟩ = some (.slice eva1 eva2 eva3) := h3 7 (show 7 < 15 by decide)
      have c8 : wr.cell? ⟨b, o + k * 15 + 8, none⟩ = some (.slice eit1 eit2 eit3) := h3 8 (show 8 < 15 by decide)
      have c9 : wr.cell? ⟨b, o + k * 15 + 9, none⟩ = some (.string ejn) := h3 9 (show 9 < 15 by decide)
      have c10 : wr.cell? ⟨b, o + k * 15 + 10, none⟩ = some (.slice eon1 eon2 eon3) := h3 10 (show 10 < 15 by decide)
      have c11 : wr.cell? ⟨b, o + k * 15 + 11, none⟩ = some (.slice ewh1 ewh2 ewh3) := h3 11 (show 11 < 15 by decide)
      have c12 : wr.cell? ⟨b, o + k * 15 + 12, none⟩ = some (.slice eod1 eod2 eod3) := h3 12 (show 12 < 15 by decide)
      have c13 : wr.cell? ⟨b, o + k * 15 + 13, none⟩ = some (.bool eds) := h3 13 (show 13 < 15 by decide)
      have c14 : wr.cell? ⟨b, o + k * 15 + 14, none⟩ = some (.slice ein1 ein2 ein3) := h3 14 (show 14 < 15 by decide)
      have HX : Hid _ := hid (HC.out x hxm _ _ _ ((eVw).keep (w' := wr.alloc (.cells #[.string x.name, .slice ea en ec, .int .i64 ek, .string etb, .string enm, .slice eco1 eco2 eco3, .slice eta1 eta2 eta3, .slice eva1 eva2 eva3, .slice eit1 eit2 eit3, .string ejn, .slice eon1 eon2 eon3, .slice ewh1 ewh2 ewh3, .slice eod1 eod2 eod3, .bool eds, .slice ein1 ein2 ein3] 68)) (fun b _ hl => (bal (Below.refl _ wr) _).block b hl) hEx))
      have HXl : Hid _ := hid hxl
      have hsz := hB.size
      have hblk := ho.blk
      have Hcl : Hid _ := hid hcl
      have hkm : (k : Int) < (l.length : Int) := by omega
      clear hEx h2 h3 hi hx hxm hxl hcl er1 er2 er3
      go_wp2_with fail
      refine Calls.mono HX.out ?_
      rintro e w4 ⟨cs', rfl, hE4, hb4⟩
      have hb4' : Below wr.heap.size wr w4 := Below.on (bal (Below.refl _ wr) _) hb4
      have hB4 : Below w.heap.size w w4 := Below.trans hB (hb4'.mono hsz)
      have hE4' := hE4
      obtain ⟨fa, fn, fc, ⟨fk, ftb, fnm, ⟨fco1, fco2, fco3⟩, ⟨fta1, fta2, fta3⟩, ⟨fva1, fva2, fva3⟩, ⟨fit1, fit2, fit3⟩, fjn, ⟨fon1, fon2, fon3⟩, ⟨fwh1, fwh2, fwh3⟩, ⟨fod1, fod2, fod3⟩, fds, ⟨fin1, fin2, fin3⟩⟩, rfl, fr1, fr2, fr3⟩ := hE4'
      unfold svC
      dsimp only
      clear fr1 fr2 fr3
      have ho4 := ho.later hb4'
      have ho5 := ho4.alloc (.cells #[.string x.name, .slice fa fn fc, .int .i64 fk, .string ftb, .string fnm, .slice fco1 fco2 fco3, .slice fta1 fta2 fta3, .slice fva1 fva2 fva3, .slice fit1 fit2 fit3, .string fjn, .slice fon1 fon2 fon3, .slice fwh1 fwh2 fwh3, .slice fod1 fod2 fod3, .bool fds, .slice fin1 fin2 fin3] 68)
      have hB5 := bal hB4 (.cells #[.string x.name, .slice fa fn fc, .int .i64 fk, .string ftb, .string fnm, .slice fco1 fco2 fco3, .slice fta1 fta2 fta3, .slice fva1 fva2 fva3, .slice fit1 fit2 fit3, .string fjn, .slice fon1 fon2 fon3, .slice fwh1 fwh2 fwh3, .slice fod1 fod2 fod3, .bool fds, .slice fin1 fin2 fin3] 68)
      have hs4 := hb4'.size
      have HE4 : Hid (∀ i (h1 : i < l.length) (h2 : i < css.length), (eVw).E (fun b => w.heap.size ≤ b ∧ some b ≠ u5.ownBlock) (w4.alloc (.cells #[.string x.name, .slice fa fn fc, .int .i64 fk, .string ftb, .string fnm, .slice fco1 fco2 fco3, .slice fta1 fta2 fta3, .slice fva1 fva2 fva3, .slice fit1 fit2 fit3, .string fjn, .slice fon1 fon2 fon3, .slice fwh1 fwh2 fwh3, .slice fod1 fod2 fod3, .bool fds, .slice fin1 fin2 fin3] 68)) l[i] css[i]) := hid fun i h1 h2 => (eVw).keep (fun b _ hl => (bal (Below.refl _ w4) _).block b hl) ((eVw).keep (fun b _ hl => hb4'.block b hl) (HE.out i h1 h2))
      have HEn : Hid ((eVw).E (fun b => w.heap.size ≤ b ∧ some b ≠ u5.ownBlock) (w4.alloc (.cells #[.string x.name, .slice fa fn fc, .int .i64 fk, .string ftb, .string fnm, .slice fco1 fco2 fco3, .slice fta1 fta2 fta3, .slice fva1 fva2 fva3, .slice fit1 fit2 fit3, .string fjn, .slice fon1 fon2 fon3, .slice fwh1 fwh2 fwh3, .slice fod1 fod2 fod3, .bool fds, .slice fin1 fin2 fin3] 68)) x [.string x.name, .slice fa fn fc, .int .i64 fk, .string ftb, .string fnm, .slice fco1 fco2 fco3, .slice fta1 fta2 fta3, .slice fva1 fva2 fva3, .slice fit1 fit2 fit3, .string fjn, .slice fon1 fon2 fon3, .slice fwh1 fwh2 fwh3, .slice fod1 fod2 fod3, .bool fds, .slice fin1 fin2 fin3]) := hid ((eVw).keep (fun b _ hl => (bal (Below.refl _ w4) _).block b hl) ((eVw).mono (fun b hq _ => ⟨by have hq' : (wr.alloc (.cells #[.string x.name, .slice ea en ec, .int .i64 ek, .string etb, .string enm, .slice eco1 eco2 eco3, .slice eta1 eta2 eta3, .slice eva1 eva2 eva3, .slice eit1 eit2 eit3, .string ejn, .slice eon1 eon2 eon3, .slice ewh1 ewh2 ewh3, .slice eod1 eod2 eod3, .bool eds, .slice ein1 ein2 ein3] 68)).heap.size ≤ b := hq; rw [World.size_alloc] at hq'; omega, fun hbk => by have := (hblk b hbk.symm).2; have hq' : (wr.alloc (.cells #[.string x.name, .slice ea en ec, .int .i64 ek, .string etb, .string enm, .slice eco1 eco2 eco3, .slice eta1 eta2 eta3, .slice eva1 eva2 eva3, .slice eit1 eit2 eit3, .string ejn, .slice eon1 eon2 eon3, .slice ewh1 ewh2 ewh3, .slice eod1 eod2 eod3, .bool eds, .slice ein1 ein2 ein3] 68)).heap.size ≤ b := hq; rw [World.size_alloc] at hq'; omega⟩) hE4))
      clear hE4 HE ho ho4 hB4 HX hb4 hb4'
      go_wp2_with (first | (at_builtin; refine wpList_appR Try.underlying24 Try.infoZVw rfl (by decide) (by decide) rfl (.tmp 14) (.tmp 18) rfl _ css w4.heap.size [.string x.name, .slice fa fn fc, .int .i64 fk, .string ftb, .string fnm, .slice fco1 fco2 fco3, .slice fta1 fta2 fta3, .slice fva1 fva2 fva3, .slice fit1 fit2 fit3, .string fjn, .slice fon1 fon2 fon3, .slice fwh1 fwh2 fwh3, .slice fod1 fod2 fod3, .bool fds, .slice fin1 fin2 fin3] rfl rfl ho5 rfl (by simp [Value.oneCell']) ?_ (by omega) hB5.size ?_) | fail)
      · intro j hj
        have hj' : j < 15 := hj
        match j, hj' with
        | 0, _ => exact cell_new w4 _ _ _ 0
        | 1, _ => exact cell_new w4 _ _ _ 1
        | 2, _ => exact cell_new w4 _ _ _ 2
        | 3, _ => exact cell_new w4 _ _ _ 3
        | 4, _ => exact cell_new w4 _ _ _ 4
        | 5, _ => exact cell_new w4 _ _ _ 5
        | 6, _ => exact cell_new w4 _ _ _ 6
        | 7, _ => exact cell_new w4 _ _ _ 7
        | 8, _ => exact cell_new w4 _ _ _ 8
        | 9, _ => exact cell_new w4 _ _ _ 9
        | 10, _ => exact cell_new w4 _ _ _ 10
        | 11, _ => exact cell_new w4 _ _ _ 11
        | 12, _ => exact cell_new w4 _ _ _ 12
        | 13, _ => exact cell_new w4 _ _ _ 13
        | 14, _ => exact cell_new w4 _ _ _ 14
      · intro v' w6 hO6 hg6 hown
        have hB6 := Below.grownR hB5 hB5.size hg6 fun k e => (hblk k e).1
        have HN : Hid (∀ i (h1 : i < l.length) (h2 : i < (css ++ [([.string x.name, .slice fa fn fc, .int .i64 fk, .string ftb, .string fnm, .slice fco1 fco2 fco3, .slice fta1 fta2 fta3, .slice fva1 fva2 fva3, .slice fit1 fit2 fit3, .string fjn, .slice fon1 fon2 fon3, .slice fwh1 fwh2 fwh3, .slice fod1 fod2 fod3, .bool fds, .slice fin1 fin2 fin3] : List Value)]).length), (eVw).E (fun b => w.heap.size ≤ b ∧ some b ≠ v'.ownBlock) w6 l[i] (css ++ [([.string x.name, .slice fa fn fc, .int .i64 fk, .string ftb, .string fnm, .slice fco1 fco2 fco3, .slice fta1 fta2 fta3, .slice fva1 fva2 fva3, .slice fit1 fit2 fit3, .string fjn, .slice fon1 fon2 fon3, .slice fwh1 fwh2 fwh3, .slice fod1 fod2 fod3, .bool fds, .slice fin1 fin2 fin3] : List Value)])[i]) := hid fun i h1 h2 => by
          by_cases hi : i < css.length
          · rw [List.getElem_append_left hi]
            exact (eVw).grow (HE4.out i h1 hi) hg6 (by simpa using hown)
          · rw [List.length_append, List.length_singleton] at h2
            obtain rfl : i = css.length := by omega
            rw [List.getElem_append_right (Nat.le_refl _)]
            have hx' : l[css.length] = x := by
              have := HXl.out
              have hk' := Hcl.out
              subst hk'
              exact this
            rw [hx']
            simpa using (eVw).grow HEn.out hg6 (by simpa using hown)
        clear HE4 HEn hg6 hown ho5 hB5 hblk
        go_wp2
        go_roundw
        case rel => exact ⟨k + 1, css ++ [([.string x.name, .slice fa fn fc, .int .i64 fk, .string ftb, .string fnm, .slice fco1 fco2 fco3, .slice fta1 fta2 fta3, .slice fva1 fva2 fva3, .slice fit1 fit2 fit3, .string fjn, .slice fon1 fon2 fon3, .slice fwh1 fwh2 fwh3, .slice fod1 fod2 fod3, .bool fds, .slice fin1 fin2 fin3] : List Value)], hlt, by go_num, hB6, hO6, by rw [List.length_append, List.length_singleton, Hcl.out], HN⟩
        case measure => simp only [intOf]; omega
    · obtain rfl : k = l.length := by omega
      obtain ⟨a5, n5, d5, rfl⟩ := ho.sl
      go_wp2
      go_ret
      exact ⟨_, _, _, css, rfl, ho, hcl, HE.out, hB⟩
theorem copiesVw_any {l : List Vw} (hcp : ∀ x ∈ l, Cp eVw 21 x) (hlen : l.length ≤ 500) {Q : Nat → Prop} {w : World} {ao : Option Addr} {n c : Nat} (h : RowIs eVw Q w (.slice ao n c) l) :
    Calls Try.prog 20 #[.slice ao n c, .func (.func 21) #[] #[]] w (TeR eVw w l) := (copiesVw_own hcp hlen h).mono fun _ _ h => h.row


end Go.Proofs.Ytnboooaockgoiab
/- A table is added. -/
namespace Go.Proofs.Ytnboooaockgoiab
open Go.RowKit
set_option linter.unusedVariables false
set_option linter.unusedSimpArgs false

/-- What an adding tells. -/
def TeA (w : World) (S : List Tbl) (V : List Vw) (code : Int) (e : Ending) (w' : World) : Prop :=
  ∃ ta tn tc vb vm vd, e = .returned (.tuple #[.agg #[.slice ta tn tc, .slice vb vm vd], .int .i64 code]) ∧ RowIs eTbl (fun b => w.heap.size ≤ b) w' (.slice ta tn tc) S ∧ RowIs eVw (fun b => w.heap.size ≤ b) w' (.slice vb vm vd) V ∧ Below w.heap.size w w'
theorem RowIs.any {α : Type} {e : Ek α} (he : 0 < e.k) {Q : Nat → Prop} {w : World} {v : Value} {l : List α} (h : RowIs e Q w v l) : RowIs e (fun _ => True) w v l := h.mono he fun _ _ _ => trivial
set_option maxRecDepth 100000 in
set_option maxHeartbeats 4000000 in
theorem addTable_any {S : List Tbl} {V0 : List Vw} {cols : List Co} (hSB : AllB TblB S) (hVB : AllB VwB V0) (hS5 : S.length ≤ 400) (hCB : AllB ColB cols) {w : World} {ta : Option Addr} {tn tc : Nat} (hS : RowIs eTbl (fun _ => True) w (.slice ta tn tc) S) {vb : Option Addr} {vm vd : Nat} (hV : RowIs eVw (fun _ => True) w (.slice vb vm vd) V0) (sk : Int) (stb : ByteArray) {snm : ByteArray} (hnB : StrB snm) {co1 : Option Addr} {co2 co3 : Nat} (ta1 : Option Addr) (ta2 ta3 : Nat) (va1 : Option Addr) (va2 va3 : Nat) (it1 : Option Addr) (it2 it3 : Nat) (sjn : ByteArray) (on1 : Option Addr) (on2 on3 : Nat) (wh1 : Option Addr) (wh2 wh3 : Nat) (od1 : Option Addr) (od2 od3 : Nat) (sds : Bool) (in1 : Option Addr) (in2 in3 : Nat) (hC : RowIs eCol (fun _ => True) w (.slice co1 co2 co3) cols) :
    Calls Try.prog 10 #[.agg #[.slice ta tn tc, .slice vb vm vd], .agg #[.int .i64 sk, .string stb, .string snm, .slice co1 co2 co3, .slice ta1 ta2 ta3, .slice va1 va2 va3, .slice it1 it2 it3, .string sjn, .slice on1 on2 on3, .slice wh1 wh2 wh3, .slice od1 od2 od3, .bool sds, .slice in1 in2 in3]] w (TeA w (if mayTblP S snm cols = 0 then S ++ [⟨snm, cols, []⟩] else []) (if mayTblP S snm cols = 0 then V0 else []) (mayTblP S snm cols)) := by
  have H1 : Hid (∀ w, _) := hid fun w => tables_any ta tn tc vb vm vd w
  have hw : Below w.heap.size w (((w.alloc (.cells #[.slice ta tn tc, .slice vb vm vd] 26)).alloc (.cells #[.int .i64 sk, .string stb, .string snm, .slice co1 co2 co3, .slice ta1 ta2 ta3, .slice va1 va2 va3, .slice it1 it2 it3, .string sjn, .slice on1 on2 on3, .slice wh1 wh2 wh3, .slice od1 od2 od3, .bool sds, .slice in1 in2 in3] 34)).alloc (.cells #[.slice none 0 0, .slice none 0 0] 26)) := bal (bal (bal (Below.refl _ _) _) _) _
  have H0 : Hid _ := hid (mayTable_any (S := S) (cols := cols) (by omega) hCB.1 (hS.keep (by decide) fun b _ hl => hw.block b hl) vb vm vd sk stb snm ta1 ta2 ta3 va1 va2 va3 it1 it2 it3 sjn on1 on2 on3 wh1 wh2 wh3 od1 od2 od3 sds in1 in2 in3 (hC.keep (by decide) fun b _ hl => hw.block b hl))
  have H2 : Hid (∀ w', Below w.heap.size w w' → Calls Try.prog 19 #[.agg #[.slice ta tn tc, .func (.func 31) #[] #[], .func (.func 28) #[] #[]], .agg #[.string snm, .slice co1 co2 co3, .slice none 0 0]] w' (TeR eTbl w' (S ++ [⟨snm, cols, []⟩]))) := hid fun w' hb => withTbl_any hS5 (fun t ht => copyTable_cp t (hSB.2 t ht)) (copyTable_cp _ ⟨hnB, hCB, by simp, by simp⟩) (hS.keep (by decide) fun b _ hl => hb.block b hl) (cs := [.string snm, .slice co1 co2 co3, .slice none 0 0]) ⟨_, _, _, _, _, _, rfl, hC.keep (by decide) fun b _ hl => hb.block b hl, RowIs.nil _ _ _⟩
  have H3 : Hid (∀ w', Below w.heap.size w w' → Calls Try.prog 20 #[.slice vb vm vd, .func (.func 21) #[] #[]] w' (TeR eVw w' V0)) := hid fun w' hb => copiesVw_any (fun t ht => copyView_cp t (hVB.2 t ht)) hVB.1 (hV.keep (by decide) fun b _ hl => hb.block b hl)
  clear hS hV hC hSB hVB hCB
  have s0 := cell_later (bal (bal (Below.refl _ _) (.cells #[.int .i64 sk, .string stb, .string snm, .slice co1 co2 co3, .slice ta1 ta2 ta3, .slice va1 va2 va3, .slice it1 it2 it3, .string sjn, .slice on1 on2 on3, .slice wh1 wh2 wh3, .slice od1 od2 od3, .bool sds, .slice in1 in2 in3] 34)) (.cells #[.slice none 0 0, .slice none 0 0] 26)) (cell_new w #[.slice ta tn tc, .slice vb vm vd] 26 (0, 0) 0)
  have s1 := cell_later (bal (bal (Below.refl _ _) (.cells #[.int .i64 sk, .string stb, .string snm, .slice co1 co2 co3, .slice ta1 ta2 ta3, .slice va1 va2 va3, .slice it1 it2 it3, .string sjn, .slice on1 on2 on3, .slice wh1 wh2 wh3, .slice od1 od2 od3, .bool sds, .slice in1 in2 in3] 34)) (.cells #[.slice none 0 0, .slice none 0 0] 26)) (cell_new w #[.slice ta tn tc, .slice vb vm vd] 26 (0, 0) 1)
  have c2 := cell_later (bal (Below.refl _ _) (.cells #[.slice none 0 0, .slice none 0 0] 26)) (cell_new (w.alloc (.cells #[.slice ta tn tc, .slice vb vm vd] 26)) #[.int .i64 sk, .string stb, .string snm, .slice co1 co2 co3, .slice ta1 ta2 ta3, .slice va1 va2 va3, .slice it1 it2 it3, .string sjn, .slice on1 on2 on3, .slice wh1 wh2 wh3, .slice od1 od2 od3, .bool sds, .slice in1 in2 in3] 34 (0, 0) 2)
  have c3 := cell_later (bal (Below.refl _ _) (.cells #[.slice none 0 0, .slice none 0 0] 26)) (cell_new (w.alloc (.cells #[.slice ta tn tc, .slice vb vm vd] 26)) #[.int .i64 sk, .string stb, .string snm, .slice co1 co2 co3, .slice ta1 ta2 ta3, .slice va1 va2 va3, .slice it1 it2 it3, .string sjn, .slice on1 on2 on3, .slice wh1 wh2 wh3, .slice od1 od2 od3, .bool sds, .slice in1 in2 in3] 34 (0, 0) 3)
  have bx := Bk.new ((w.alloc (.cells #[.slice ta tn tc, .slice vb vm vd] 26)).alloc (.cells #[.int .i64 sk, .string stb, .string snm, .slice co1 co2 co3, .slice ta1 ta2 ta3, .slice va1 va2 va3, .slice it1 it2 it3, .string sjn, .slice on1 on2 on3, .slice wh1 wh2 wh3, .slice od1 od2 od3, .bool sds, .slice in1 in2 in3] 34)) (.cells #[.slice none 0 0, .slice none 0 0] 26)
  rw [World.size_alloc] at c2 c3
  rw [World.size_alloc, World.size_alloc] at bx
  try simp only [List.getElem?_toArray, List.getElem?_cons_zero, List.getElem?_cons_succ] at s0 s1 c2 c3
  obtain ⟨G, hG⟩ : ∃ G, mayTblP S snm cols = G := ⟨_, rfl⟩
  rw [hG] at H0 ⊢
  clear hG
  obtain ⟨S1, hS1⟩ : ∃ x, (if G = 0 then S ++ [⟨snm, cols, []⟩] else []) = x := ⟨_, rfl⟩
  obtain ⟨V1, hV1⟩ : ∃ x, (if G = 0 then V0 else []) = x := ⟨_, rfl⟩
  rw [hS1, hV1]
  replace hS1 : Hid _ := hid hS1
  replace hV1 : Hid _ := hid hV1
  go_enter Try.func10, Try.ntmps10
  go_wp2_with fail
  refine Calls.mono H0.out ?_
  rintro e U ⟨rfl, hb⟩
  have hwU := Below.trans hw (hb.mono hw.size)
  have hUz : w.heap.size + 1 + 1 < U.heap.size := by have := hb.size; simp at this; omega
  replace s0 := cell_later hb s0
  replace s1 := cell_later hb s1
  replace c2 := cell_later hb c2
  replace c3 := cell_later hb c3
  replace bx := bx.later hb
  generalize hz : w.heap.size + 1 + 1 = z at bx hUz ⊢
  have hzw : w.heap.size < z := by omega
  clear H0 hb hw
  by_cases hG0 : G = 0
  · subst hG0
    obtain rfl : S1 = S ++ [⟨snm, cols, []⟩] := by rw [← hS1.out, if_pos rfl]
    obtain rfl : V1 = V0 := by rw [← hV1.out, if_pos rfl]
    clear hS1 hV1
    have t0 := cell_new U #[.string snm, .slice co1 co2 co3, .slice none 0 0] 44 (0, 0) 0
    have t1 := cell_new U #[.string snm, .slice co1 co2 co3, .slice none 0 0] 44 (0, 0) 1
    have t2 := cell_new U #[.string snm, .slice co1 co2 co3, .slice none 0 0] 44 (0, 0) 2
    simp only [List.getElem?_toArray, List.getElem?_cons_zero, List.getElem?_cons_succ] at t0 t1 t2
    have hUV := bal (Below.refl _ U) (.cells #[.string snm, .slice co1 co2 co3, .slice none 0 0] 44)
    have hWV := Below.trans hwU (hUV.mono hwU.size)
    have hUs := hwU.size
    replace bx := bx.later hUV
    go_upto_region 5 with fail
    replace s0 := cell_later hUV s0
    replace s1 := cell_later hUV s1
    have hVs : U.heap.size < (U.alloc (.cells #[.string snm, .slice co1 co2 co3, .slice none 0 0] 44)).heap.size := by simp
    generalize U.alloc (.cells #[.string snm, .slice co1 co2 co3, .slice none 0 0] 44) = V at *
    have hY : Below V.heap.size V V.drew := (Below.refl _ _).drew
    replace bx := bx.later hY
    clear hwU hUV c2 c3
    refine wp_region_held_drew (S := fun w' => w'.cell? ⟨w.heap.size, 0, none⟩ = some (.slice ta tn tc) ∧ w'.cell? ⟨w.heap.size, 1, none⟩ = some (.slice vb vm vd) ∧ w'.cell? ⟨U.heap.size, 0, none⟩ = some (.string snm) ∧ w'.cell? ⟨U.heap.size, 1, none⟩ = some (.slice co1 co2 co3) ∧ w'.cell? ⟨U.heap.size, 2, none⟩ = some (.slice none 0 0)) (by kernel_rfl) (⟨cell_later hY s0, cell_later hY s1, cell_later hY t0, cell_later hY t1, cell_later hY t2⟩) (fun hHeld => ?_)
    refine wpAnyH_take (i := 0) (v := ?tv45) rfl (by kernel_rfl) (by kernel_rfl) (by kernel_rfl) (fun _ _ _ h => h) (Or.inl ⟨by rfl, ?hy45⟩) (by assumption) ?rs45
    case hy45 => (intro w9 hSw; (try dsimp only at hSw); go_simp; (try with_reducible rfl))
    (try simp only [Act.put, List.getElem_toArray, List.getElem_cons_zero, List.getElem_cons_succ, List.setIfInBounds_toArray, List.set_cons_zero, List.set_cons_succ])
    refine wpAnyH_take (i := 2) (v := ?tv46) rfl (by kernel_rfl) (by kernel_rfl) (by kernel_rfl) (fun _ _ _ h => h) (Or.inl ⟨by rfl, ?hy46⟩) (by assumption) ?rs46
    case hy46 => (intro w9 hSw; (try dsimp only at hSw); go_simp; (try with_reducible rfl))
    (try simp only [Act.put, List.getElem_toArray, List.getElem_cons_zero, List.getElem_cons_succ, List.setIfInBounds_toArray, List.set_cons_zero, List.set_cons_succ])
    refine wpAnyH_take (i := 4) (v := ?tv47) rfl (by kernel_rfl) (by kernel_rfl) (by kernel_rfl) (fun _ _ _ h => h) (Or.inl ⟨by rfl, ?hy47⟩) (by assumption) ?rs47
    case hy47 => (intro w9 hSw; (try dsimp only at hSw); go_simp; (try with_reducible rfl))
    (try simp only [Act.put, List.getElem_toArray, List.getElem_cons_zero, List.getElem_cons_succ, List.setIfInBounds_toArray, List.set_cons_zero, List.set_cons_succ])
    refine wpAnyH_take (i := 5) (v := ?tv48) rfl (by kernel_rfl) (by kernel_rfl) (by kernel_rfl) (fun _ _ _ h => h) (Or.inl ⟨by rfl, ?hy48⟩) (by assumption) ?rs48
    case hy48 => (intro w9 hSw; (try dsimp only at hSw); go_simp; (try with_reducible rfl))
    (try simp only [Act.put, List.getElem_toArray, List.getElem_cons_zero, List.getElem_cons_succ, List.setIfInBounds_toArray, List.set_cons_zero, List.set_cons_succ])
    refine wpAnyH_ready (rs := [1]) (by kernel_rfl) (by simp) ?_
    refine AllReadyH.cons rfl (fun K hK => ?_) AllReadyH.nil
    go_simp
    go_wp2_with (first | (go_at_call 13; (refine Calls.mono (H1.out _) ?_); rintro e y ⟨rfl, hby⟩; replace bx := bx.later hby; replace hY := Below.on hY hby))
    refine hK.out _ _ (⟨cell_later hY s0, cell_later hY s1, cell_later hY t0, cell_later hY t1, cell_later hY t2⟩) (fun hHeld => ?_)
    clear hK K
    (try simp only [Act.put, List.getElem_toArray, List.getElem_cons_zero, List.getElem_cons_succ, List.setIfInBounds_toArray, List.set_cons_zero, List.set_cons_succ])
    refine wpAnyH_ready (rs := [3]) (by kernel_rfl) (by simp) ?_
    refine AllReadyH.cons rfl (fun K hK => ?_) AllReadyH.nil
    go_simp
    go_wp2_with (first | (go_at_call 19; (refine Calls.mono (H2.out _ (Below.trans hWV (hY.mono hWV.size))) ?_); rintro e y ⟨a1, m1, d1, rfl, r1, hby⟩; replace bx := bx.later hby; replace r1 := r1.mono (by decide) (Q' := fun b => V.heap.size ≤ b) (fun b hb _ => (by have h1 := hY.size; have h3 : _ ≤ b := hb; show V.heap.size ≤ b; omega)); replace hY := Below.on hY hby))
    refine hK.out _ _ (⟨cell_later hY s0, cell_later hY s1, cell_later hY t0, cell_later hY t1, cell_later hY t2⟩) (fun hHeld => ?_)
    clear hK K
    (try simp only [Act.put, List.getElem_toArray, List.getElem_cons_zero, List.getElem_cons_succ, List.setIfInBounds_toArray, List.set_cons_zero, List.set_cons_succ])
    refine wpAnyH_ready (rs := [6]) (by kernel_rfl) (by simp) ?_
    refine AllReadyH.cons rfl (fun K hK => ?_) AllReadyH.nil
    go_simp
    go_wp2_with (first | (go_at_call 20; (refine Calls.mono (H3.out _ (Below.trans hWV (hY.mono hWV.size))) ?_); rintro e y ⟨a2, m2, d2, rfl, r2, hby⟩; replace bx := bx.later hby; replace r2 := r2.mono (by decide) (Q' := fun b => V.heap.size ≤ b) (fun b hb _ => (by have h1 := hY.size; have h3 : _ ≤ b := hb; show V.heap.size ≤ b; omega)); replace r1 := r1.keep (by decide) (fun b _ hl => hby.block b hl); replace hY := Below.on hY hby))
    refine hK.out _ _ (⟨cell_later hY s0, cell_later hY s1, cell_later hY t0, cell_later hY t1, cell_later hY t2⟩) (fun hHeld => ?_)
    clear hK K
    (try simp only [Act.put, List.getElem_toArray, List.getElem_cons_zero, List.getElem_cons_succ, List.setIfInBounds_toArray, List.set_cons_zero, List.set_cons_succ])
    refine wpAnyH_take (i := 7) (v := ?tv49) rfl (by kernel_rfl) (by kernel_rfl) (by kernel_rfl) (fun _ _ _ h => h) (Or.inl ⟨by rfl, ?hy49⟩) (by assumption) ?rs49
    case hy49 => (intro w9 hSw; (try dsimp only at hSw); go_simp; (try with_reducible rfl))
    (try simp only [Act.put, List.getElem_toArray, List.getElem_cons_zero, List.getElem_cons_succ, List.setIfInBounds_toArray, List.set_cons_zero, List.set_cons_succ])
    refine wpAnyH_ready (rs := [8]) (by kernel_rfl) (by simp) ?_
    refine AllReadyH.cons rfl (fun K hK => ?_) AllReadyH.nil
    have hth : y.there z 0 2 := bx.there rfl
    have z0 := stW_cell (l := [.slice a1 m1 d1, .slice a2 m2 d2]) hth (j := 0) rfl
    have z1 := stW_cell (l := [.slice a1 m1 d1, .slice a2 m2 d2]) hth (j := 1) rfl
    rw [if_pos (by rfl)]
    refine wp_store_mid _ _ _ rfl z 0 (List.toArray [.slice a1 m1 d1, .slice a2 m2 d2]) rfl rfl hth (by kernel_rfl) (by simp [Value.oneCell']) ?_
    show K _ (stW y z [.slice a1 m1 d1, .slice a2 m2 d2])
    refine hK.out _ _ (⟨stW_far (by omega) (cell_later hY s0), stW_far (by omega) (cell_later hY s1), stW_far (by omega) (cell_later hY t0), stW_far (by omega) (cell_later hY t1), stW_far (by omega) (cell_later hY t2)⟩) (fun hHeld => ?_)
    clear hK K hth
    (try simp only [Act.put, List.getElem_toArray, List.getElem_cons_zero, List.getElem_cons_succ, List.setIfInBounds_toArray, List.set_cons_zero, List.set_cons_succ])
    refine wpAnyH_ready (rs := [9]) (by kernel_rfl) (by simp) ?_
    refine AllReadyH.cons rfl (fun K hK => ?_) AllReadyH.nil
    go_simp
    refine hK.out _ _ (⟨stW_far (by omega) (cell_later hY s0), stW_far (by omega) (cell_later hY s1), stW_far (by omega) (cell_later hY t0), stW_far (by omega) (cell_later hY t1), stW_far (by omega) (cell_later hY t2)⟩) (fun hHeld => ?_)
    clear hK K
    (try simp only [Act.put, List.getElem_toArray, List.getElem_cons_zero, List.getElem_cons_succ, List.setIfInBounds_toArray, List.set_cons_zero, List.set_cons_succ])
    refine wpAnyH_done (by kernel_rfl) ?_ _
    have hW := Below.trans hWV (hY.mono hWV.size)
    have q1 : RowIs eTbl (fun b => w.heap.size ≤ b) (stW y z [.slice a1 m1 d1, .slice a2 m2 d2]) (.slice a1 m1 d1) (S ++ [⟨snm, cols, []⟩]) := (r1.keep (by decide) fun b hb _ => by have hb' : V.heap.size ≤ b := hb; exact stW_heap (by omega)).mono (by decide) fun b hb _ => by have hb' : V.heap.size ≤ b := hb; have := hWV.size; show w.heap.size ≤ b; omega
    have q2 : RowIs eVw (fun b => w.heap.size ≤ b) (stW y z [.slice a1 m1 d1, .slice a2 m2 d2]) (.slice a2 m2 d2) V1 := (r2.keep (by decide) fun b hb _ => by have hb' : V.heap.size ≤ b := hb; exact stW_heap (by omega)).mono (by decide) fun b hb _ => by have hb' : V.heap.size ≤ b := hb; have := hWV.size; show w.heap.size ≤ b; omega
    have hWs : Below w.heap.size w (stW y z [.slice a1 m1 d1, .slice a2 m2 d2]) := stW_below hW (by omega)
    clear hHeld hY bx r1 r2 H1 H2 H3
    go_wp2
    exact bodyPost_ret (v := .tuple #[.agg #[.slice a1 m1 d1, .slice a2 m2 d2], .int .i64 0]) (by simp [results, Try.results10, go_sem, z0, z1]) rfl ⟨_, _, _, _, _, _, rfl, q1, q2, hWs⟩
  · obtain rfl : S1 = [] := by rw [← hS1.out, if_neg hG0]
    obtain rfl : V1 = [] := by rw [← hV1.out, if_neg hG0]
    clear hS1 hV1
    have hGb : (G == 0) = false := by simpa using hG0
    have z0 := bx.cell 0
    have z1 := bx.cell 1
    have f0 := bx.free 0
    have f1 := bx.free 1
    simp only [List.getElem?_toArray, List.getElem?_cons_zero, List.getElem?_cons_succ] at z0 z1
    clear H1 H2 H3 s0 s1 c2 c3 bx
    go_wp2
    exact bodyPost_ret (v := .tuple #[.agg #[.slice none 0 0, .slice none 0 0], .int .i64 G]) (by simp [results, Try.results10, go_sem, z0, z1]) rfl ⟨_, _, _, _, _, _, rfl, RowIs.nil _ _ _, RowIs.nil _ _ _, (hwU.setCell (by show w.heap.size ≤ z; omega) _).setCell (by show w.heap.size ≤ z; omega) _⟩

end Go.Proofs.Ytnboooaockgoiab
/- Add: a table. -/
namespace Go.Proofs.Ytnboooaockgoiab
open Go.RowKit
set_option linter.unusedVariables false
set_option linter.unusedSimpArgs false

set_option maxRecDepth 100000 in
set_option maxHeartbeats 2000000 in
theorem addTbl_any {S : List Tbl} {V0 : List Vw} {cols : List Co} (hSB : AllB TblB S) (hVB : AllB VwB V0) (hS5 : S.length ≤ 400) (hCB : AllB ColB cols) {w : World} {ta : Option Addr} {tn tc : Nat} (hS : RowIs eTbl (fun _ => True) w (.slice ta tn tc) S) {vb : Option Addr} {vm vd : Nat} (hV : RowIs eVw (fun _ => True) w (.slice vb vm vd) V0) (stb : ByteArray) {snm : ByteArray} (hnB : StrB snm) {co1 : Option Addr} {co2 co3 : Nat} (ta1 : Option Addr) (ta2 ta3 : Nat) (va1 : Option Addr) (va2 va3 : Nat) (it1 : Option Addr) (it2 it3 : Nat) (sjn : ByteArray) (on1 : Option Addr) (on2 on3 : Nat) (wh1 : Option Addr) (wh2 wh3 : Nat) (od1 : Option Addr) (od2 od3 : Nat) (sds : Bool) (in1 : Option Addr) (in2 in3 : Nat) (hC : RowIs eCol (fun _ => True) w (.slice co1 co2 co3) cols) (oa : Option Addr) (onn oc : Nat) :
    Calls Try.prog 6 #[.agg #[.slice ta tn tc, .slice vb vm vd], .agg #[.int .i64 1, .string stb, .string snm, .slice co1 co2 co3, .slice ta1 ta2 ta3, .slice va1 va2 va3, .slice it1 it2 it3, .string sjn, .slice on1 on2 on3, .slice wh1 wh2 wh3, .slice od1 od2 od3, .bool sds, .slice in1 in2 in3], .slice oa onn oc] w (TeA w (if mayTblP S snm cols = 0 then S ++ [⟨snm, cols, []⟩] else []) (if mayTblP S snm cols = 0 then V0 else []) (mayTblP S snm cols)) := by
  have hw : Below w.heap.size w (((w.alloc (.cells #[.slice ta tn tc, .slice vb vm vd] 26)).alloc (.cells #[.int .i64 1, .string stb, .string snm, .slice co1 co2 co3, .slice ta1 ta2 ta3, .slice va1 va2 va3, .slice it1 it2 it3, .string sjn, .slice on1 on2 on3, .slice wh1 wh2 wh3, .slice od1 od2 od3, .bool sds, .slice in1 in2 in3] 34)).alloc (.cells #[.slice none 0 0, .slice none 0 0] 26)) := bal (bal (bal (Below.refl _ _) _) _) _
  have H0 := (addTable_any hSB hVB hS5 hCB (hS.keep (by decide) fun b _ hl => hw.block b hl) (hV.keep (by decide) fun b _ hl => hw.block b hl) 1 stb hnB ta1 ta2 ta3 va1 va2 va3 it1 it2 it3 sjn on1 on2 on3 wh1 wh2 wh3 od1 od2 od3 sds in1 in2 in3 (hC.keep (by decide) fun b _ hl => hw.block b hl))
  have bx := Bk.new ((w.alloc (.cells #[.slice ta tn tc, .slice vb vm vd] 26)).alloc (.cells #[.int .i64 1, .string stb, .string snm, .slice co1 co2 co3, .slice ta1 ta2 ta3, .slice va1 va2 va3, .slice it1 it2 it3, .string sjn, .slice on1 on2 on3, .slice wh1 wh2 wh3, .slice od1 od2 od3, .bool sds, .slice in1 in2 in3] 34)) (.cells #[.slice none 0 0, .slice none 0 0] 26)
  rw [World.size_alloc, World.size_alloc] at bx
  generalize (if mayTblP S snm cols = 0 then S ++ [⟨snm, cols, []⟩] else []) = S1 at *
  generalize (if mayTblP S snm cols = 0 then V0 else []) = V1 at *
  generalize mayTblP S snm cols = G at *
  replace H0 : Hid _ := hid H0
  clear hS hV hC hSB hVB hCB
  go_enter Try.func6, Try.ntmps6
  go_wp2_with fail
  refine Calls.mono H0.out ?_
  rintro e U ⟨ya, yn, yc, xb, xm, xd, rfl, r1, r2, hb⟩
  have hwU := Below.trans hw (hb.mono hw.size)
  have hws := hw.size
  have hU3 : w.heap.size + 1 + 1 + 1 ≤ (((w.alloc (.cells #[.slice ta tn tc, .slice vb vm vd] 26)).alloc (.cells #[.int .i64 1, .string stb, .string snm, .slice co1 co2 co3, .slice ta1 ta2 ta3, .slice va1 va2 va3, .slice it1 it2 it3, .string sjn, .slice on1 on2 on3, .slice wh1 wh2 wh3, .slice od1 od2 od3, .bool sds, .slice in1 in2 in3] 34)).alloc (.cells #[.slice none 0 0, .slice none 0 0] 26)).heap.size := by simp
  replace bx := bx.later hb
  have q1 := r1.mono (by decide) (Q' := fun b => w.heap.size + 1 + 1 + 1 ≤ b) fun b hb _ => Nat.le_trans hU3 hb
  have q2 := r2.mono (by decide) (Q' := fun b => w.heap.size + 1 + 1 + 1 ≤ b) fun b hb _ => Nat.le_trans hU3 hb
  generalize hz : w.heap.size + 1 + 1 = z at bx q1 q2 ⊢
  have hzw : w.heap.size < z := by omega
  have z0 := bx.cell 0
  have z1 := bx.cell 1
  have f0 := bx.free 0
  have f1 := bx.free 1
  simp only [List.getElem?_toArray, List.getElem?_cons_zero, List.getElem?_cons_succ] at z0 z1
  clear H0 hb hw r1 r2 bx hU3 hws
  replace q1 : Hid _ := hid q1
  replace q2 : Hid _ := hid q2
  go_wp2
  refine bodyPost_ret (v := .tuple #[.agg #[.slice ya yn yc, .slice xb xm xd], .int .i64 G]) (by simp [results, Try.results6, go_sem, z0, z1]) rfl ⟨_, _, _, _, _, _, rfl, ?_, ?_, (hwU.setCell (by show w.heap.size ≤ z; omega) _).setCell (by show w.heap.size ≤ z; omega) _⟩
  · exact (q1.out.keep (by decide) fun b hb _ => by have hb' : z + 1 ≤ b := hb; rw [Below.heap_setCell _ _ _ _ (by show b ≠ z; omega), Below.heap_setCell _ _ _ _ (by show b ≠ z; omega)]).mono (by decide) fun b hb _ => by have hb' : z + 1 ≤ b := hb; show w.heap.size ≤ b; omega
  · exact (q2.out.keep (by decide) fun b hb _ => by have hb' : z + 1 ≤ b := hb; rw [Below.heap_setCell _ _ _ _ (by show b ≠ z; omega), Below.heap_setCell _ _ _ _ (by show b ≠ z; omega)]).mono (by decide) fun b hb _ => by have hb' : z + 1 ≤ b := hb; show w.heap.size ≤ b; omega

end Go.Proofs.Ytnboooaockgoiab
