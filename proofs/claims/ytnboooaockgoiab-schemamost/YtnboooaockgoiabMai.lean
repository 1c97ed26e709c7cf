import Derived.Test.YtnboooaockgoiabMah
/- Statements copied. -/
namespace Go.Proofs.Ytnboooaockgoiab
open Go.RowKit
set_option linter.unusedVariables false
set_option linter.unusedSimpArgs false

theorem copiesStmt_nil (w : World) : Calls Try.prog 59 #[.slice none 0 0, .func (.func 40) #[] #[]] w fun e w' => e = .returned (.slice none 0 0) ∧ Below w.heap.size w w' := by
  go_enter Try.func59, Try.ntmps59
  go_wp2
  go_loopw [5, 10] (fun v5 v10 wr => v5 = .slice none 0 0 ∧ v10 = .int .i64 0 ∧ wr = w) (fun _ _ _ => 0)
  case atStart => exact ⟨rfl, rfl, rfl⟩
  case round =>
    obtain ⟨rfl, rfl, rfl⟩ := hrel
    go_wp2
    go_ret
    exact ⟨rfl, Below.refl _ _⟩


set_option maxRecDepth 100000 in
set_option maxHeartbeats 4000000 in
theorem copyStmt_any {m : Sm} (hB : SmB m) {Q : Nat → Prop} {w : World} {s : Sv} (h : IsS Q w m s) (hi : s.inn = (none, 0, 0)) : Calls Try.prog 40 #[stV s] w fun e w' => ∃ s', e = .returned (stV s') ∧ IsS (fun b => w.heap.size ≤ b) w' m s' ∧ s'.inn = (none, 0, 0) ∧ Below w.heap.size w w' := by
  obtain ⟨sk, stb, snm, ⟨co1, co2, co3⟩, ⟨ta1, ta2, ta3⟩, ⟨va1, va2, va3⟩, ⟨it1, it2, it3⟩, sjn, ⟨on1, on2, on3⟩, ⟨wh1, wh2, wh3⟩, ⟨od1, od2, od3⟩, sds, sinn⟩ := s
  obtain ⟨mk, mt, mn, mc, mg, mv, mi, mj, mo, mw, md, me⟩ := m
  obtain ⟨hk, htb, hnm, hco, hta, hva, hit, hjn, hon, hwh, hod, hds⟩ := h
  simp only at hk htb hnm hco hta hva hit hjn hon hwh hod hds hi
  subst hk htb hnm hjn hds hi
  obtain ⟨⟨hB1, hB2, hB3⟩, hBc, hBg, hBv, hBi, hBo, hBw, hBd⟩ := hB
  simp only at hB1 hB2 hB3 hBc hBg hBv hBi hBo hBw hBd
  unfold stV
  dsimp only
  go_enter Try.func40, Try.ntmps40
  go_upto_region 1 with fail
  generalize hU : (w.alloc (.cells #[.int .i64 sk, .string stb, .string snm, .slice co1 co2 co3, .slice ta1 ta2 ta3, .slice va1 va2 va3, .slice it1 it2 it3, .string sjn, .slice on1 on2 on3, .slice wh1 wh2 wh3, .slice od1 od2 od3, .bool sds, .slice none 0 0] 34)).alloc (.cells #[.int .i64 0, .string ⟨#[]⟩, .string ⟨#[]⟩, .slice none 0 0, .slice none 0 0, .slice none 0 0, .slice none 0 0, .string ⟨#[]⟩, .slice none 0 0, .slice none 0 0, .slice none 0 0, .bool false, .slice none 0 0] 34) = U
  have b0 : Bk U w.heap.size (.cells #[.int .i64 sk, .string stb, .string snm, .slice co1 co2 co3, .slice ta1 ta2 ta3, .slice va1 va2 va3, .slice it1 it2 it3, .string sjn, .slice on1 on2 on3, .slice wh1 wh2 wh3, .slice od1 od2 od3, .bool sds, .slice none 0 0] 34) := hU ▸ (Bk.new w _).later (bal (Below.refl _ _) _)
  have bx : Bk U (w.heap.size + 1) (.cells #[.int .i64 0, .string ⟨#[]⟩, .string ⟨#[]⟩, .slice none 0 0, .slice none 0 0, .slice none 0 0, .slice none 0 0, .string ⟨#[]⟩, .slice none 0 0, .slice none 0 0, .slice none 0 0, .bool false, .slice none 0 0] 34) := by
    have := Bk.new (w.alloc (.cells #[.int .i64 sk, .string stb, .string snm, .slice co1 co2 co3, .slice ta1 ta2 ta3, .slice va1 va2 va3, .slice it1 it2 it3, .string sjn, .slice on1 on2 on3, .slice wh1 wh2 wh3, .slice od1 od2 od3, .bool sds, .slice none 0 0] 34)) (.cells #[.int .i64 0, .string ⟨#[]⟩, .string ⟨#[]⟩, .slice none 0 0, .slice none 0 0, .slice none 0 0, .slice none 0 0, .string ⟨#[]⟩, .slice none 0 0, .slice none 0 0, .slice none 0 0, .bool false, .slice none 0 0] 34)
    rw [World.size_alloc] at this
    exact hU ▸ this
  have hw : Below w.heap.size w U := hU ▸ bal (bal (Below.refl _ _) _) _
  have hs : U.heap.size = w.heap.size + 2 := by rw [← hU]; simp
  have H1 : Hid (∀ w, _) := hid fun w => clone_any stb hB1 w
  have H2 : Hid (∀ w, _) := hid fun w => clone_any snm hB2 w
  have H3 : Hid (∀ w1, Below U.heap.size U w1 → Calls Try.prog 48 #[.slice co1 co2 co3, .func (.func 33) #[] #[]] w1 (TeR eCol w1 mc)) := hid fun w1 hb => copiesCol_any (fun x hx => copyCol_cp x (hBc.2 x hx)) hBc.1 (hco.keep (by decide) fun b _ hl => (Below.trans hw (hb.mono hw.size)).block b hl)
  have H4 : Hid (∀ w1, Below U.heap.size U w1 → Calls Try.prog 54 #[.slice ta1 ta2 ta3] w1 (TeR eTag w1 mg)) := hid fun w1 hb => cloneTags_any hBg (hta.keep (by decide) fun b _ hl => (Below.trans hw (hb.mono hw.size)).block b hl)
  have H5 : Hid (∀ w1, Below U.heap.size U w1 → Calls Try.prog 55 #[.slice va1 va2 va3, .func (.func 56) #[] #[]] w1 (TeR eExpr w1 mv)) := hid fun w1 hb => copiesExpr_any (fun x hx => copyExpr_cp x (hBv.2 x hx)) hBv.1 (hva.keep (by decide) fun b _ hl => (Below.trans hw (hb.mono hw.size)).block b hl)
  have H6 : Hid (∀ w1, Below U.heap.size U w1 → Calls Try.prog 57 #[.slice it1 it2 it3, .func (.func 58) #[] #[]] w1 (TeR eItem w1 mi)) := hid fun w1 hb => copiesItem_any (fun x hx => copyItem_cp x (hBi.2 x hx)) hBi.1 (hit.keep (by decide) fun b _ hl => (Below.trans hw (hb.mono hw.size)).block b hl)
  have H7 : Hid (∀ w, _) := hid fun w => clone_any sjn hB3 w
  have H8 : Hid (∀ w1, Below U.heap.size U w1 → Calls Try.prog 55 #[.slice on1 on2 on3, .func (.func 56) #[] #[]] w1 (TeR eExpr w1 mo)) := hid fun w1 hb => copiesExpr_any (fun x hx => copyExpr_cp x (hBo.2 x hx)) hBo.1 (hon.keep (by decide) fun b _ hl => (Below.trans hw (hb.mono hw.size)).block b hl)
  have H9 : Hid (∀ w1, Below U.heap.size U w1 → Calls Try.prog 55 #[.slice wh1 wh2 wh3, .func (.func 56) #[] #[]] w1 (TeR eExpr w1 mw)) := hid fun w1 hb => copiesExpr_any (fun x hx => copyExpr_cp x (hBw.2 x hx)) hBw.1 (hwh.keep (by decide) fun b _ hl => (Below.trans hw (hb.mono hw.size)).block b hl)
  have H10 : Hid (∀ w1, Below U.heap.size U w1 → Calls Try.prog 55 #[.slice od1 od2 od3, .func (.func 56) #[] #[]] w1 (TeR eExpr w1 md)) := hid fun w1 hb => copiesExpr_any (fun x hx => copyExpr_cp x (hBd.2 x hx)) hBd.1 (hod.keep (by decide) fun b _ hl => (Below.trans hw (hb.mono hw.size)).block b hl)
  have H11 : Hid (∀ w, _) := hid fun w => copiesStmt_nil w
  have hY : Below U.heap.size U U.drew := (Below.refl _ _).drew
  have c0 := b0.cell 0
  have c1 := b0.cell 1
  have c2 := b0.cell 2
  have c3 := b0.cell 3
  have c4 := b0.cell 4
  have c5 := b0.cell 5
  have c6 := b0.cell 6
  have c7 := b0.cell 7
  have c8 := b0.cell 8
  have c9 := b0.cell 9
  have c10 := b0.cell 10
  have c11 := b0.cell 11
  have c12 := b0.cell 12
  simp only [List.getElem?_toArray, List.getElem?_cons_zero, List.getElem?_cons_succ] at c0 c1 c2 c3 c4 c5 c6 c7 c8 c9 c10 c11 c12
  replace bx := bx.later hY
  clear hB1 hB2 hB3 hBc hBg hBv hBi hBo hBw hBd hco hta hva hit hon hwh hod b0
  replace hs : Hid _ := hid hs
  clear hU
  generalize hz : w.heap.size + 1 = z at bx ⊢
  have hzw : w.heap.size < z := by omega
  replace hz : Hid _ := hid hz
  go_wp2
  refine wp_region_held_drew (S := fun w' => w'.cell? ⟨w.heap.size, 0, none⟩ = some (.int .i64 sk) ∧ w'.cell? ⟨w.heap.size, 1, none⟩ = some (.string stb) ∧ w'.cell? ⟨w.heap.size, 2, none⟩ = some (.string snm) ∧ w'.cell? ⟨w.heap.size, 3, none⟩ = some (.slice co1 co2 co3) ∧ w'.cell? ⟨w.heap.size, 4, none⟩ = some (.slice ta1 ta2 ta3) ∧ w'.cell? ⟨w.heap.size, 5, none⟩ = some (.slice va1 va2 va3) ∧ w'.cell? ⟨w.heap.size, 6, none⟩ = some (.slice it1 it2 it3) ∧ w'.cell? ⟨w.heap.size, 7, none⟩ = some (.string sjn) ∧ w'.cell? ⟨w.heap.size, 8, none⟩ = some (.slice on1 on2 on3) ∧ w'.cell? ⟨w.heap.size, 9, none⟩ = some (.slice wh1 wh2 wh3) ∧ w'.cell? ⟨w.heap.size, 10, none⟩ = some (.slice od1 od2 od3) ∧ w'.cell? ⟨w.heap.size, 11, none⟩ = some (.bool sds) ∧ w'.cell? ⟨w.heap.size, 12, none⟩ = some (.slice none 0 0)) (by kernel_rfl) (⟨cell_later hY c0, cell_later hY c1, cell_later hY c2, cell_later hY c3, cell_later hY c4, cell_later hY c5, cell_later hY c6, cell_later hY c7, cell_later hY c8, cell_later hY c9, cell_later hY c10, cell_later hY c11, cell_later hY c12⟩) (fun hHeld => ?_)
  refine wpAnyH_take (i := 0) (v := ?tv41) rfl (by kernel_rfl) (by kernel_rfl) (by kernel_rfl) (fun _ _ _ h => h) (Or.inl ⟨by rfl, ?hy41⟩) (by assumption) ?rs41
  case hy41 => (intro w9 hSw; (try dsimp only at hSw); go_simp; (try with_reducible rfl))
  (try simp only [Act.put, List.getElem_toArray, List.getElem_cons_zero, List.getElem_cons_succ, List.setIfInBounds_toArray, List.set_cons_zero, List.set_cons_succ])
  refine wpAnyH_take (i := 1) (v := ?tv42) rfl (by kernel_rfl) (by kernel_rfl) (by kernel_rfl) (fun _ _ _ h => h) (Or.inl ⟨by rfl, ?hy42⟩) (by assumption) ?rs42
  case hy42 => (intro w9 hSw; (try dsimp only at hSw); go_simp; (try with_reducible rfl))
  (try simp only [Act.put, List.getElem_toArray, List.getElem_cons_zero, List.getElem_cons_succ, List.setIfInBounds_toArray, List.set_cons_zero, List.set_cons_succ])
  refine wpAnyH_take (i := 2) (v := ?tv43) rfl (by kernel_rfl) (by kernel_rfl) (by kernel_rfl) (fun _ _ _ h => h) (Or.inl ⟨by rfl, ?hy43⟩) (by assumption) ?rs43
  case hy43 => (intro w9 hSw; (try dsimp only at hSw); go_simp; (try with_reducible rfl))
  (try simp only [Act.put, List.getElem_toArray, List.getElem_cons_zero, List.getElem_cons_succ, List.setIfInBounds_toArray, List.set_cons_zero, List.set_cons_succ])
  refine wpAnyH_take (i := 3) (v := ?tv44) rfl (by kernel_rfl) (by kernel_rfl) (by kernel_rfl) (fun _ _ _ h => h) (Or.inl ⟨by rfl, ?hy44⟩) (by assumption) ?rs44
  case hy44 => (intro w9 hSw; (try dsimp only at hSw); go_simp; (try with_reducible rfl))
  (try simp only [Act.put, List.getElem_toArray, List.getElem_cons_zero, List.getElem_cons_succ, List.setIfInBounds_toArray, List.set_cons_zero, List.set_cons_succ])
  refine wpAnyH_take (i := 5) (v := ?tv45) rfl (by kernel_rfl) (by kernel_rfl) (by kernel_rfl) (fun _ _ _ h => h) (Or.inl ⟨by rfl, ?hy45⟩) (by assumption) ?rs45
  case hy45 => (intro w9 hSw; (try dsimp only at hSw); go_simp; (try with_reducible rfl))
  (try simp only [Act.put, List.getElem_toArray, List.getElem_cons_zero, List.getElem_cons_succ, List.setIfInBounds_toArray, List.set_cons_zero, List.set_cons_succ])
  refine wpAnyH_take (i := 6) (v := ?tv46) rfl (by kernel_rfl) (by kernel_rfl) (by kernel_rfl) (fun _ _ _ h => h) (Or.inl ⟨by rfl, ?hy46⟩) (by assumption) ?rs46
  case hy46 => (intro w9 hSw; (try dsimp only at hSw); go_simp; (try with_reducible rfl))
  (try simp only [Act.put, List.getElem_toArray, List.getElem_cons_zero, List.getElem_cons_succ, List.setIfInBounds_toArray, List.set_cons_zero, List.set_cons_succ])
  refine wpAnyH_take (i := 8) (v := ?tv47) rfl (by kernel_rfl) (by kernel_rfl) (by kernel_rfl) (fun _ _ _ h => h) (Or.inl ⟨by rfl, ?hy47⟩) (by assumption) ?rs47
  case hy47 => (intro w9 hSw; (try dsimp only at hSw); go_simp; (try with_reducible rfl))
  (try simp only [Act.put, List.getElem_toArray, List.getElem_cons_zero, List.getElem_cons_succ, List.setIfInBounds_toArray, List.set_cons_zero, List.set_cons_succ])
  refine wpAnyH_take (i := 9) (v := ?tv48) rfl (by kernel_rfl) (by kernel_rfl) (by kernel_rfl) (fun _ _ _ h => h) (Or.inl ⟨by rfl, ?hy48⟩) (by assumption) ?rs48
  case hy48 => (intro w9 hSw; (try dsimp only at hSw); go_simp; (try with_reducible rfl))
  (try simp only [Act.put, List.getElem_toArray, List.getElem_cons_zero, List.getElem_cons_succ, List.setIfInBounds_toArray, List.set_cons_zero, List.set_cons_succ])
  refine wpAnyH_take (i := 11) (v := ?tv49) rfl (by kernel_rfl) (by kernel_rfl) (by kernel_rfl) (fun _ _ _ h => h) (Or.inl ⟨by rfl, ?hy49⟩) (by assumption) ?rs49
  case hy49 => (intro w9 hSw; (try dsimp only at hSw); go_simp; (try with_reducible rfl))
  (try simp only [Act.put, List.getElem_toArray, List.getElem_cons_zero, List.getElem_cons_succ, List.setIfInBounds_toArray, List.set_cons_zero, List.set_cons_succ])
  refine wpAnyH_take (i := 12) (v := ?tv50) rfl (by kernel_rfl) (by kernel_rfl) (by kernel_rfl) (fun _ _ _ h => h) (Or.inl ⟨by rfl, ?hy50⟩) (by assumption) ?rs50
  case hy50 => (intro w9 hSw; (try dsimp only at hSw); go_simp; (try with_reducible rfl))
  (try simp only [Act.put, List.getElem_toArray, List.getElem_cons_zero, List.getElem_cons_succ, List.setIfInBounds_toArray, List.set_cons_zero, List.set_cons_succ])
  refine wpAnyH_take (i := 14) (v := ?tv51) rfl (by kernel_rfl) (by kernel_rfl) (by kernel_rfl) (fun _ _ _ h => h) (Or.inl ⟨by rfl, ?hy51⟩) (by assumption) ?rs51
  case hy51 => (intro w9 hSw; (try dsimp only at hSw); go_simp; (try with_reducible rfl))
  (try simp only [Act.put, List.getElem_toArray, List.getElem_cons_zero, List.getElem_cons_succ, List.setIfInBounds_toArray, List.set_cons_zero, List.set_cons_succ])
  refine wpAnyH_take (i := 15) (v := ?tv52) rfl (by kernel_rfl) (by kernel_rfl) (by kernel_rfl) (fun _ _ _ h => h) (Or.inl ⟨by rfl, ?hy52⟩) (by assumption) ?rs52
  case hy52 => (intro w9 hSw; (try dsimp only at hSw); go_simp; (try with_reducible rfl))
  (try simp only [Act.put, List.getElem_toArray, List.getElem_cons_zero, List.getElem_cons_succ, List.setIfInBounds_toArray, List.set_cons_zero, List.set_cons_succ])
  refine wpAnyH_take (i := 17) (v := ?tv53) rfl (by kernel_rfl) (by kernel_rfl) (by kernel_rfl) (fun _ _ _ h => h) (Or.inl ⟨by rfl, ?hy53⟩) (by assumption) ?rs53
  case hy53 => (intro w9 hSw; (try dsimp only at hSw); go_simp; (try with_reducible rfl))
  (try simp only [Act.put, List.getElem_toArray, List.getElem_cons_zero, List.getElem_cons_succ, List.setIfInBounds_toArray, List.set_cons_zero, List.set_cons_succ])
  refine wpAnyH_take (i := 18) (v := ?tv54) rfl (by kernel_rfl) (by kernel_rfl) (by kernel_rfl) (fun _ _ _ h => h) (Or.inl ⟨by rfl, ?hy54⟩) (by assumption) ?rs54
  case hy54 => (intro w9 hSw; (try dsimp only at hSw); go_simp; (try with_reducible rfl))
  (try simp only [Act.put, List.getElem_toArray, List.getElem_cons_zero, List.getElem_cons_succ, List.setIfInBounds_toArray, List.set_cons_zero, List.set_cons_succ])
  refine wpAnyH_take (i := 20) (v := ?tv55) rfl (by kernel_rfl) (by kernel_rfl) (by kernel_rfl) (fun _ _ _ h => h) (Or.inl ⟨by rfl, ?hy55⟩) (by assumption) ?rs55
  case hy55 => (intro w9 hSw; (try dsimp only at hSw); go_simp; (try with_reducible rfl))
  (try simp only [Act.put, List.getElem_toArray, List.getElem_cons_zero, List.getElem_cons_succ, List.setIfInBounds_toArray, List.set_cons_zero, List.set_cons_succ])
  refine wpAnyH_take (i := 21) (v := ?tv56) rfl (by kernel_rfl) (by kernel_rfl) (by kernel_rfl) (fun _ _ _ h => h) (Or.inl ⟨by rfl, ?hy56⟩) (by assumption) ?rs56
  case hy56 => (intro w9 hSw; (try dsimp only at hSw); go_simp; (try with_reducible rfl))
  (try simp only [Act.put, List.getElem_toArray, List.getElem_cons_zero, List.getElem_cons_succ, List.setIfInBounds_toArray, List.set_cons_zero, List.set_cons_succ])
  refine wpAnyH_take (i := 23) (v := ?tv57) rfl (by kernel_rfl) (by kernel_rfl) (by kernel_rfl) (fun _ _ _ h => h) (Or.inl ⟨by rfl, ?hy57⟩) (by assumption) ?rs57
  case hy57 => (intro w9 hSw; (try dsimp only at hSw); go_simp; (try with_reducible rfl))
  (try simp only [Act.put, List.getElem_toArray, List.getElem_cons_zero, List.getElem_cons_succ, List.setIfInBounds_toArray, List.set_cons_zero, List.set_cons_succ])
  refine wpAnyH_take (i := 24) (v := ?tv58) rfl (by kernel_rfl) (by kernel_rfl) (by kernel_rfl) (fun _ _ _ h => h) (Or.inl ⟨by rfl, ?hy58⟩) (by assumption) ?rs58
  case hy58 => (intro w9 hSw; (try dsimp only at hSw); go_simp; (try with_reducible rfl))
  (try simp only [Act.put, List.getElem_toArray, List.getElem_cons_zero, List.getElem_cons_succ, List.setIfInBounds_toArray, List.set_cons_zero, List.set_cons_succ])
  refine wpAnyH_take (i := 26) (v := ?tv59) rfl (by kernel_rfl) (by kernel_rfl) (by kernel_rfl) (fun _ _ _ h => h) (Or.inl ⟨by rfl, ?hy59⟩) (by assumption) ?rs59
  case hy59 => (intro w9 hSw; (try dsimp only at hSw); go_simp; (try with_reducible rfl))
  (try simp only [Act.put, List.getElem_toArray, List.getElem_cons_zero, List.getElem_cons_succ, List.setIfInBounds_toArray, List.set_cons_zero, List.set_cons_succ])
  refine wpAnyH_take (i := 27) (v := ?tv60) rfl (by kernel_rfl) (by kernel_rfl) (by kernel_rfl) (fun _ _ _ h => h) (Or.inl ⟨by rfl, ?hy60⟩) (by assumption) ?rs60
  case hy60 => (intro w9 hSw; (try dsimp only at hSw); go_simp; (try with_reducible rfl))
  (try simp only [Act.put, List.getElem_toArray, List.getElem_cons_zero, List.getElem_cons_succ, List.setIfInBounds_toArray, List.set_cons_zero, List.set_cons_succ])
  refine wpAnyH_take (i := 29) (v := ?tv61) rfl (by kernel_rfl) (by kernel_rfl) (by kernel_rfl) (fun _ _ _ h => h) (Or.inl ⟨by rfl, ?hy61⟩) (by assumption) ?rs61
  case hy61 => (intro w9 hSw; (try dsimp only at hSw); go_simp; (try with_reducible rfl))
  (try simp only [Act.put, List.getElem_toArray, List.getElem_cons_zero, List.getElem_cons_succ, List.setIfInBounds_toArray, List.set_cons_zero, List.set_cons_succ])
  refine wpAnyH_take (i := 30) (v := ?tv62) rfl (by kernel_rfl) (by kernel_rfl) (by kernel_rfl) (fun _ _ _ h => h) (Or.inl ⟨by rfl, ?hy62⟩) (by assumption) ?rs62
  case hy62 => (intro w9 hSw; (try dsimp only at hSw); go_simp; (try with_reducible rfl))
  (try simp only [Act.put, List.getElem_toArray, List.getElem_cons_zero, List.getElem_cons_succ, List.setIfInBounds_toArray, List.set_cons_zero, List.set_cons_succ])
  refine wpAnyH_take (i := 32) (v := ?tv63) rfl (by kernel_rfl) (by kernel_rfl) (by kernel_rfl) (fun _ _ _ h => h) (Or.inl ⟨by rfl, ?hy63⟩) (by assumption) ?rs63
  case hy63 => (intro w9 hSw; (try dsimp only at hSw); go_simp; (try with_reducible rfl))
  (try simp only [Act.put, List.getElem_toArray, List.getElem_cons_zero, List.getElem_cons_succ, List.setIfInBounds_toArray, List.set_cons_zero, List.set_cons_succ])
  refine wpAnyH_take (i := 33) (v := ?tv64) rfl (by kernel_rfl) (by kernel_rfl) (by kernel_rfl) (fun _ _ _ h => h) (Or.inl ⟨by rfl, ?hy64⟩) (by assumption) ?rs64
  case hy64 => (intro w9 hSw; (try dsimp only at hSw); go_simp; (try with_reducible rfl))
  (try simp only [Act.put, List.getElem_toArray, List.getElem_cons_zero, List.getElem_cons_succ, List.setIfInBounds_toArray, List.set_cons_zero, List.set_cons_succ])
  refine wpAnyH_take (i := 34) (v := ?tv65) rfl (by kernel_rfl) (by kernel_rfl) (by kernel_rfl) (fun _ _ _ h => h) (Or.inl ⟨by rfl, ?hy65⟩) (by assumption) ?rs65
  case hy65 => (intro w9 hSw; (try dsimp only at hSw); go_simp; (try with_reducible rfl))
  (try simp only [Act.put, List.getElem_toArray, List.getElem_cons_zero, List.getElem_cons_succ, List.setIfInBounds_toArray, List.set_cons_zero, List.set_cons_succ])
  refine wpAnyH_take (i := 35) (v := ?tv66) rfl (by kernel_rfl) (by kernel_rfl) (by kernel_rfl) (fun _ _ _ h => h) (Or.inl ⟨by rfl, ?hy66⟩) (by assumption) ?rs66
  case hy66 => (intro w9 hSw; (try dsimp only at hSw); go_simp; (try with_reducible rfl))
  (try simp only [Act.put, List.getElem_toArray, List.getElem_cons_zero, List.getElem_cons_succ, List.setIfInBounds_toArray, List.set_cons_zero, List.set_cons_succ])
  refine wpAnyH_ready (rs := [4]) (by kernel_rfl) (by simp) ?_
  refine AllReadyH.cons rfl (fun K hK => ?_) AllReadyH.nil
  go_simp
  go_wp2_with (first | (go_at_call 24; (refine Calls.mono (H1.out _) ?_); rintro e y ⟨rfl, hby⟩; replace bx := bx.later hby; replace hY := Below.on hY hby))
  refine hK.out _ _ (⟨cell_later hY c0, cell_later hY c1, cell_later hY c2, cell_later hY c3, cell_later hY c4, cell_later hY c5, cell_later hY c6, cell_later hY c7, cell_later hY c8, cell_later hY c9, cell_later hY c10, cell_later hY c11, cell_later hY c12⟩) (fun hHeld => ?_)
  clear hK K
  (try simp only [Act.put, List.getElem_toArray, List.getElem_cons_zero, List.getElem_cons_succ, List.setIfInBounds_toArray, List.set_cons_zero, List.set_cons_succ])
  refine wpAnyH_ready (rs := [7]) (by kernel_rfl) (by simp) ?_
  refine AllReadyH.cons rfl (fun K hK => ?_) AllReadyH.nil
  go_simp
  go_wp2_with (first | (go_at_call 24; (refine Calls.mono (H2.out _) ?_); rintro e y ⟨rfl, hby⟩; replace bx := bx.later hby; replace hY := Below.on hY hby))
  refine hK.out _ _ (⟨cell_later hY c0, cell_later hY c1, cell_later hY c2, cell_later hY c3, cell_later hY c4, cell_later hY c5, cell_later hY c6, cell_later hY c7, cell_later hY c8, cell_later hY c9, cell_later hY c10, cell_later hY c11, cell_later hY c12⟩) (fun hHeld => ?_)
  clear hK K
  (try simp only [Act.put, List.getElem_toArray, List.getElem_cons_zero, List.getElem_cons_succ, List.setIfInBounds_toArray, List.set_cons_zero, List.set_cons_succ])
  refine wpAnyH_ready (rs := [10]) (by kernel_rfl) (by simp) ?_
  refine AllReadyH.cons rfl (fun K hK => ?_) AllReadyH.nil
  go_simp
  go_wp2_with (first | (go_at_call 48; (refine Calls.mono (H3.out _ hY) ?_); rintro e y ⟨a3, m3, d3, rfl, r3, hby⟩; replace bx := bx.later hby; replace r3 := r3.mono (by decide) (Q' := fun b => w.heap.size + 2 ≤ b) (fun b hb _ => (by have h1 := hY.size; have h2 := hs.out; have h3 : _ ≤ b := hb; show w.heap.size + 2 ≤ b; omega)); replace hY := Below.on hY hby))
  refine hK.out _ _ (⟨cell_later hY c0, cell_later hY c1, cell_later hY c2, cell_later hY c3, cell_later hY c4, cell_later hY c5, cell_later hY c6, cell_later hY c7, cell_later hY c8, cell_later hY c9, cell_later hY c10, cell_later hY c11, cell_later hY c12⟩) (fun hHeld => ?_)
  clear hK K
  (try simp only [Act.put, List.getElem_toArray, List.getElem_cons_zero, List.getElem_cons_succ, List.setIfInBounds_toArray, List.set_cons_zero, List.set_cons_succ])
  refine wpAnyH_ready (rs := [13]) (by kernel_rfl) (by simp) ?_
  refine AllReadyH.cons rfl (fun K hK => ?_) AllReadyH.nil
  go_simp
  go_wp2_with (first | (go_at_call 54; (refine Calls.mono (H4.out _ hY) ?_); rintro e y ⟨a4, m4, d4, rfl, r4, hby⟩; replace bx := bx.later hby; replace r4 := r4.mono (by decide) (Q' := fun b => w.heap.size + 2 ≤ b) (fun b hb _ => (by have h1 := hY.size; have h2 := hs.out; have h3 : _ ≤ b := hb; show w.heap.size + 2 ≤ b; omega)); replace r3 := r3.keep (by decide) (fun b _ hl => hby.block b hl); replace hY := Below.on hY hby))
  refine hK.out _ _ (⟨cell_later hY c0, cell_later hY c1, cell_later hY c2, cell_later hY c3, cell_later hY c4, cell_later hY c5, cell_later hY c6, cell_later hY c7, cell_later hY c8, cell_later hY c9, cell_later hY c10, cell_later hY c11, cell_later hY c12⟩) (fun hHeld => ?_)
  clear hK K
  (try simp only [Act.put, List.getElem_toArray, List.getElem_cons_zero, List.getElem_cons_succ, List.setIfInBounds_toArray, List.set_cons_zero, List.set_cons_succ])
  refine wpAnyH_ready (rs := [16]) (by kernel_rfl) (by simp) ?_
  refine AllReadyH.cons rfl (fun K hK => ?_) AllReadyH.nil
  go_simp
  go_wp2_with (first | (go_at_call 55; (refine Calls.mono (H5.out _ hY) ?_); rintro e y ⟨a5, m5, d5, rfl, r5, hby⟩; replace bx := bx.later hby; replace r5 := r5.mono (by decide) (Q' := fun b => w.heap.size + 2 ≤ b) (fun b hb _ => (by have h1 := hY.size; have h2 := hs.out; have h3 : _ ≤ b := hb; show w.heap.size + 2 ≤ b; omega)); replace r3 := r3.keep (by decide) (fun b _ hl => hby.block b hl); replace r4 := r4.keep (by decide) (fun b _ hl => hby.block b hl); replace hY := Below.on hY hby))
  refine hK.out _ _ (⟨cell_later hY c0, cell_later hY c1, cell_later hY c2, cell_later hY c3, cell_later hY c4, cell_later hY c5, cell_later hY c6, cell_later hY c7, cell_later hY c8, cell_later hY c9, cell_later hY c10, cell_later hY c11, cell_later hY c12⟩) (fun hHeld => ?_)
  clear hK K
  (try simp only [Act.put, List.getElem_toArray, List.getElem_cons_zero, List.getElem_cons_succ, List.setIfInBounds_toArray, List.set_cons_zero, List.set_cons_succ])
  refine wpAnyH_ready (rs := [19]) (by kernel_rfl) (by simp) ?_
  refine AllReadyH.cons rfl (fun K hK => ?_) AllReadyH.nil
  go_simp
  go_wp2_with (first | (go_at_call 57; (refine Calls.mono (H6.out _ hY) ?_); rintro e y ⟨a6, m6, d6, rfl, r6, hby⟩; replace bx := bx.later hby; replace r6 := r6.mono (by decide) (Q' := fun b => w.heap.size + 2 ≤ b) (fun b hb _ => (by have h1 := hY.size; have h2 := hs.out; have h3 : _ ≤ b := hb; show w.heap.size + 2 ≤ b; omega)); replace r3 := r3.keep (by decide) (fun b _ hl => hby.block b hl); replace r4 := r4.keep (by decide) (fun b _ hl => hby.block b hl); replace r5 := r5.keep (by decide) (fun b _ hl => hby.block b hl); replace hY := Below.on hY hby))
  refine hK.out _ _ (⟨cell_later hY c0, cell_later hY c1, cell_later hY c2, cell_later hY c3, cell_later hY c4, cell_later hY c5, cell_later hY c6, cell_later hY c7, cell_later hY c8, cell_later hY c9, cell_later hY c10, cell_later hY c11, cell_later hY c12⟩) (fun hHeld => ?_)
  clear hK K
  (try simp only [Act.put, List.getElem_toArray, List.getElem_cons_zero, List.getElem_cons_succ, List.setIfInBounds_toArray, List.set_cons_zero, List.set_cons_succ])
  refine wpAnyH_ready (rs := [22]) (by kernel_rfl) (by simp) ?_
  refine AllReadyH.cons rfl (fun K hK => ?_) AllReadyH.nil
  go_simp
  go_wp2_with (first | (go_at_call 24; (refine Calls.mono (H7.out _) ?_); rintro e y ⟨rfl, hby⟩; replace bx := bx.later hby; replace r3 := r3.keep (by decide) (fun b _ hl => hby.block b hl); replace r4 := r4.keep (by decide) (fun b _ hl => hby.block b hl); replace r5 := r5.keep (by decide) (fun b _ hl => hby.block b hl); replace r6 := r6.keep (by decide) (fun b _ hl => hby.block b hl); replace hY := Below.on hY hby))
  refine hK.out _ _ (⟨cell_later hY c0, cell_later hY c1, cell_later hY c2, cell_later hY c3, cell_later hY c4, cell_later hY c5, cell_later hY c6, cell_later hY c7, cell_later hY c8, cell_later hY c9, cell_later hY c10, cell_later hY c11, cell_later hY c12⟩) (fun hHeld => ?_)
  clear hK K
  (try simp only [Act.put, List.getElem_toArray, List.getElem_cons_zero, List.getElem_cons_succ, List.setIfInBounds_toArray, List.set_cons_zero, List.set_cons_succ])
  refine wpAnyH_ready (rs := [25]) (by kernel_rfl) (by simp) ?_
  refine AllReadyH.cons rfl (fun K hK => ?_) AllReadyH.nil
  go_simp
  go_wp2_with (first | (go_at_call 55; (refine Calls.mono (H8.out _ hY) ?_); rintro e y ⟨a8, m8, d8, rfl, r8, hby⟩; replace bx := bx.later hby; replace r8 := r8.mono (by decide) (Q' := fun b => w.heap.size + 2 ≤ b) (fun b hb _ => (by have h1 := hY.size; have h2 := hs.out; have h3 : _ ≤ b := hb; show w.heap.size + 2 ≤ b; omega)); replace r3 := r3.keep (by decide) (fun b _ hl => hby.block b hl); replace r4 := r4.keep (by decide) (fun b _ hl => hby.block b hl); replace r5 := r5.keep (by decide) (fun b _ hl => hby.block b hl); replace r6 := r6.keep (by decide) (fun b _ hl => hby.block b hl); replace hY := Below.on hY hby))
  refine hK.out _ _ (⟨cell_later hY c0, cell_later hY c1, cell_later hY c2, cell_later hY c3, cell_later hY c4, cell_later hY c5, cell_later hY c6, cell_later hY c7, cell_later hY c8, cell_later hY c9, cell_later hY c10, cell_later hY c11, cell_later hY c12⟩) (fun hHeld => ?_)
  clear hK K
  (try simp only [Act.put, List.getElem_toArray, List.getElem_cons_zero, List.getElem_cons_succ, List.setIfInBounds_toArray, List.set_cons_zero, List.set_cons_succ])
  refine wpAnyH_ready (rs := [28]) (by kernel_rfl) (by simp) ?_
  refine AllReadyH.cons rfl (fun K hK => ?_) AllReadyH.nil
  go_simp
  go_wp2_with (first | (go_at_call 55; (refine Calls.mono (H9.out _ hY) ?_); rintro e y ⟨a9, m9, d9, rfl, r9, hby⟩; replace bx := bx.later hby; replace r9 := r9.mono (by decide) (Q' := fun b => w.heap.size + 2 ≤ b) (fun b hb _ => (by have h1 := hY.size; have h2 := hs.out; have h3 : _ ≤ b := hb; show w.heap.size + 2 ≤ b; omega)); replace r3 := r3.keep (by decide) (fun b _ hl => hby.block b hl); replace r4 := r4.keep (by decide) (fun b _ hl => hby.block b hl); replace r5 := r5.keep (by decide) (fun b _ hl => hby.block b hl); replace r6 := r6.keep (by decide) (fun b _ hl => hby.block b hl); replace r8 := r8.keep (by decide) (fun b _ hl => hby.block b hl); replace hY := Below.on hY hby))
  refine hK.out _ _ (⟨cell_later hY c0, cell_later hY c1, cell_later hY c2, cell_later hY c3, cell_later hY c4, cell_later hY c5, cell_later hY c6, cell_later hY c7, cell_later hY c8, cell_later hY c9, cell_later hY c10, cell_later hY c11, cell_later hY c12⟩) (fun hHeld => ?_)
  clear hK K
  (try simp only [Act.put, List.getElem_toArray, List.getElem_cons_zero, List.getElem_cons_succ, List.setIfInBounds_toArray, List.set_cons_zero, List.set_cons_succ])
  refine wpAnyH_ready (rs := [31]) (by kernel_rfl) (by simp) ?_
  refine AllReadyH.cons rfl (fun K hK => ?_) AllReadyH.nil
  go_simp
  go_wp2_with (first | (go_at_call 55; (refine Calls.mono (H10.out _ hY) ?_); rintro e y ⟨a10, m10, d10, rfl, r10, hby⟩; replace bx := bx.later hby; replace r10 := r10.mono (by decide) (Q' := fun b => w.heap.size + 2 ≤ b) (fun b hb _ => (by have h1 := hY.size; have h2 := hs.out; have h3 : _ ≤ b := hb; show w.heap.size + 2 ≤ b; omega)); replace r3 := r3.keep (by decide) (fun b _ hl => hby.block b hl); replace r4 := r4.keep (by decide) (fun b _ hl => hby.block b hl); replace r5 := r5.keep (by decide) (fun b _ hl => hby.block b hl); replace r6 := r6.keep (by decide) (fun b _ hl => hby.block b hl); replace r8 := r8.keep (by decide) (fun b _ hl => hby.block b hl); replace r9 := r9.keep (by decide) (fun b _ hl => hby.block b hl); replace hY := Below.on hY hby))
  refine hK.out _ _ (⟨cell_later hY c0, cell_later hY c1, cell_later hY c2, cell_later hY c3, cell_later hY c4, cell_later hY c5, cell_later hY c6, cell_later hY c7, cell_later hY c8, cell_later hY c9, cell_later hY c10, cell_later hY c11, cell_later hY c12⟩) (fun hHeld => ?_)
  clear hK K
  (try simp only [Act.put, List.getElem_toArray, List.getElem_cons_zero, List.getElem_cons_succ, List.setIfInBounds_toArray, List.set_cons_zero, List.set_cons_succ])
  refine wpAnyH_ready (rs := [36]) (by kernel_rfl) (by simp) ?_
  refine AllReadyH.cons rfl (fun K hK => ?_) AllReadyH.nil
  go_simp
  go_wp2_with (first | (go_at_call 59; (refine Calls.mono (H11.out _) ?_); rintro e y ⟨rfl, hby⟩; replace bx := bx.later hby; replace r3 := r3.keep (by decide) (fun b _ hl => hby.block b hl); replace r4 := r4.keep (by decide) (fun b _ hl => hby.block b hl); replace r5 := r5.keep (by decide) (fun b _ hl => hby.block b hl); replace r6 := r6.keep (by decide) (fun b _ hl => hby.block b hl); replace r8 := r8.keep (by decide) (fun b _ hl => hby.block b hl); replace r9 := r9.keep (by decide) (fun b _ hl => hby.block b hl); replace r10 := r10.keep (by decide) (fun b _ hl => hby.block b hl); replace hY := Below.on hY hby))
  refine hK.out _ _ (⟨cell_later hY c0, cell_later hY c1, cell_later hY c2, cell_later hY c3, cell_later hY c4, cell_later hY c5, cell_later hY c6, cell_later hY c7, cell_later hY c8, cell_later hY c9, cell_later hY c10, cell_later hY c11, cell_later hY c12⟩) (fun hHeld => ?_)
  clear hK K
  (try simp only [Act.put, List.getElem_toArray, List.getElem_cons_zero, List.getElem_cons_succ, List.setIfInBounds_toArray, List.set_cons_zero, List.set_cons_succ])
  refine wpAnyH_take (i := 37) (v := ?tv67) rfl (by kernel_rfl) (by kernel_rfl) (by kernel_rfl) (fun _ _ _ h => h) (Or.inl ⟨by rfl, ?hy67⟩) (by assumption) ?rs67
  case hy67 => (intro w9 hSw; (try dsimp only at hSw); go_simp; (try with_reducible rfl))
  (try simp only [Act.put, List.getElem_toArray, List.getElem_cons_zero, List.getElem_cons_succ, List.setIfInBounds_toArray, List.set_cons_zero, List.set_cons_succ])
  refine wpAnyH_ready (rs := [38]) (by kernel_rfl) (by simp) ?_
  refine AllReadyH.cons rfl (fun K hK => ?_) AllReadyH.nil
  have hth : y.there z 0 13 := bx.there rfl
  have z0 := stW_cell (l := [.int .i64 sk, .string stb, .string snm, .slice a3 m3 d3, .slice a4 m4 d4, .slice a5 m5 d5, .slice a6 m6 d6, .string sjn, .slice a8 m8 d8, .slice a9 m9 d9, .slice a10 m10 d10, .bool sds, .slice none 0 0]) hth (j := 0) rfl
  have z1 := stW_cell (l := [.int .i64 sk, .string stb, .string snm, .slice a3 m3 d3, .slice a4 m4 d4, .slice a5 m5 d5, .slice a6 m6 d6, .string sjn, .slice a8 m8 d8, .slice a9 m9 d9, .slice a10 m10 d10, .bool sds, .slice none 0 0]) hth (j := 1) rfl
  have z2 := stW_cell (l := [.int .i64 sk, .string stb, .string snm, .slice a3 m3 d3, .slice a4 m4 d4, .slice a5 m5 d5, .slice a6 m6 d6, .string sjn, .slice a8 m8 d8, .slice a9 m9 d9, .slice a10 m10 d10, .bool sds, .slice none 0 0]) hth (j := 2) rfl
  have z3 := stW_cell (l := [.int .i64 sk, .string stb, .string snm, .slice a3 m3 d3, .slice a4 m4 d4, .slice a5 m5 d5, .slice a6 m6 d6, .string sjn, .slice a8 m8 d8, .slice a9 m9 d9, .slice a10 m10 d10, .bool sds, .slice none 0 0]) hth (j := 3) rfl
  have z4 := stW_cell (l := [.int .i64 sk, .string stb, .string snm, .slice a3 m3 d3, .slice a4 m4 d4, .slice a5 m5 d5, .slice a6 m6 d6, .string sjn, .slice a8 m8 d8, .slice a9 m9 d9, .slice a10 m10 d10, .bool sds, .slice none 0 0]) hth (j := 4) rfl
  have z5 := stW_cell (l := [.int .i64 sk, .string stb, .string snm, .slice a3 m3 d3, .slice a4 m4 d4, .slice a5 m5 d5, .slice a6 m6 d6, .string sjn, .slice a8 m8 d8, .slice a9 m9 d9, .slice a10 m10 d10, .bool sds, .slice none 0 0]) hth (j := 5) rfl
  have z6 := stW_cell (l := [.int .i64 sk, .string stb, .string snm, .slice a3 m3 d3, .slice a4 m4 d4, .slice a5 m5 d5, .slice a6 m6 d6, .string sjn, .slice a8 m8 d8, .slice a9 m9 d9, .slice a10 m10 d10, .bool sds, .slice none 0 0]) hth (j := 6) rfl
  have z7 := stW_cell (l := [.int .i64 sk, .string stb, .string snm, .slice a3 m3 d3, .slice a4 m4 d4, .slice a5 m5 d5, .slice a6 m6 d6, .string sjn, .slice a8 m8 d8, .slice a9 m9 d9, .slice a10 m10 d10, .bool sds, .slice none 0 0]) hth (j := 7) rfl
  have z8 := stW_cell (l := [.int .i64 sk, .string stb, .string snm, .slice a3 m3 d3, .slice a4 m4 d4, .slice a5 m5 d5, .slice a6 m6 d6, .string sjn, .slice a8 m8 d8, .slice a9 m9 d9, .slice a10 m10 d10, .bool sds, .slice none 0 0]) hth (j := 8) rfl
  have z9 := stW_cell (l := [.int .i64 sk, .string stb, .string snm, .slice a3 m3 d3, .slice a4 m4 d4, .slice a5 m5 d5, .slice a6 m6 d6, .string sjn, .slice a8 m8 d8, .slice a9 m9 d9, .slice a10 m10 d10, .bool sds, .slice none 0 0]) hth (j := 9) rfl
  have z10 := stW_cell (l := [.int .i64 sk, .string stb, .string snm, .slice a3 m3 d3, .slice a4 m4 d4, .slice a5 m5 d5, .slice a6 m6 d6, .string sjn, .slice a8 m8 d8, .slice a9 m9 d9, .slice a10 m10 d10, .bool sds, .slice none 0 0]) hth (j := 10) rfl
  have z11 := stW_cell (l := [.int .i64 sk, .string stb, .string snm, .slice a3 m3 d3, .slice a4 m4 d4, .slice a5 m5 d5, .slice a6 m6 d6, .string sjn, .slice a8 m8 d8, .slice a9 m9 d9, .slice a10 m10 d10, .bool sds, .slice none 0 0]) hth (j := 11) rfl
  have z12 := stW_cell (l := [.int .i64 sk, .string stb, .string snm, .slice a3 m3 d3, .slice a4 m4 d4, .slice a5 m5 d5, .slice a6 m6 d6, .string sjn, .slice a8 m8 d8, .slice a9 m9 d9, .slice a10 m10 d10, .bool sds, .slice none 0 0]) hth (j := 12) rfl
  rw [if_pos (by rfl)]
  refine wp_store_mid _ _ _ rfl z 0 (List.toArray [.int .i64 sk, .string stb, .string snm, .slice a3 m3 d3, .slice a4 m4 d4, .slice a5 m5 d5, .slice a6 m6 d6, .string sjn, .slice a8 m8 d8, .slice a9 m9 d9, .slice a10 m10 d10, .bool sds, .slice none 0 0]) rfl rfl hth (by kernel_rfl) (by simp [Value.oneCell']) ?_
  show K _ (stW y z [.int .i64 sk, .string stb, .string snm, .slice a3 m3 d3, .slice a4 m4 d4, .slice a5 m5 d5, .slice a6 m6 d6, .string sjn, .slice a8 m8 d8, .slice a9 m9 d9, .slice a10 m10 d10, .bool sds, .slice none 0 0])
  refine hK.out _ _ (⟨stW_far (by omega) (cell_later hY c0), stW_far (by omega) (cell_later hY c1), stW_far (by omega) (cell_later hY c2), stW_far (by omega) (cell_later hY c3), stW_far (by omega) (cell_later hY c4), stW_far (by omega) (cell_later hY c5), stW_far (by omega) (cell_later hY c6), stW_far (by omega) (cell_later hY c7), stW_far (by omega) (cell_later hY c8), stW_far (by omega) (cell_later hY c9), stW_far (by omega) (cell_later hY c10), stW_far (by omega) (cell_later hY c11), stW_far (by omega) (cell_later hY c12)⟩) (fun hHeld => ?_)
  clear hK K hth
  (try simp only [Act.put, List.getElem_toArray, List.getElem_cons_zero, List.getElem_cons_succ, List.setIfInBounds_toArray, List.set_cons_zero, List.set_cons_succ])
  refine wpAnyH_done (by kernel_rfl) ?_ _
  ·
    have hW := Below.trans hw (hY.mono (by have := hw.size; omega))
    clear hY bx
    go_wp2
    refine bodyPost_ret (v := .agg #[.int .i64 sk, .string stb, .string snm, .slice a3 m3 d3, .slice a4 m4 d4, .slice a5 m5 d5, .slice a6 m6 d6, .string sjn, .slice a8 m8 d8, .slice a9 m9 d9, .slice a10 m10 d10, .bool sds, .slice none 0 0]) (by simp [results, Try.results40, go_sem, z0, z1, z2, z3, z4, z5, z6, z7, z8, z9, z10, z11, z12]) rfl ?_
    have q3 : RowIs eCol (fun b => w.heap.size ≤ b) (stW y z [.int .i64 sk, .string stb, .string snm, .slice a3 m3 d3, .slice a4 m4 d4, .slice a5 m5 d5, .slice a6 m6 d6, .string sjn, .slice a8 m8 d8, .slice a9 m9 d9, .slice a10 m10 d10, .bool sds, .slice none 0 0]) (.slice a3 m3 d3) mc := ((r3).keep (by decide) fun b hb _ => by have hb' : w.heap.size + 2 ≤ b := hb; have h9 := hz.out; exact stW_heap (by omega)).mono (by decide) fun b hb _ => by have hb' : w.heap.size + 2 ≤ b := hb; show w.heap.size ≤ b; omega
    have q4 : RowIs eTag (fun b => w.heap.size ≤ b) (stW y z [.int .i64 sk, .string stb, .string snm, .slice a3 m3 d3, .slice a4 m4 d4, .slice a5 m5 d5, .slice a6 m6 d6, .string sjn, .slice a8 m8 d8, .slice a9 m9 d9, .slice a10 m10 d10, .bool sds, .slice none 0 0]) (.slice a4 m4 d4) mg := ((r4).keep (by decide) fun b hb _ => by have hb' : w.heap.size + 2 ≤ b := hb; have h9 := hz.out; exact stW_heap (by omega)).mono (by decide) fun b hb _ => by have hb' : w.heap.size + 2 ≤ b := hb; show w.heap.size ≤ b; omega
    have q5 : RowIs eExpr (fun b => w.heap.size ≤ b) (stW y z [.int .i64 sk, .string stb, .string snm, .slice a3 m3 d3, .slice a4 m4 d4, .slice a5 m5 d5, .slice a6 m6 d6, .string sjn, .slice a8 m8 d8, .slice a9 m9 d9, .slice a10 m10 d10, .bool sds, .slice none 0 0]) (.slice a5 m5 d5) mv := ((r5).keep (by decide) fun b hb _ => by have hb' : w.heap.size + 2 ≤ b := hb; have h9 := hz.out; exact stW_heap (by omega)).mono (by decide) fun b hb _ => by have hb' : w.heap.size + 2 ≤ b := hb; show w.heap.size ≤ b; omega
    have q6 : RowIs eItem (fun b => w.heap.size ≤ b) (stW y z [.int .i64 sk, .string stb, .string snm, .slice a3 m3 d3, .slice a4 m4 d4, .slice a5 m5 d5, .slice a6 m6 d6, .string sjn, .slice a8 m8 d8, .slice a9 m9 d9, .slice a10 m10 d10, .bool sds, .slice none 0 0]) (.slice a6 m6 d6) mi := ((r6).keep (by decide) fun b hb _ => by have hb' : w.heap.size + 2 ≤ b := hb; have h9 := hz.out; exact stW_heap (by omega)).mono (by decide) fun b hb _ => by have hb' : w.heap.size + 2 ≤ b := hb; show w.heap.size ≤ b; omega
    have q8 : RowIs eExpr (fun b => w.heap.size ≤ b) (stW y z [.int .i64 sk, .string stb, .string snm, .slice a3 m3 d3, .slice a4 m4 d4, .slice a5 m5 d5, .slice a6 m6 d6, .string sjn, .slice a8 m8 d8, .slice a9 m9 d9, .slice a10 m10 d10, .bool sds, .slice none 0 0]) (.slice a8 m8 d8) mo := ((r8).keep (by decide) fun b hb _ => by have hb' : w.heap.size + 2 ≤ b := hb; have h9 := hz.out; exact stW_heap (by omega)).mono (by decide) fun b hb _ => by have hb' : w.heap.size + 2 ≤ b := hb; show w.heap.size ≤ b; omega
    have q9 : RowIs eExpr (fun b => w.heap.size ≤ b) (stW y z [.int .i64 sk, .string stb, .string snm, .slice a3 m3 d3, .slice a4 m4 d4, .slice a5 m5 d5, .slice a6 m6 d6, .string sjn, .slice a8 m8 d8, .slice a9 m9 d9, .slice a10 m10 d10, .bool sds, .slice none 0 0]) (.slice a9 m9 d9) mw := ((r9).keep (by decide) fun b hb _ => by have hb' : w.heap.size + 2 ≤ b := hb; have h9 := hz.out; exact stW_heap (by omega)).mono (by decide) fun b hb _ => by have hb' : w.heap.size + 2 ≤ b := hb; show w.heap.size ≤ b; omega
    have q10 : RowIs eExpr (fun b => w.heap.size ≤ b) (stW y z [.int .i64 sk, .string stb, .string snm, .slice a3 m3 d3, .slice a4 m4 d4, .slice a5 m5 d5, .slice a6 m6 d6, .string sjn, .slice a8 m8 d8, .slice a9 m9 d9, .slice a10 m10 d10, .bool sds, .slice none 0 0]) (.slice a10 m10 d10) md := ((r10).keep (by decide) fun b hb _ => by have hb' : w.heap.size + 2 ≤ b := hb; have h9 := hz.out; exact stW_heap (by omega)).mono (by decide) fun b hb _ => by have hb' : w.heap.size + 2 ≤ b := hb; show w.heap.size ≤ b; omega
    exact ⟨⟨sk, stb, snm, (a3, m3, d3), (a4, m4, d4), (a5, m5, d5), (a6, m6, d6), sjn, (a8, m8, d8), (a9, m9, d9), (a10, m10, d10), sds, (none, 0, 0)⟩, rfl, ⟨rfl, rfl, rfl, q3, q4, q5, q6, rfl, q8, q9, q10, rfl⟩, rfl, stW_below hW (by omega)⟩

end Go.Proofs.Ytnboooaockgoiab
