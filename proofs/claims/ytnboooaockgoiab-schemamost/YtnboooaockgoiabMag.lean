import Derived.Test.YtnboooaockgoiabMaf
/- What a table may be. -/
namespace Go.Proofs.Ytnboooaockgoiab
open Go.RowKit
set_option linter.unusedVariables false
set_option linter.unusedSimpArgs false

theorem colsE_step {S : List Tbl} {cols : List Co} {k : Nat} (hk : k < cols.length) : colsE S (cols.take k) (cols.drop k) = if mayColP S (cols.take k) cols[k] = 0 then colsE S (cols.take (k + 1)) (cols.drop (k + 1)) else mayColP S (cols.take k) cols[k] := by
  rw [List.drop_eq_getElem_cons hk, colsE, List.take_succ_eq_append_getElem hk]
theorem RowIs.upto {Q : Nat → Prop} {w : World} {a : Option Addr} {n c : Nat} {l : List Co} (h : RowIs eCol Q w (.slice a n c) l) {k : Nat} (hk : k ≤ n) : RowIs eCol Q w (.slice a k c) (l.take k) := by
  obtain ⟨_, _, _, e, hl, hnc, hm, hx⟩ := h
  cases e
  refine ⟨_, _, _, rfl, by rw [List.length_take]; omega, by omega, hm, fun hp => ?_⟩
  obtain ⟨b, o, rfl, hq, hi⟩ := hx (by omega)
  refine ⟨b, o, rfl, hq, fun i hlt => ?_⟩
  rw [List.length_take] at hlt
  obtain ⟨cs, h1, h2, h3⟩ := hi i (by omega)
  refine ⟨cs, ?_, h2, h3⟩
  rw [List.getElem_take]
  exact h1
set_option maxRecDepth 100000 in
set_option maxHeartbeats 4000000 in
theorem mayTable_any {S : List Tbl} {cols : List Co} (hS5 : S.length ≤ 500) (hC5 : cols.length ≤ 500) {Q : Nat → Prop} {w : World} {ta : Option Addr} {tn tc : Nat} (hS : RowIs eTbl Q w (.slice ta tn tc) S) (vb : Option Addr) (vm vd : Nat) (sk : Int) (stb snm : ByteArray) {co1 : Option Addr} {co2 co3 : Nat} (ta1 : Option Addr) (ta2 ta3 : Nat) (va1 : Option Addr) (va2 va3 : Nat) (it1 : Option Addr) (it2 it3 : Nat) (sjn : ByteArray) (on1 : Option Addr) (on2 on3 : Nat) (wh1 : Option Addr) (wh2 wh3 : Nat) (od1 : Option Addr) (od2 od3 : Nat) (sds : Bool) (in1 : Option Addr) (in2 in3 : Nat) (hC : RowIs eCol Q w (.slice co1 co2 co3) cols) :
    Calls Try.prog 18 #[.agg #[.slice ta tn tc, .slice vb vm vd], .agg #[.int .i64 sk, .string stb, .string snm, .slice co1 co2 co3, .slice ta1 ta2 ta3, .slice va1 va2 va3, .slice it1 it2 it3, .string sjn, .slice on1 on2 on3, .slice wh1 wh2 wh3, .slice od1 od2 od3, .bool sds, .slice in1 in2 in3]] w fun e w' => e = .returned (.int .i64 (mayTblP S snm cols)) ∧ Below w.heap.size w w' := by
  have H1 : Hid (∀ w, _) := hid fun w => tables_any ta tn tc vb vm vd w
  have H2 : Hid (∀ w', Below w.heap.size w w' → _) := hid fun w' hb => hasTbl_any hS5 name_tbl snm (C := 28) (hS.keep (by decide) fun b _ hl => hb.block b hl)
  have HCr : Hid (∀ w', Below w.heap.size w w' → RowIs eCol Q w' (.slice co1 co2 co3) cols) := hid fun w' hb => hC.keep (by decide) fun b _ hl => hb.block b hl
  have hcl : cols.length = co2 := by obtain ⟨_, _, _, e, hn, _⟩ := id hC; cases e; exact hn
  have hsl0 : S.length = tn := by obtain ⟨_, _, _, e, hn, _⟩ := id hS; cases e; exact hn
  have hco : co2 ≤ co3 ∧ co3 ≤ 9223372036854775807 := by obtain ⟨_, _, _, e, hn, h1, h2, _⟩ := id hC; cases e; exact ⟨h1, h2⟩
  have H4 : Hid (∀ w', Below w.heap.size w w' → ∀ k (hk : k < cols.length), Calls Try.prog 38 #[.agg #[.slice ta tn tc, .slice vb vm vd], .slice co1 k co3, .agg #[.string cols[k].1, .int .i64 cols[k].2.1, .string cols[k].2.2]] w' fun e w'' => e = .returned (.int .i64 (mayColP S (cols.take k) cols[k])) ∧ Below w'.heap.size w' w'') := hid fun w' hb k hk => mayColumn_any (c := cols[k]) hS5 (by rw [List.length_take]; omega) (hS.keep (by decide) fun b _ hl => hb.block b hl) ((HCr.out w' hb).upto (by omega)) vb vm vd
  clear hS hC
  have hw : Below w.heap.size w ((w.alloc (.cells #[.slice ta tn tc, .slice vb vm vd] 26)).alloc (.cells #[.int .i64 sk, .string stb, .string snm, .slice co1 co2 co3, .slice ta1 ta2 ta3, .slice va1 va2 va3, .slice it1 it2 it3, .string sjn, .slice on1 on2 on3, .slice wh1 wh2 wh3, .slice od1 od2 od3, .bool sds, .slice in1 in2 in3] 34)) := bal (bal (Below.refl _ _) _) _
  have s0 := cell_later (bal (Below.refl _ _) (.cells #[.int .i64 sk, .string stb, .string snm, .slice co1 co2 co3, .slice ta1 ta2 ta3, .slice va1 va2 va3, .slice it1 it2 it3, .string sjn, .slice on1 on2 on3, .slice wh1 wh2 wh3, .slice od1 od2 od3, .bool sds, .slice in1 in2 in3] 34)) (cell_new w #[.slice ta tn tc, .slice vb vm vd] 26 (0, 0) 0)
  have s1 := cell_later (bal (Below.refl _ _) (.cells #[.int .i64 sk, .string stb, .string snm, .slice co1 co2 co3, .slice ta1 ta2 ta3, .slice va1 va2 va3, .slice it1 it2 it3, .string sjn, .slice on1 on2 on3, .slice wh1 wh2 wh3, .slice od1 od2 od3, .bool sds, .slice in1 in2 in3] 34)) (cell_new w #[.slice ta tn tc, .slice vb vm vd] 26 (0, 0) 1)
  have c2 := (cell_new (w.alloc (.cells #[.slice ta tn tc, .slice vb vm vd] 26)) #[.int .i64 sk, .string stb, .string snm, .slice co1 co2 co3, .slice ta1 ta2 ta3, .slice va1 va2 va3, .slice it1 it2 it3, .string sjn, .slice on1 on2 on3, .slice wh1 wh2 wh3, .slice od1 od2 od3, .bool sds, .slice in1 in2 in3] 34 (0, 0) 2)
  have c3 := (cell_new (w.alloc (.cells #[.slice ta tn tc, .slice vb vm vd] 26)) #[.int .i64 sk, .string stb, .string snm, .slice co1 co2 co3, .slice ta1 ta2 ta3, .slice va1 va2 va3, .slice it1 it2 it3, .string sjn, .slice on1 on2 on3, .slice wh1 wh2 wh3, .slice od1 od2 od3, .bool sds, .slice in1 in2 in3] 34 (0, 0) 3)
  rw [World.size_alloc] at c2 c3
  simp only [List.getElem?_toArray, List.getElem?_cons_zero, List.getElem?_cons_succ] at s0 s1 c2 c3
  obtain ⟨G, hG⟩ : ∃ G, mayTblP S snm cols = G := ⟨_, rfl⟩
  rw [hG]
  have HG : Hid _ := hid hG
  have Hcl : Hid _ := hid hcl
  have Hsl : Hid _ := hid hsl0
  have hc5 : co2 ≤ 500 := by omega
  have ht5 : tn ≤ 500 := by omega
  clear hG hcl hsl0
  go_enter Try.func18, Try.ntmps18
  go_upto_region 1 with fail
  generalize (w.alloc (.cells #[.slice ta tn tc, .slice vb vm vd] 26)).alloc (.cells #[.int .i64 sk, .string stb, .string snm, .slice co1 co2 co3, .slice ta1 ta2 ta3, .slice va1 va2 va3, .slice it1 it2 it3, .string sjn, .slice on1 on2 on3, .slice wh1 wh2 wh3, .slice od1 od2 od3, .bool sds, .slice in1 in2 in3] 34) = U at *
  have hY : Below U.heap.size U U.drew := (Below.refl _ _).drew
  refine wp_region_held_drew (S := fun w' => w'.cell? ⟨w.heap.size, 0, none⟩ = some (.slice ta tn tc) ∧ w'.cell? ⟨w.heap.size, 1, none⟩ = some (.slice vb vm vd) ∧ w'.cell? ⟨w.heap.size + 1, 2, none⟩ = some (.string snm) ∧ w'.cell? ⟨w.heap.size + 1, 3, none⟩ = some (.slice co1 co2 co3)) (by kernel_rfl) (⟨cell_later hY s0, cell_later hY s1, cell_later hY c2, cell_later hY c3⟩) (fun hHeld => ?_)
  refine wpAnyH_take (i := 0) (v := ?tv36) rfl (by kernel_rfl) (by kernel_rfl) (by kernel_rfl) (fun _ _ _ h => h) (Or.inl ⟨by rfl, ?hy36⟩) (by assumption) ?rs36
  case hy36 => (intro w9 hSw; (try dsimp only at hSw); go_simp; (try with_reducible rfl))
  (try simp only [Act.put, List.getElem_toArray, List.getElem_cons_zero, List.getElem_cons_succ, List.setIfInBounds_toArray, List.set_cons_zero, List.set_cons_succ])
  refine wpAnyH_take (i := 2) (v := ?tv37) rfl (by kernel_rfl) (by kernel_rfl) (by kernel_rfl) (fun _ _ _ h => h) (Or.inl ⟨by rfl, ?hy37⟩) (by assumption) ?rs37
  case hy37 => (intro w9 hSw; (try dsimp only at hSw); go_simp; (try with_reducible rfl))
  (try simp only [Act.put, List.getElem_toArray, List.getElem_cons_zero, List.getElem_cons_succ, List.setIfInBounds_toArray, List.set_cons_zero, List.set_cons_succ])
  refine wpAnyH_take (i := 3) (v := ?tv38) rfl (by kernel_rfl) (by kernel_rfl) (by kernel_rfl) (fun _ _ _ h => h) (Or.inl ⟨by rfl, ?hy38⟩) (by assumption) ?rs38
  case hy38 => (intro w9 hSw; (try dsimp only at hSw); go_simp; (try with_reducible rfl))
  (try simp only [Act.put, List.getElem_toArray, List.getElem_cons_zero, List.getElem_cons_succ, List.setIfInBounds_toArray, List.set_cons_zero, List.set_cons_succ])
  refine wpAnyH_ready (rs := [1]) (by kernel_rfl) (by simp) ?_
  refine AllReadyH.cons rfl (fun K hK => ?_) AllReadyH.nil
  go_simp
  go_wp2_with (first | (go_at_call 13; (refine Calls.mono (H1.out _) ?_); rintro e y ⟨rfl, hby⟩; replace hY := Below.on hY hby))
  refine hK.out _ _ (⟨cell_later hY s0, cell_later hY s1, cell_later hY c2, cell_later hY c3⟩) (fun hHeld => ?_)
  clear hK K
  (try simp only [Act.put, List.getElem_toArray, List.getElem_cons_zero, List.getElem_cons_succ, List.setIfInBounds_toArray, List.set_cons_zero, List.set_cons_succ])
  refine wpAnyH_ready (rs := [4]) (by kernel_rfl) (by simp) ?_
  refine AllReadyH.cons rfl (fun K hK => ?_) AllReadyH.nil
  go_simp
  go_wp2_with (first | (go_at_call 37; (refine Calls.mono (H2.out _ (Below.trans hw (hY.mono hw.size))) ?_); rintro e y ⟨rfl, hby⟩; replace hY := Below.on hY hby))
  refine hK.out _ _ (⟨cell_later hY s0, cell_later hY s1, cell_later hY c2, cell_later hY c3⟩) (fun hHeld => ?_)
  clear hK K
  (try simp only [Act.put, List.getElem_toArray, List.getElem_cons_zero, List.getElem_cons_succ, List.setIfInBounds_toArray, List.set_cons_zero, List.set_cons_succ])
  refine wpAnyH_ready (rs := [5]) (by kernel_rfl) (by simp) ?_
  refine AllReadyH.cons rfl (fun K hK => ?_) AllReadyH.nil
  go_simp
  refine hK.out _ _ (⟨cell_later hY s0, cell_later hY s1, cell_later hY c2, cell_later hY c3⟩) (fun hHeld => ?_)
  clear hK K
  (try simp only [Act.put, List.getElem_toArray, List.getElem_cons_zero, List.getElem_cons_succ, List.setIfInBounds_toArray, List.set_cons_zero, List.set_cons_succ])
  refine wpAnyH_done (by kernel_rfl) ?_ _
  have hW := Below.trans hw (hY.mono hw.size)
  replace s0 := cell_later hY s0
  replace s1 := cell_later hY s1
  replace c2 := cell_later hY c2
  replace c3 := cell_later hY c3
  clear hHeld hY H1 H2
  cases h1 : S.any (fun x => eqS x.name snm) with
  | true =>
    have hg : G = 12 := by rw [← HG.out, mayTblP, if_pos h1]
    subst hg
    clear HG h1 H4
    go_wp2
    go_ret
    exact ⟨rfl, hW⟩
  | false =>
  by_cases h8 : 8 ≤ S.length
  · have hg : G = 25 := by rw [← HG.out, mayTblP, if_neg (by rw [h1]; simp), if_pos h8]
    subst hg
    have ht8 : 8 ≤ tn := by have := Hsl.out; omega
    have ht9 : (8 : Int) ≤ (tn : Int) := by omega
    clear HG h1 H4 h8
    go_wp2
    go_ret
    exact ⟨rfl, hW⟩
  have ht8 : ¬ (8 : Int) ≤ (tn : Int) := by have := Hsl.out; omega
  by_cases h6 : cols.length = 0 ∨ 6 < cols.length
  · have hg : G = 7 := by rw [← HG.out, mayTblP, if_neg (by rw [h1]; simp), if_neg h8, if_pos h6]
    subst hg
    rcases h6 with h6 | h6
    · obtain rfl : co2 = 0 := by have := Hcl.out; omega
      clear HG h1 H4 h8 h6
      go_wp2
      go_ret
      exact ⟨rfl, hW⟩
    · have hg6 : (6 : Int) < (co2 : Int) := by have := Hcl.out; omega
      have hg7 : ((co2 : Int) == 0) = false := by simp; omega
      clear HG h1 H4 h8 h6
      go_wp2
      go_ret
      exact ⟨rfl, hW⟩
  have HG2 : Hid (G = colsE S (cols.take 0) (cols.drop 0)) := hid (by rw [← HG.out, mayTblP, if_neg (by rw [h1]; simp), if_neg h8, if_neg h6]; rfl)
  have hg6 : ¬ (6 : Int) < (co2 : Int) := by have := Hcl.out; omega
  have hg7 : ((co2 : Int) == 0) = false := by have := Hcl.out; simp; omega
  clear HG h1 h8 h6
  go_wp2
  go_loopw [33] (fun v wr => ∃ k : Nat, k ≤ co2 ∧ v = .int .i64 k ∧ Below y.heap.size y wr ∧ Hid (G = colsE S (cols.take k) (cols.drop k))) (fun i _ => co2 - (intOf i).toNat)
  case atStart => exact ⟨0, Nat.zero_le _, rfl, Below.refl _ _, HG2⟩
  case round =>
    obtain ⟨k, hk, rfl, hB, HE⟩ := hrel
    have hWr := Below.trans hW (hB.mono hW.size)
    by_cases hlt2 : k < co2
    · have hlt : k < cols.length := by have := Hcl.out; omega
      obtain ⟨_, _, _, e', hl, _, _, hx⟩ := HCr.out wr hWr
      cases e'
      obtain ⟨b, o, rfl, hq, hi⟩ := hx (by omega)
      obtain ⟨cs, hEx, h2, h3⟩ := hi k hlt
      obtain ⟨x, hxl⟩ : ∃ x, cols[k] = x := ⟨_, rfl⟩
      rw [hxl] at hEx
      obtain rfl : cs = [.string x.1, .int .i64 x.2.1, .string x.2.2] := hEx
      have e0 : wr.cell? ⟨b, o + k * 3, none⟩ = some (.string x.1) := h3 0 (show 0 < 3 by decide)
      have e1 : wr.cell? ⟨b, o + k * 3 + 1, none⟩ = some (.int .i64 x.2.1) := h3 1 (show 1 < 3 by decide)
      have e2 : wr.cell? ⟨b, o + k * 3 + 2, none⟩ = some (.string x.2.2) := h3 2 (show 2 < 3 by decide)
      have HS := colsE_step (S := S) hlt
      rw [← HE.out, hxl] at HS
      have H4k := H4.out
      replace H4k := fun w' (hb : Below w.heap.size w w') => H4k w' hb k hlt
      simp only [hxl] at H4k
      have hV := bal (Below.refl _ wr) (.cells #[.string x.1, .int .i64 x.2.1, .string x.2.2] 36)
      have hWV := Below.trans hWr (hV.mono hWr.size)
      have x0 := cell_new wr #[.string x.1, .int .i64 x.2.1, .string x.2.2] 36 (0, 0) 0
      have x1 := cell_new wr #[.string x.1, .int .i64 x.2.1, .string x.2.2] 36 (0, 0) 1
      have x2 := cell_new wr #[.string x.1, .int .i64 x.2.1, .string x.2.2] 36 (0, 0) 2
      simp only [List.getElem?_toArray, List.getElem?_cons_zero, List.getElem?_cons_succ] at x0 x1 x2
      replace s0 := cell_later hV (cell_later hB s0)
      replace s1 := cell_later hV (cell_later hB s1)
      replace c2 := cell_later hV (cell_later hB c2)
      replace c3 := cell_later hV (cell_later hB c3)
      have hkm : (k : Int) < (co2 : Int) := by omega
      have hk5 : k ≤ 500 := by omega
      have hkc : k ≤ co3 := by omega
      have hkc' : (k : Int) ≤ (co3 : Int) := by omega
      have hsl : ∀ w' : World, (Instr.slice 28 (.slice (some ⟨b, o, none⟩) co2 co3) none (some (.int .i64 (k : Int))) none).run Try.prog w' = .ok (.slice (some ⟨b, o, none⟩) k co3) w' := fun w' => by go_simp
      have hBV : Below y.heap.size y (wr.alloc (.cells #[.string x.1, .int .i64 x.2.1, .string x.2.2] 36)) := Below.on hB hV
      replace H4k : Hid _ := hid H4k
      have HEk : Hid _ := hid HS
      clear h2 h3 hi hx hxl H4 hl HS HE HG2 hV
      go_upto_region 10 with fail
      generalize wr.alloc (.cells #[.string x.1, .int .i64 x.2.1, .string x.2.2] 36) = V at *
      have hY : Below V.heap.size V V.drew := (Below.refl _ _).drew
      refine wp_region_held_drew (S := fun w' => w'.cell? ⟨w.heap.size, 0, none⟩ = some (.slice ta tn tc) ∧ w'.cell? ⟨w.heap.size, 1, none⟩ = some (.slice vb vm vd) ∧ w'.cell? ⟨w.heap.size + 1, 2, none⟩ = some (.string snm) ∧ w'.cell? ⟨w.heap.size + 1, 3, none⟩ = some (.slice (some ⟨b, o, none⟩) co2 co3) ∧ w'.cell? ⟨wr.heap.size, 0, none⟩ = some (.string x.1) ∧ w'.cell? ⟨wr.heap.size, 1, none⟩ = some (.int .i64 x.2.1) ∧ w'.cell? ⟨wr.heap.size, 2, none⟩ = some (.string x.2.2)) (by kernel_rfl) (⟨cell_later hY s0, cell_later hY s1, cell_later hY c2, cell_later hY c3, cell_later hY x0, cell_later hY x1, cell_later hY x2⟩) (fun hHeld => ?_)
      refine wpAnyH_take (i := 0) (v := ?tv39) rfl (by kernel_rfl) (by kernel_rfl) (by kernel_rfl) (fun _ _ _ h => h) (Or.inl ⟨by rfl, ?hy39⟩) (by assumption) ?rs39
      case hy39 => (intro w9 hSw; (try dsimp only at hSw); go_simp; (try with_reducible rfl))
      (try simp only [Act.put, List.getElem_toArray, List.getElem_cons_zero, List.getElem_cons_succ, List.setIfInBounds_toArray, List.set_cons_zero, List.set_cons_succ])
      refine wpAnyH_take (i := 1) (v := ?tv40) rfl (by kernel_rfl) (by kernel_rfl) (by kernel_rfl) (fun _ _ _ h => h) (Or.inl ⟨by rfl, ?hy40⟩) (by assumption) ?rs40
      case hy40 => (intro w9 hSw; (try dsimp only at hSw); go_simp; (try with_reducible rfl))
      (try simp only [Act.put, List.getElem_toArray, List.getElem_cons_zero, List.getElem_cons_succ, List.setIfInBounds_toArray, List.set_cons_zero, List.set_cons_succ])
      refine wpAnyH_take (i := 2) (v := ?tv41) rfl (by kernel_rfl) (by kernel_rfl) (by kernel_rfl) (fun _ _ _ h => h) (Or.inl ⟨by rfl, ?hy41⟩) (by assumption) ?rs41
      case hy41 => (intro w9 hSw; (try dsimp only at hSw); go_simp; (try with_reducible rfl))
      (try simp only [Act.put, List.getElem_toArray, List.getElem_cons_zero, List.getElem_cons_succ, List.setIfInBounds_toArray, List.set_cons_zero, List.set_cons_succ])
      refine wpAnyH_take (i := 3) (v := ?tv42) rfl (by kernel_rfl) (by kernel_rfl) (by kernel_rfl) (fun _ _ _ h => h) (Or.inl ⟨by rfl, ?hy42⟩) (by assumption) ?rs42
      case hy42 => (intro w9 hSw; (try dsimp only at hSw); go_simp; (try with_reducible rfl))
      (try simp only [Act.put, List.getElem_toArray, List.getElem_cons_zero, List.getElem_cons_succ, List.setIfInBounds_toArray, List.set_cons_zero, List.set_cons_succ])
      refine wpAnyH_take (i := 4) (v := ?tv43) rfl (by kernel_rfl) (by kernel_rfl) (by kernel_rfl) (fun _ _ _ h => h) (Or.inl ⟨by rfl, ?hy43⟩) (by assumption) ?rs43
      case hy43 => (intro w9 hSw; (try dsimp only at hSw); go_simp; (try with_reducible rfl))
      (try simp only [Act.put, List.getElem_toArray, List.getElem_cons_zero, List.getElem_cons_succ, List.setIfInBounds_toArray, List.set_cons_zero, List.set_cons_succ])
      refine wpAnyH_take (i := 5) (v := ?tv44) rfl (by kernel_rfl) (by kernel_rfl) (by kernel_rfl) (fun _ _ _ h => h) (Or.inl ⟨by rfl, ?hy44⟩) (by assumption) ?rs44
      case hy44 => (intro w9 hSw; (try dsimp only at hSw); go_simp; (try with_reducible rfl))
      (try simp only [Act.put, List.getElem_toArray, List.getElem_cons_zero, List.getElem_cons_succ, List.setIfInBounds_toArray, List.set_cons_zero, List.set_cons_succ])
      refine wpAnyH_ready (rs := [6]) (by kernel_rfl) (by simp) ?_
      refine AllReadyH.cons rfl (fun K hK => ?_) AllReadyH.nil
      go_simp
      go_wp2_with (first | (go_at_call 38; (refine Calls.mono (H4k.out _ (Below.trans hWV (hY.mono hWV.size))) ?_); rintro e y9 ⟨rfl, hby⟩; replace hY := Below.on hY hby))
      refine hK.out _ _ (⟨cell_later hY s0, cell_later hY s1, cell_later hY c2, cell_later hY c3, cell_later hY x0, cell_later hY x1, cell_later hY x2⟩) (fun hHeld => ?_)
      clear hK K
      (try simp only [Act.put, List.getElem_toArray, List.getElem_cons_zero, List.getElem_cons_succ, List.setIfInBounds_toArray, List.set_cons_zero, List.set_cons_succ])
      refine wpAnyH_ready (rs := [7]) (by kernel_rfl) (by simp) ?_
      refine AllReadyH.cons rfl (fun K hK => ?_) AllReadyH.nil
      go_simp
      refine hK.out _ _ (⟨cell_later hY s0, cell_later hY s1, cell_later hY c2, cell_later hY c3, cell_later hY x0, cell_later hY x1, cell_later hY x2⟩) (fun hHeld => ?_)
      clear hK K
      (try simp only [Act.put, List.getElem_toArray, List.getElem_cons_zero, List.getElem_cons_succ, List.setIfInBounds_toArray, List.set_cons_zero, List.set_cons_succ])
      refine wpAnyH_done (by kernel_rfl) ?_ _
      have hB9 := Below.trans hBV (hY.mono hBV.size)
      have hW9 := Below.trans hWV (hY.mono hWV.size)
      obtain ⟨E, hE⟩ : ∃ E, mayColP S (cols.take k) x = E := ⟨_, rfl⟩
      have HEk2 := HEk.out
      rw [hE] at HEk2
      simp only [hE]
      by_cases hE0 : E = 0
      · subst hE0
        have HN : Hid (G = colsE S (cols.take (k + 1)) (cols.drop (k + 1))) := hid (by rw [HEk2, if_pos rfl])
        clear HEk2 HEk hHeld hY hE H4k e0 e1 e2
        go_wp2
        go_roundw
        case rel => exact ⟨k + 1, hlt2, by go_num, hB9, HN⟩
        case measure => simp only [intOf]; omega
      · have hg : G = E := by rw [HEk2, if_neg hE0]
        have hEb : (E == 0) = false := by simpa using hE0
        subst hg
        clear HEk2 HEk hHeld hY hE H4k e0 e1 e2
        go_wp2
        go_ret
        exact ⟨rfl, hW9⟩
    · obtain rfl : k = co2 := by omega
      have hg : G = 0 := by rw [HE.out, List.drop_of_length_le (by rw [Hcl.out]; exact Nat.le_refl _), colsE]
      subst hg
      clear HE HG2
      go_wp2
      go_ret
      exact ⟨rfl, hWr⟩

end Go.Proofs.Ytnboooaockgoiab
/- One more table. -/
namespace Go.Proofs.Ytnboooaockgoiab
open Go.RowKit
set_option linter.unusedVariables false
set_option linter.unusedSimpArgs false

set_option maxRecDepth 100000 in
set_option maxHeartbeats 4000000 in
theorem withTbl_any {l : List Tbl} {x : Tbl} (hlen : l.length ≤ 400) (hcp : ∀ t ∈ l, Cp eTbl 28 t) (hx : Cp eTbl 28 x) {Q : Nat → Prop} {w : World} {ao : Option Addr} {n c : Nat} (h : RowIs eTbl Q w (.slice ao n c) l) {N : Nat} {cs : List Value} (he : (eTbl).E Q w x cs) :
    Calls Try.prog 19 #[.agg #[.slice ao n c, .func (.func N) #[] #[], .func (.func 28) #[] #[]], .agg cs.toArray] w (TeR eTbl w (l ++ [x])) := by
  have HR : Hid (∀ w', Below w.heap.size w w' → RowIs eTbl Q w' (.slice ao n c) l) := hid fun w' hb => h.keep (by decide) fun b _ hl => hb.block b hl
  have HE0 : Hid (∀ w', Below w.heap.size w w' → (eTbl).E Q w' x cs) := hid fun w' hb => (eTbl).keep (fun b _ hl => hb.block b hl) he
  obtain ⟨ea, en, ec, ea', en', ec', rfl, er1, er2⟩ := he
  skip
  skip
  skip
  clear h er1 er2
  go_enter Try.func19, Try.ntmps19
  go_upto_region 1 with fail
  generalize hU : (w.alloc (.cells #[.slice ao n c, .func (.func N) #[] #[], .func (.func 28) #[] #[]] 54)).alloc (.cells #[.string x.name, .slice ea en ec, .slice ea' en' ec'] 44) = U
  have b0 : Bk U w.heap.size (.cells #[.slice ao n c, .func (.func N) #[] #[], .func (.func 28) #[] #[]] 54) := hU ▸ (Bk.new w _).later (bal (Below.refl _ _) _)
  have b1 : Bk U (w.heap.size + 1) (.cells #[.string x.name, .slice ea en ec, .slice ea' en' ec'] 44) := by
    have := Bk.new (w.alloc (.cells #[.slice ao n c, .func (.func N) #[] #[], .func (.func 28) #[] #[]] 54)) (.cells #[.string x.name, .slice ea en ec, .slice ea' en' ec'] 44)
    rw [World.size_alloc] at this
    exact hU ▸ this
  have hw : Below w.heap.size w U := hU ▸ bal (bal (Below.refl _ _) _) _
  have hwU : w.heap.size ≤ U.heap.size := hw.size
  have HC : Hid (∀ w1, Below U.heap.size U w1 → Calls Try.prog 27 #[.slice ao n c, .func (.func 28) #[] #[]] w1 (TeO eTbl 44 w1 l)) := hid fun w1 hb => copiesTbl_own hcp (by omega) (HR.out w1 (Below.trans hw (hb.mono hw.size)))
  have HX : Hid (∀ w1, Below U.heap.size U w1 → _) := hid fun w1 hb => hx Q w1 _ (HE0.out w1 (Below.trans hw (hb.mono hw.size)))
  have hY : Below U.heap.size U U.drew := (Below.refl _ _).drew
  have l0 := b0.cell 0
  have l2 := b0.cell 2
  have c0 := b1.cell 0
  have c1 := b1.cell 1
  have c2 := b1.cell 2
  simp only [List.getElem?_toArray, List.getElem?_cons_zero, List.getElem?_cons_succ] at l0 l2 c0 c1 c2
  obtain ⟨hB0, hhB⟩ : ∃ B0, U.drew.heap.size = B0 := ⟨_, rfl⟩
  clear b0 b1 hU HR HE0 hcp hx
  go_wp2
  refine wp_region_held_drew (S := fun w' => w'.cell? ⟨w.heap.size, 0, none⟩ = some (.slice ao n c) ∧ w'.cell? ⟨w.heap.size, 2, none⟩ = some (.func (.func 28) #[] #[]) ∧ w'.cell? ⟨w.heap.size + 1, 0, none⟩ = some (.string x.name) ∧ w'.cell? ⟨w.heap.size + 1, 1, none⟩ = some (.slice ea en ec) ∧ w'.cell? ⟨w.heap.size + 1, 2, none⟩ = some (.slice ea' en' ec')) (by kernel_rfl) (⟨cell_later hY l0, cell_later hY l2, cell_later hY c0, cell_later hY c1, cell_later hY c2⟩) (fun hHeld => ?_)
  refine wpAnyH_take (i := 0) (v := ?tv16) rfl (by kernel_rfl) (by kernel_rfl) (by kernel_rfl) (fun _ _ _ h => h) (Or.inl ⟨by rfl, ?hy16⟩) (by assumption) ?rs16
  case hy16 => (intro w9 hSw; (try dsimp only at hSw); go_simp; (try with_reducible rfl))
  (try simp only [Act.put, List.getElem_toArray, List.getElem_cons_zero, List.getElem_cons_succ, List.setIfInBounds_toArray, List.set_cons_zero, List.set_cons_succ])
  refine wpAnyH_take (i := 1) (v := ?tv17) rfl (by kernel_rfl) (by kernel_rfl) (by kernel_rfl) (fun _ _ _ h => h) (Or.inl ⟨by rfl, ?hy17⟩) (by assumption) ?rs17
  case hy17 => (intro w9 hSw; (try dsimp only at hSw); go_simp; (try with_reducible rfl))
  (try simp only [Act.put, List.getElem_toArray, List.getElem_cons_zero, List.getElem_cons_succ, List.setIfInBounds_toArray, List.set_cons_zero, List.set_cons_succ])
  refine wpAnyH_take (i := 2) (v := ?tv18) rfl (by kernel_rfl) (by kernel_rfl) (by kernel_rfl) (fun _ _ _ h => h) (Or.inl ⟨by rfl, ?hy18⟩) (by assumption) ?rs18
  case hy18 => (intro w9 hSw; (try dsimp only at hSw); go_simp; (try with_reducible rfl))
  (try simp only [Act.put, List.getElem_toArray, List.getElem_cons_zero, List.getElem_cons_succ, List.setIfInBounds_toArray, List.set_cons_zero, List.set_cons_succ])
  refine wpAnyH_take (i := 3) (v := ?tv19) rfl (by kernel_rfl) (by kernel_rfl) (by kernel_rfl) (fun _ _ _ h => h) (Or.inl ⟨by rfl, ?hy19⟩) (by assumption) ?rs19
  case hy19 => (intro w9 hSw; (try dsimp only at hSw); go_simp; (try with_reducible rfl))
  (try simp only [Act.put, List.getElem_toArray, List.getElem_cons_zero, List.getElem_cons_succ, List.setIfInBounds_toArray, List.set_cons_zero, List.set_cons_succ])
  refine wpAnyH_take (i := 5) (v := ?tv20) rfl (by kernel_rfl) (by kernel_rfl) (by kernel_rfl) (fun _ _ _ h => h) (Or.inl ⟨by rfl, ?hy20⟩) (by assumption) ?rs20
  case hy20 => (intro w9 hSw; (try dsimp only at hSw); go_simp; (try with_reducible rfl))
  (try simp only [Act.put, List.getElem_toArray, List.getElem_cons_zero, List.getElem_cons_succ, List.setIfInBounds_toArray, List.set_cons_zero, List.set_cons_succ])
  refine wpAnyH_take (i := 6) (v := ?tv21) rfl (by kernel_rfl) (by kernel_rfl) (by kernel_rfl) (fun _ _ _ h => h) (Or.inl ⟨by rfl, ?hy21⟩) (by assumption) ?rs21
  case hy21 => (intro w9 hSw; (try dsimp only at hSw); go_simp; (try with_reducible rfl))
  (try simp only [Act.put, List.getElem_toArray, List.getElem_cons_zero, List.getElem_cons_succ, List.setIfInBounds_toArray, List.set_cons_zero, List.set_cons_succ])
  refine wpAnyH_take (i := 7) (v := ?tv22) rfl (by kernel_rfl) (by kernel_rfl) (by kernel_rfl) (fun _ _ _ h => h) (Or.inl ⟨by rfl, ?hy22⟩) (by assumption) ?rs22
  case hy22 => (intro w9 hSw; (try dsimp only at hSw); go_simp; (try with_reducible rfl))
  (try simp only [Act.put, List.getElem_toArray, List.getElem_cons_zero, List.getElem_cons_succ, List.setIfInBounds_toArray, List.set_cons_zero, List.set_cons_succ])
  refine wpAnyH_ready (rs := [4]) (by kernel_rfl) (by simp) ?_
  refine AllReadyH.cons rfl (fun K hK => ?_) AllReadyH.nil
  go_simp
  go_wp2_with (first | ((refine Calls.mono (HC.out _ hY) ?_); rintro e y ⟨va, vm, vd, css, rfl, hO, hcl, hE, hby⟩))
  have hsY := hY.size
  have hsy := hby.size
  replace hY := Below.on hY hby
  have hblk := hO.blk
  have HE : Hid _ := hid hE
  have hcl' : css.length ≤ 500 := by omega
  have Hcl : Hid _ := hid hcl
  clear hE hcl
  refine hK.out _ _ (⟨cell_later hY l0, cell_later hY l2, cell_later hY c0, cell_later hY c1, cell_later hY c2⟩) (fun hHeld => ?_)
  clear hK K
  (try simp only [Act.put, List.getElem_toArray, List.getElem_cons_zero, List.getElem_cons_succ, List.setIfInBounds_toArray, List.set_cons_zero, List.set_cons_succ])
  refine wpAnyH_ready (rs := [8]) (by kernel_rfl) (by simp) ?_
  refine AllReadyH.cons rfl (fun K hK => ?_) AllReadyH.nil
  go_simp
  go_wp2_with (first | ((refine Calls.mono (HX.out _ hY) ?_); rintro e y2 ⟨cs', rfl, hE4, hby2⟩))
  have hO2 := hO.later hby2
  replace hY := Below.on hY hby2
  have HE2 : Hid (∀ i (h1 : i < l.length) (h2 : i < css.length), (eTbl).E (fun b => w.heap.size ≤ b ∧ some b ≠ (Value.slice va vm vd).ownBlock) y2 l[i] css[i]) := hid fun i h1 h2 => (eTbl).keep (fun b _ hl => hby2.block b hl) ((eTbl).mono (fun b hq _ => ⟨by have hq1 : _ ≤ b := hq.1; omega, hq.2⟩) (HE.out i h1 h2))
  have HEn : Hid ((eTbl).E (fun b => w.heap.size ≤ b ∧ some b ≠ (Value.slice va vm vd).ownBlock) y2 x cs') := hid ((eTbl).mono (fun b hq _ => ⟨by have hq' : y.heap.size ≤ b := hq; omega, fun hbk => by have := (hblk b hbk.symm).2; have hq' : y.heap.size ≤ b := hq; omega⟩) hE4)
  obtain ⟨fa, fn, fc, fa', fn', fc', rfl, fr1, fr2⟩ := hE4
  clear HE hO fr1 fr2
  refine hK.out _ _ (⟨cell_later hY l0, cell_later hY l2, cell_later hY c0, cell_later hY c1, cell_later hY c2⟩) (fun hHeld => ?_)
  clear hK K
  (try simp only [Act.put, List.getElem_toArray, List.getElem_cons_zero, List.getElem_cons_succ, List.setIfInBounds_toArray, List.set_cons_zero, List.set_cons_succ])
  refine wpAnyH_ready (rs := [9]) (by kernel_rfl) (by simp) ?_
  refine AllReadyH.cons rfl (fun K hK => ?_) AllReadyH.nil
  go_simp
  have hO3 := hO2.alloc (.cells #[.string x.name, .slice fa fn fc, .slice fa' fn' fc'] 44)
  have hs3 := hby2.size
  replace hY := bal hY (.cells #[.string x.name, .slice fa fn fc, .slice fa' fn' fc'] 44)
  refine hK.out _ _ (⟨cell_later hY l0, cell_later hY l2, cell_later hY c0, cell_later hY c1, cell_later hY c2⟩) (fun hHeld => ?_)
  clear hK K
  (try simp only [Act.put, List.getElem_toArray, List.getElem_cons_zero, List.getElem_cons_succ, List.setIfInBounds_toArray, List.set_cons_zero, List.set_cons_succ])
  refine wpAnyH_ready (rs := [10]) (by kernel_rfl) (by simp) ?_
  refine AllReadyH.cons rfl (fun K hK => ?_) AllReadyH.nil
  have hUs : U.heap.size ≤ (y2.alloc (.cells #[.string x.name, .slice fa fn fc, .slice fa' fn' fc'] 44)).heap.size := hY.size
  refine step_appR (B := hB0) rfl (.tmp 9) (.tmp 14) rfl Try.underlying23 Try.infoZTbl rfl (by decide) (by decide) (.slice va vm vd) css y2.heap.size [.string x.name, .slice fa fn fc, .slice fa' fn' fc'] rfl rfl (by subst hhB; exact hO3) rfl (by simp [Value.oneCell']) ?_ (by omega) (by subst hhB; rw [World.size_alloc]; omega) ?_
  · intro j hj
    have hj' : j < 3 := hj
    match j, hj' with
    | 0, _ => exact cell_new y2 _ _ _ 0
    | 1, _ => exact cell_new y2 _ _ _ 1
    | 2, _ => exact cell_new y2 _ _ _ 2
  intro v' w6 hO6 hg6 hown
  have hb6 : ∀ b, b < U.heap.size → w6.heap[b]? = U.heap[b]? := fun b hb => (hg6.block b (by omega) fun hbk => by have := (hblk b hbk.symm).1; omega).trans (hY.block b hb)
  have hY6 : Below U.heap.size U w6 := hY.trans ⟨hg6.os, hg6.tape, hg6.output, hg6.size, fun b hb => hg6.block b (by omega) fun hbk => by have := (hblk b hbk.symm).1; omega⟩
  have HN : Hid (∀ i (h1 : i < (l ++ [x]).length) (h2 : i < (css ++ [([.string x.name, .slice fa fn fc, .slice fa' fn' fc'] : List Value)]).length), (eTbl).E (fun b => w.heap.size ≤ b) w6 (l ++ [x])[i] (css ++ [([.string x.name, .slice fa fn fc, .slice fa' fn' fc'] : List Value)])[i]) := hid fun i h1 h2 => by
    have hcl := Hcl.out
    by_cases hi : i < css.length
    · rw [List.getElem_append_left hi, List.getElem_append_left (by omega)]
      exact (eTbl).mono (fun b hb _ => hb.1) ((eTbl).grow ((eTbl).keep (fun b _ hl => (bal (Below.refl _ y2) _).block b hl) (HE2.out i (by omega) hi)) hg6 (by simpa using hown))
    · rw [List.length_append, List.length_singleton] at h2
      obtain rfl : i = css.length := by omega
      rw [List.getElem_append_right (Nat.le_refl _), List.getElem_append_right (by omega)]
      have := (eTbl).mono (fun b hb _ => hb.1) ((eTbl).grow ((eTbl).keep (w' := y2.alloc (.cells #[.string x.name, .slice fa fn fc, .slice fa' fn' fc'] 44)) (fun b _ hl => (bal (Below.refl _ y2) _).block b hl) HEn.out) hg6 (by simpa using hown))
      have i0 : css.length - l.length = 0 := by omega
      have i1 : css.length - css.length = 0 := by omega
      simp only [i0, i1, List.getElem_cons_zero]
      exact this
  replace hY := hY6
  clear hY6 hg6 hown HE2 HEn hb6 hO3 hO2
  refine hK.out _ _ (⟨cell_later hY l0, cell_later hY l2, cell_later hY c0, cell_later hY c1, cell_later hY c2⟩) (fun hHeld => ?_)
  clear hK K
  (try simp only [Act.put, List.getElem_toArray, List.getElem_cons_zero, List.getElem_cons_succ, List.setIfInBounds_toArray, List.set_cons_zero, List.set_cons_succ])
  refine wpAnyH_ready (rs := [11]) (by kernel_rfl) (by simp) ?_
  refine AllReadyH.cons rfl (fun K hK => ?_) AllReadyH.nil
  go_simp
  refine hK.out _ _ (⟨cell_later hY l0, cell_later hY l2, cell_later hY c0, cell_later hY c1, cell_later hY c2⟩) (fun hHeld => ?_)
  clear hK K
  (try simp only [Act.put, List.getElem_toArray, List.getElem_cons_zero, List.getElem_cons_succ, List.setIfInBounds_toArray, List.set_cons_zero, List.set_cons_succ])
  refine wpAnyH_done (by kernel_rfl) ?_ _
  obtain ⟨a5, n5, d5, rfl⟩ := hO6.sl
  go_wp2
  go_ret
  exact ⟨_, _, _, rfl, OwnR.rowE (e := eTbl) hO6 (by rw [List.length_append, List.length_append, List.length_singleton, List.length_singleton, Hcl.out]) (fun b hb _ => by subst hhB; omega) HN.out, Below.trans hw (hY.mono hw.size)⟩

end Go.Proofs.Ytnboooaockgoiab
/- Rows of items copied. -/
namespace Go.Proofs.Ytnboooaockgoiab
open Go.RowKit
set_option linter.unusedVariables false
set_option linter.unusedSimpArgs false

theorem Try.infoZItem : (Try.prog.info? 104).map (fun i => (i.zero, i.size, i.bytes)) = some (some (.agg #[.int .i64 0, .string ⟨#[]⟩, .string ⟨#[]⟩]), 3, 40) := by kernel_rfl
set_option maxRecDepth 100000 in
set_option maxHeartbeats 4000000 in
theorem copiesItem_own {l : List It} (hcp : ∀ x ∈ l, Cp eItem 58 x) (hlen : l.length ≤ 500) {Q : Nat → Prop} {w : World} {ao : Option Addr} {n c : Nat} (h : RowIs eItem Q w (.slice ao n c) l) :
    Calls Try.prog 57 #[.slice ao n c, .func (.func 58) #[] #[]] w (TeO eItem 104 w l) := by
  have HC : Hid (∀ x ∈ l, Cp eItem 58 x) := hid hcp
  have HR : Hid (∀ w', Below w.heap.size w w' → RowIs eItem Q w' (.slice ao n c) l) := hid fun w' hb => h.keep (by decide) fun b _ hl => hb.block b hl
  obtain ⟨ao', n', c', e', hn, hnc, hc, _⟩ := h
  cases e'
  subst hn
  clear hcp
  go_enter Try.func57, Try.ntmps57
  go_wp2
  go_loopw [5, 10] (fun v5 v10 wr => ∃ (k : Nat) (css : List (List Value)), k ≤ l.length ∧ v10 = .int .i64 k ∧ Below w.heap.size w wr ∧ OwnR 104 3 w.heap.size wr v5 css ∧ css.length = k ∧ Hid (∀ i (h1 : i < l.length) (h2 : i < css.length), (eItem).E (fun b => w.heap.size ≤ b ∧ some b ≠ v5.ownBlock) wr l[i] css[i])) (fun _ i _ => l.length - (intOf i).toNat)
  case atStart => exact ⟨0, [], Nat.zero_le _, rfl, Below.refl _ _, OwnR.nil _ _ _ _, rfl, hid fun i h1 h2 => by simp at h2⟩
  case round =>
    obtain ⟨k, css, hk, rfl, hB, ho, hcl, HE⟩ := hrel
    by_cases hlt : k < l.length
    · have hcl' : css.length ≤ 500 := by omega
      obtain ⟨_, _, _, e', _, _, _, hx⟩ := HR.out wr hB
      cases e'
      obtain ⟨b, o, rfl, hq, hi⟩ := hx (by omega)
      obtain ⟨cs, hEx, h2, h3⟩ := hi k hlt
      obtain ⟨x, hxl, hxm⟩ : ∃ x, l[k] = x ∧ x ∈ l := ⟨_, rfl, List.getElem_mem hlt⟩
      rw [hxl] at hEx
      have hEx' := hEx
      obtain rfl := hEx'
      have c0 : wr.cell? ⟨b, o + k * 3, none⟩ = some (.int .i64 x.1) := h3 0 (show 0 < 3 by decide)
      have c1 : wr.cell? ⟨b, o + k * 3 + 1, none⟩ = some (.string x.2.1) := h3 1 (show 1 < 3 by decide)
      have c2 : wr.cell? ⟨b, o + k * 3 + 2, none⟩ = some (.string x.2.2) := h3 2 (show 2 < 3 by decide)
      have HX : Hid _ := hid (HC.out x hxm _ _ _ ((eItem).keep (w' := wr.alloc (.cells #[.int .i64 x.1, .string x.2.1, .string x.2.2] 104)) (fun b _ hl => (bal (Below.refl _ wr) _).block b hl) hEx))
      have HXl : Hid _ := hid hxl
      have hsz := hB.size
      have hblk := ho.blk
      have Hcl : Hid _ := hid hcl
      have hkm : (k : Int) < (l.length : Int) := by omega
      clear hEx h2 h3 hi hx hxm hxl hcl
      go_wp2_with fail
      refine Calls.mono HX.out ?_
      rintro e w4 ⟨cs', rfl, hE4, hb4⟩
      have hb4' : Below wr.heap.size wr w4 := Below.on (bal (Below.refl _ wr) _) hb4
      have hB4 : Below w.heap.size w w4 := Below.trans hB (hb4'.mono hsz)
      have hE4' := hE4
      obtain rfl := hE4'
      have ho4 := ho.later hb4'
      have ho5 := ho4.alloc (.cells #[.int .i64 x.1, .string x.2.1, .string x.2.2] 104)
      have hB5 := bal hB4 (.cells #[.int .i64 x.1, .string x.2.1, .string x.2.2] 104)
      have hs4 := hb4'.size
      have HE4 : Hid (∀ i (h1 : i < l.length) (h2 : i < css.length), (eItem).E (fun b => w.heap.size ≤ b ∧ some b ≠ u5.ownBlock) (w4.alloc (.cells #[.int .i64 x.1, .string x.2.1, .string x.2.2] 104)) l[i] css[i]) := hid fun i h1 h2 => (eItem).keep (fun b _ hl => (bal (Below.refl _ w4) _).block b hl) ((eItem).keep (fun b _ hl => hb4'.block b hl) (HE.out i h1 h2))
      have HEn : Hid ((eItem).E (fun b => w.heap.size ≤ b ∧ some b ≠ u5.ownBlock) (w4.alloc (.cells #[.int .i64 x.1, .string x.2.1, .string x.2.2] 104)) x [.int .i64 x.1, .string x.2.1, .string x.2.2]) := hid ((eItem).keep (fun b _ hl => (bal (Below.refl _ w4) _).block b hl) ((eItem).mono (fun b hq _ => ⟨by have hq' : (wr.alloc (.cells #[.int .i64 x.1, .string x.2.1, .string x.2.2] 104)).heap.size ≤ b := hq; rw [World.size_alloc] at hq'; omega, fun hbk => by have := (hblk b hbk.symm).2; have hq' : (wr.alloc (.cells #[.int .i64 x.1, .string x.2.1, .string x.2.2] 104)).heap.size ≤ b := hq; rw [World.size_alloc] at hq'; omega⟩) hE4))
      clear hE4 HE ho ho4 hB4 HX hb4 hb4'
      go_wp2_with (first | (at_builtin; refine wpList_appR Try.underlying31 Try.infoZItem rfl (by decide) (by decide) rfl (.tmp 14) (.tmp 18) rfl _ css w4.heap.size [.int .i64 x.1, .string x.2.1, .string x.2.2] rfl rfl ho5 rfl (by simp [Value.oneCell']) ?_ (by omega) hB5.size ?_) | fail)
      · intro j hj
        have hj' : j < 3 := hj
        match j, hj' with
        | 0, _ => exact cell_new w4 _ _ _ 0
        | 1, _ => exact cell_new w4 _ _ _ 1
        | 2, _ => exact cell_new w4 _ _ _ 2
      · intro v' w6 hO6 hg6 hown
        have hB6 := Below.grownR hB5 hB5.size hg6 fun k e => (hblk k e).1
        have HN : Hid (∀ i (h1 : i < l.length) (h2 : i < (css ++ [([.int .i64 x.1, .string x.2.1, .string x.2.2] : List Value)]).length), (eItem).E (fun b => w.heap.size ≤ b ∧ some b ≠ v'.ownBlock) w6 l[i] (css ++ [([.int .i64 x.1, .string x.2.1, .string x.2.2] : List Value)])[i]) := hid fun i h1 h2 => by
          by_cases hi : i < css.length
          · rw [List.getElem_append_left hi]
            exact (eItem).grow (HE4.out i h1 hi) hg6 (by simpa using hown)
          · rw [List.length_append, List.length_singleton] at h2
            obtain rfl : i = css.length := by omega
            rw [List.getElem_append_right (Nat.le_refl _)]
            have hx' : l[css.length] = x := by
              have := HXl.out
              have hk' := Hcl.out
              subst hk'
              exact this
            rw [hx']
            simpa using (eItem).grow HEn.out hg6 (by simpa using hown)
        clear HE4 HEn hg6 hown ho5 hB5 hblk
        go_wp2
        go_roundw
        case rel => exact ⟨k + 1, css ++ [([.int .i64 x.1, .string x.2.1, .string x.2.2] : List Value)], hlt, by go_num, hB6, hO6, by rw [List.length_append, List.length_singleton, Hcl.out], HN⟩
        case measure => simp only [intOf]; omega
    · obtain rfl : k = l.length := by omega
      obtain ⟨a5, n5, d5, rfl⟩ := ho.sl
      go_wp2
      go_ret
      exact ⟨_, _, _, css, rfl, ho, hcl, HE.out, hB⟩
theorem copiesItem_any {l : List It} (hcp : ∀ x ∈ l, Cp eItem 58 x) (hlen : l.length ≤ 500) {Q : Nat → Prop} {w : World} {ao : Option Addr} {n c : Nat} (h : RowIs eItem Q w (.slice ao n c) l) :
    Calls Try.prog 57 #[.slice ao n c, .func (.func 58) #[] #[]] w (TeR eItem w l) := (copiesItem_own hcp hlen h).mono fun _ _ h => h.row


end Go.Proofs.Ytnboooaockgoiab
/- The walks of table, index, insert, delete. -/
namespace Go.Proofs.Ytnboooaockgoiab
open Go.RowKit
set_option linter.unusedVariables false

def tableP (ts : List Tk) : Re Sm := fillR (brP colP) up_co (fillR nameP up_nm (startR 1 (.inr ts)))
def indexP (ts : List Tk) : Re Sm := wantR ⟨#[41]⟩ (fillR nameP up_nm (wantR ⟨#[40]⟩ (fillR nameP up_tb (wantR ⟨#[111, 110]⟩ (startR 2 (.inr ts))))))
def insertP (ts : List Tk) : Re Sm := fillR (brP (exprP 64)) up_va (wantR ⟨#[118, 97, 108, 117, 101, 115]⟩ (fillR nameP up_tb (wantR ⟨#[105, 110, 116, 111]⟩ (startR 5 (.inr ts)))))
def deleteP (ts : List Tk) : Re Sm := fillR behindP up_wh (fillR nameP up_tb (wantR ⟨#[102, 114, 111, 109]⟩ (startR 8 (.inr ts))))
theorem shr_seq {α β γ : Type} {f : α → β → γ} {P : List Tk → Re α} {P' : List Tk → Re β} (h : Shr P) (h' : Shr P') : Shr (seqP f P P') := by
  intro ts t r e
  obtain ⟨a, q, h1, h2⟩ := thenR_inr e
  obtain ⟨b, h3, _⟩ := mapR_inr h2
  have := h ts a q h1
  have := h' q b r h3
  omega
theorem shr_want (s : ByteArray) : Shr (wantU s) := by
  intro ts t r e
  rw [wantU] at e
  split at e
  · cases e; rw [List.length_tail]; omega
  · cases e
theorem shr_opt {α : Type} {s : ByteArray} {z : α} {P : List Tk → Re α} (h : Shr P) : Shr (optP s z P) := by
  intro ts t r e
  rw [optP] at e
  split at e
  · have := h _ t r e
    rw [List.length_tail] at this
    omega
  · cases e; exact Nat.le_refl _
theorem shr_choice (l : List (ByteArray × Int)) : Shr (choiceP l) := by
  intro ts t r e
  rw [choiceP] at e
  split at e
  · cases e
  · cases e; rw [List.length_tail]; omega
theorem shr_col : Shr colP := shr_seq shr_name (shr_seq (shr_choice _) (shr_opt shr_name))
theorem shr_tag : Shr tagP := by
  intro ts t r e
  cases ts with
  | nil => cases e
  | cons x l =>
    rw [tagP] at e
    split at e
    · split at e
      · cases e
      · cases e; simp
    · cases e
theorem shr_item : Shr itemP := by
  intro ts t r e
  rw [itemP] at e
  split at e
  · have := shr_seq (shr_want _) (shr_seq (shr_want _) (shr_want _)) _ t r e
    rw [List.length_tail] at this
    omega
  · split at e
    · obtain ⟨u, h1, _⟩ := mapR_inr e
      exact shr_column ts u r h1
    · have := shr_seq (shr_want _) (shr_seq shr_column (shr_want _)) _ t r e
      rw [List.length_tail] at this
      omega
theorem tableP_run (S : Sa) : runP tableP S = fillR (brP colP) up_co (fillR nameP up_nm (startR 1 S)) := by cases S <;> rfl
theorem indexP_run (S : Sa) : runP indexP S = wantR ⟨#[41]⟩ (fillR nameP up_nm (wantR ⟨#[40]⟩ (fillR nameP up_tb (wantR ⟨#[111, 110]⟩ (startR 2 S))))) := by cases S <;> rfl
theorem insertP_run (S : Sa) : runP insertP S = fillR (brP (exprP 64)) up_va (wantR ⟨#[118, 97, 108, 117, 101, 115]⟩ (fillR nameP up_tb (wantR ⟨#[105, 110, 116, 111]⟩ (startR 5 S)))) := by cases S <;> rfl
theorem deleteP_run (S : Sa) : runP deleteP S = fillR behindP up_wh (fillR nameP up_tb (wantR ⟨#[102, 114, 111, 109]⟩ (startR 8 S))) := by cases S <;> rfl
end Go.Proofs.Ytnboooaockgoiab
/- The walks of update and select. -/
namespace Go.Proofs.Ytnboooaockgoiab
open Go.RowKit
set_option linter.unusedVariables false

def expr1P (r : List Tk) : Re (List Tr) := mapR (fun x => [x]) (exprP 64 r)
theorem expr1_st (S : Sa) : stO (runP expr1P S) = stO (runP (exprP 64) S) := by
  rw [show runP expr1P S = mapR (fun x => [x]) (runP (exprP 64) S) from map_run _ _ S, stO_mapR]
theorem expr_row {g : Nat} {S : Sa} {w1 w2 : World} {o : Int} {p : Pay} {a : Option Addr} {m c : Nat} (hb : But g w1 w2) (hx : ∀ t r, runP (exprP 64) S = .inr (t, r) → Ex (fun b => w1.heap.size ≤ b) w2 t (exV o p (.slice a m c))) :
    ∀ u r, runP expr1P S = .inr (u, r) → RowIs eExpr (fun b => w1.heap.size ≤ b) (w2.alloc (.cells #[.int .i64 o, .int .i64 p.1, .int .i64 p.2.1, .string p.2.2.1, .string p.2.2.2.1, .string p.2.2.2.2, .slice a m c] 100)) (.slice (some ⟨w2.heap.size, 0, none⟩) 1 1) u := by
  intro u r e
  rw [show runP expr1P S = mapR (fun x => [x]) (runP (exprP 64) S) from map_run _ _ S] at e
  obtain ⟨t, e2, rfl⟩ := mapR_inr e
  exact row_one w2 t o p a m c _ hb.size (hx t r e2)
def updateP (ts : List Tk) : Re Sm := fillR behindP up_wh (fillR expr1P up_va (wantR ⟨#[61]⟩ (fillR nameP up_nm (wantR ⟨#[115, 101, 116]⟩ (fillR nameP up_tb (startR 7 (.inr ts)))))))
theorem updateP_run (S : Sa) : runP updateP S = fillR behindP up_wh (fillR expr1P up_va (wantR ⟨#[61]⟩ (fillR nameP up_nm (wantR ⟨#[115, 101, 116]⟩ (fillR nameP up_tb (startR 7 S)))))) := by cases S <;> rfl

/-- A word is read if it stands there. -/
def takeR (s : ByteArray) (R : Re Sm) : Re Sm := thenR R fun m r => .inr (m, if isTk s r then r.tail else r)
theorem take_st (s : ByteArray) (R : Re Sm) : stO (takeR s R) = takeS s (stO R) := by
  cases R with
  | inl x => rfl
  | inr x =>
    show (Sum.inr (if isTk s x.2 then x.2.tail else x.2) : Sa) = (if isTk s x.2 then .inr x.2.tail else .inr x.2)
    split <;> rfl
theorem takeB_inr {s : ByteArray} {R : Re Sm} (h : takeB s (stO R) = true) : ∃ m t ts, R = .inr (m, t :: ts) ∧ isTk s (t :: ts) = true := by
  obtain ⟨t, ts, hS, _, _⟩ := takeB_true h
  obtain ⟨m, hm⟩ := stO_inr hS
  rw [hS] at h
  exact ⟨m, t, ts, hm, h⟩
def starP (ts : List Tk) : Re (List It) := if isTk ⟨#[42]⟩ ts then .inr ([], ts.tail) else listP itemP ts
theorem star_true {R : Re Sm} (h : takeB ⟨#[42]⟩ (stO R) = true) : fillR starP up_it R = fillR (fun ts => .inr ([], ts)) up_it (takeR ⟨#[42]⟩ R) := by
  obtain ⟨m, t, ts, rfl, hb⟩ := takeB_inr h
  show mapR (up_it m) (starP (t :: ts)) = mapR (up_it m) (Sum.inr ([], if isTk ⟨#[42]⟩ (t :: ts) then ts else t :: ts))
  rw [starP, if_pos hb, if_pos hb]
  rfl
theorem star_false {R : Re Sm} (h : takeB ⟨#[42]⟩ (stO R) = false) : fillR starP up_it R = fillR (listP itemP) up_it R := by
  match R with
  | .inl x => rfl
  | .inr (m, ts) =>
    have h' : isTk ⟨#[42]⟩ ts = false := h
    show mapR (up_it m) (starP ts) = mapR (up_it m) (listP itemP ts)
    rw [starP, if_neg (by rw [h']; simp)]
def up_jo (m : Sm) (x : ByteArray × List Tr) : Sm := { m with join := x.1, on := x.2 }
def joinP : List Tk → Re (ByteArray × List Tr) := optP ⟨#[106, 111, 105, 110]⟩ (⟨#[]⟩, []) (seqP Prod.mk nameP onP)
theorem join_true {R : Re Sm} (h : takeB ⟨#[106, 111, 105, 110]⟩ (stO R) = true) : fillR joinP up_jo R = fillR onP up_on (fillR nameP up_jn (takeR ⟨#[106, 111, 105, 110]⟩ R)) := by
  obtain ⟨m, t, ts, rfl, hb⟩ := takeB_inr h
  show mapR (up_jo m) (joinP (t :: ts)) = fillR onP up_on (mapR (up_jn m) (nameP (if isTk ⟨#[106, 111, 105, 110]⟩ (t :: ts) then ts else t :: ts)))
  rw [joinP, optP, if_pos hb, if_pos hb]
  show mapR (up_jo m) (thenR (nameP ts) fun a r => mapR (Prod.mk a) (onP r)) = _
  cases nameP ts with
  | inl x => rfl
  | inr x =>
    show mapR (up_jo m) (mapR (Prod.mk x.1) (onP x.2)) = mapR (up_on (up_jn m x.1)) (onP x.2)
    cases onP x.2 <;> rfl
def up_oo (m : Sm) (x : List Tr × Bool) : Sm := { m with order := x.1, desc := x.2 }
def descP (ts : List Tk) : Re Bool := .inr (isTk ⟨#[100, 101, 115, 99]⟩ ts, if isTk ⟨#[100, 101, 115, 99]⟩ ts then ts.tail else ts)
def ordP : List Tk → Re (List Tr × Bool) := optP ⟨#[111, 114, 100, 101, 114]⟩ ([], false) (seqP Prod.mk orderP descP)
theorem desc_st (S : Sa) : stO (runP descP S) = takeS ⟨#[100, 101, 115, 99]⟩ S := by
  match S with
  | .inl x => rfl
  | .inr ts =>
    show (Sum.inr (if isTk ⟨#[100, 101, 115, 99]⟩ ts then ts.tail else ts) : Sa) = (if isTk ⟨#[100, 101, 115, 99]⟩ ts then .inr ts.tail else .inr ts)
    split <;> rfl
theorem desc_inr {S : Sa} {x : Bool} {r : List Tk} (h : runP descP S = .inr (x, r)) : takeB ⟨#[100, 101, 115, 99]⟩ S = x := by
  match S with
  | .inl y => cases h
  | .inr ts => cases h; rfl
theorem ord_true {R : Re Sm} (h : takeB ⟨#[111, 114, 100, 101, 114]⟩ (stO R) = true) : fillR ordP up_oo R = fillR descP up_ds (fillR orderP up_od (takeR ⟨#[111, 114, 100, 101, 114]⟩ R)) := by
  obtain ⟨m, t, ts, rfl, hb⟩ := takeB_inr h
  show mapR (up_oo m) (ordP (t :: ts)) = fillR descP up_ds (mapR (up_od m) (orderP (if isTk ⟨#[111, 114, 100, 101, 114]⟩ (t :: ts) then ts else t :: ts)))
  rw [ordP, optP, if_pos hb, if_pos hb]
  show mapR (up_oo m) (thenR (orderP ts) fun a r => mapR (Prod.mk a) (descP r)) = _
  cases orderP ts with
  | inl x => rfl
  | inr x => rfl
def queryP (ts : List Tk) : Re Sm := fillR ordP up_oo (fillR behindP up_wh (fillR joinP up_jo (fillR nameP up_tb (wantR ⟨#[102, 114, 111, 109]⟩ (fillR starP up_it (wantR ⟨#[115, 101, 108, 101, 99, 116]⟩ (startR 6 (.inr ts))))))))
theorem queryP_run (S : Sa) : runP queryP S = fillR ordP up_oo (fillR behindP up_wh (fillR joinP up_jo (fillR nameP up_tb (wantR ⟨#[102, 114, 111, 109]⟩ (fillR starP up_it (wantR ⟨#[115, 101, 108, 101, 99, 116]⟩ (startR 6 S))))))) := by cases S <;> rfl

end Go.Proofs.Ytnboooaockgoiab
/- The walk of select. -/
namespace Go.Proofs.Ytnboooaockgoiab
open Go.RowKit
set_option linter.unusedVariables false

end Go.Proofs.Ytnboooaockgoiab
/- The walks of door and of what reads one statement of several. -/
namespace Go.Proofs.Ytnboooaockgoiab
open Go.RowKit
set_option linter.unusedVariables false

theorem row_stmt (w : World) (m : Sm) (s : Sv) (Q : Nat → Prop) {b : Nat} (hb : w.heap.size = b) (hq : Q b) (h : IsS Q w m s) (hi : s.inn = (none, 0, 0)) :
    RowIs eStmt Q (w.alloc (.cells #[.int .i64 s.k, .string s.tb, .string s.nm, .slice s.co.1 s.co.2.1 s.co.2.2, .slice s.ta.1 s.ta.2.1 s.ta.2.2, .slice s.va.1 s.va.2.1 s.va.2.2, .slice s.it.1 s.it.2.1 s.it.2.2, .string s.jn, .slice s.on.1 s.on.2.1 s.on.2.2, .slice s.wh.1 s.wh.2.1 s.wh.2.2, .slice s.od.1 s.od.2.1 s.od.2.2, .bool s.ds, .slice s.inn.1 s.inn.2.1 s.inn.2.2] 34)) (.slice (some ⟨b, 0, none⟩) 1 1) [m] := by
  subst hb
  refine ⟨_, 1, 1, rfl, rfl, Nat.le_refl _, by omega, fun _ => ⟨w.heap.size, 0, rfl, hq, fun i hi' => ?_⟩⟩
  obtain rfl : i = 0 := by simp at hi'; omega
  refine ⟨svC s, ⟨s, rfl, h.keep fun b _ hlt => (bal (Below.refl _ w) _).block b hlt, hi⟩, rfl, fun j hj => ?_⟩
  have hj' : j < 13 := hj
  match j, hj' with
  | 0, _ => exact cell_new w _ _ _ 0
  | 1, _ => exact cell_new w _ _ _ 1
  | 2, _ => exact cell_new w _ _ _ 2
  | 3, _ => exact cell_new w _ _ _ 3
  | 4, _ => exact cell_new w _ _ _ 4
  | 5, _ => exact cell_new w _ _ _ 5
  | 6, _ => exact cell_new w _ _ _ 6
  | 7, _ => exact cell_new w _ _ _ 7
  | 8, _ => exact cell_new w _ _ _ 8
  | 9, _ => exact cell_new w _ _ _ 9
  | 10, _ => exact cell_new w _ _ _ 10
  | 11, _ => exact cell_new w _ _ _ 11
  | 12, _ => exact cell_new w _ _ _ 12

def tagsP (ts : List Tk) : Re (List Int) := if kdOf ts = 3 then listP tagP ts else .inr ([], ts)
theorem tags_3 {S : Sa} (h : (nxT S).1 = 3) : runP tagsP S = runP (listP tagP) S := by
  match S with
  | .inl x => rfl
  | .inr [] => exact absurd h (by decide)
  | .inr (t :: ts) =>
    have h' : kdOf (t :: ts) = 3 := h
    show tagsP (t :: ts) = _
    rw [tagsP, if_pos h']
    rfl
theorem tags_no {S : Sa} (h : (nxT S).1 ≠ 3) : stO (runP tagsP S) = S ∧ ∀ l r, runP tagsP S = .inr (l, r) → l = [] := by
  match S with
  | .inl x => exact ⟨rfl, fun l r e => by cases e⟩
  | .inr [] => exact ⟨rfl, fun l r e => by cases e; rfl⟩
  | .inr (t :: ts) =>
    have h' : kdOf (t :: ts) ≠ 3 := h
    have e : runP tagsP (.inr (t :: ts)) = .inr ([], t :: ts) := by
      show tagsP (t :: ts) = _
      rw [tagsP, if_neg h']
    rw [e]
    exact ⟨rfl, fun l r e => by cases e; rfl⟩
theorem fill_run {α : Type} {P P' : List Tk → Re α} {f : Sm → α → Sm} {R : Re Sm} (h : runP P (stO R) = runP P' (stO R)) : fillR P f R = fillR P' f R := by
  cases R with
  | inl x => rfl
  | inr x =>
    have h' : P x.2 = P' x.2 := h
    show mapR (f x.1) (P x.2) = mapR (f x.1) (P' x.2)
    rw [h']
def doorR (k : Int) (P : List Tk → Re Sm) (S : Sa) : Re Sf := thenR (wantR ⟨#[97, 115]⟩ (fillR tagsP up_ta (wantR ⟨#[115, 116, 114, 105, 112]⟩ (fillR nameP up_nm (startR k S))))) fun m r => mapR (fun x => (m, [x])) (P r)
def doorP (k : Int) (P : List Tk → Re Sm) (ts : List Tk) : Re Sf := doorR k P (.inr ts)
theorem doorP_run (k : Int) (P : List Tk → Re Sm) (S : Sa) : runP (doorP k P) S = doorR k P S := by cases S <;> rfl
theorem inner_st {R : Re Sm} {P : List Tk → Re Sm} : stO (thenR R fun m r => mapR (fun x => ((m, [x]) : Sf)) (P r)) = stO (runP P (stO R)) := by
  cases R with
  | inl x => rfl
  | inr x =>
    show stO (mapR (fun y => ((x.1, [y]) : Sf)) (P x.2)) = stO (P x.2)
    exact stO_mapR _ _
theorem inner_inr {R : Re Sm} {P : List Tk → Re Sm} {m : Sf} {r : List Tk} (h : (thenR R fun m r => mapR (fun x => ((m, [x]) : Sf)) (P r)) = .inr (m, r)) : ∃ a q x, R = .inr (a, q) ∧ runP P (stO R) = .inr (x, r) ∧ m = (a, [x]) := by
  obtain ⟨a, q, h1, h2⟩ := thenR_inr h
  obtain ⟨x, h3, h4⟩ := mapR_inr h2
  subst h1
  exact ⟨a, q, x, rfl, h3, h4⟩

end Go.Proofs.Ytnboooaockgoiab
/- The walks of change, create, stmt. -/
namespace Go.Proofs.Ytnboooaockgoiab
open Go.RowKit
set_option linter.unusedVariables false

/-- If that word stands there, this; else that. -/
def dispP {α : Type} (s : ByteArray) (P Q : List Tk → Re α) (ts : List Tk) : Re α := if isTk s ts then P ts.tail else Q ts
theorem disp_true {α : Type} {s : ByteArray} {P Q : List Tk → Re α} {S : Sa} (h : takeB s S = true) : runP (dispP s P Q) S = runP P (takeS s S) := by
  match S with
  | .inl x => cases h
  | .inr ts =>
    have h' : isTk s ts = true := h
    show dispP s P Q ts = runP P (if isTk s ts then .inr ts.tail else .inr ts)
    rw [dispP, if_pos h', if_pos h']
    rfl
theorem disp_false {α : Type} {s : ByteArray} {P Q : List Tk → Re α} {S : Sa} (h : takeB s S = false) : runP (dispP s P Q) S = runP Q S := by
  match S with
  | .inl x => rfl
  | .inr ts =>
    have h' : isTk s ts = false := h
    show dispP s P Q ts = _
    rw [dispP, if_neg (by rw [h']; simp)]
    rfl
def failP {α : Type} (ts : List Tk) : Re α := .inl (atOf ts, 5)
theorem fail_run {α : Type} (S : Sa) : stO (runP (failP (α := α)) S) = failS 5 S ∧ ∀ m r, runP (failP (α := α)) S ≠ .inr (m, r) := by
  cases S with
  | inl x => exact ⟨rfl, fun m r e => by cases e⟩
  | inr ts => exact ⟨rfl, fun m r e => by cases e⟩
/-- That word stands there, and is not read. -/
def isP {α : Type} (s : ByteArray) (P Q : List Tk → Re α) (ts : List Tk) : Re α := if isTk s ts then P ts else Q ts
theorem is_true {α : Type} {s : ByteArray} {P Q : List Tk → Re α} {S : Sa} (h : takeB s S = true) : runP (isP s P Q) S = runP P S := by
  match S with
  | .inl x => cases h
  | .inr ts =>
    have h' : isTk s ts = true := h
    show isP s P Q ts = _
    rw [isP, if_pos h']
    rfl
theorem is_false {α : Type} {s : ByteArray} {P Q : List Tk → Re α} {S : Sa} (h : takeB s S = false) : runP (isP s P Q) S = runP Q S := by
  match S with
  | .inl x => rfl
  | .inr ts =>
    have h' : isTk s ts = false := h
    show isP s P Q ts = _
    rw [isP, if_neg (by rw [h']; simp)]
    rfl
def changeP : List Tk → Re Sm := dispP ⟨#[105, 110, 115, 101, 114, 116]⟩ insertP (dispP ⟨#[117, 112, 100, 97, 116, 101]⟩ updateP (dispP ⟨#[100, 101, 108, 101, 116, 101]⟩ deleteP failP))
/-- A statement that has none in it. -/
def plain (P : List Tk → Re Sm) (ts : List Tk) : Re Sf := mapR (fun m => (m, [])) (P ts)
theorem plain_run (P : List Tk → Re Sm) (S : Sa) : runP (plain P) S = mapR (fun m => (m, [])) (runP P S) := by cases S <;> rfl
def createP : List Tk → Re Sf := dispP ⟨#[116, 97, 98, 108, 101]⟩ (plain tableP) (dispP ⟨#[105, 110, 100, 101, 120]⟩ (plain indexP) (dispP ⟨#[118, 105, 101, 119]⟩ (doorP 3 queryP) (dispP ⟨#[99, 108, 111, 115, 117, 114, 101]⟩ (doorP 4 changeP) failP)))
def onlyP (k : Int) (ts : List Tk) : Re Sf := .inr ((sm k, []), ts)
theorem only_run (k : Int) (S : Sa) : stO (runP (onlyP k) S) = S ∧ ∀ m r, runP (onlyP k) S = .inr (m, r) → m = (sm k, []) := by
  cases S with
  | inl x => exact ⟨rfl, fun m r e => by cases e⟩
  | inr ts => exact ⟨rfl, fun m r e => by cases e; rfl⟩
def raiseP (ts : List Tk) : Re Sf := mapR (fun l => (up_ta (sm 12) l, [])) (listP tagP ts)
theorem raise_run (S : Sa) : runP raiseP S = mapR (fun l => (up_ta (sm 12) l, [])) (runP (listP tagP) S) := by cases S <;> rfl
def callP (ts : List Tk) : Re Sf := mapR (fun x => (up_nm (sm 13) x, [])) (nameP ts)
theorem call_run (S : Sa) : runP callP S = mapR (fun x => (up_nm (sm 13) x, [])) (runP nameP S) := by cases S <;> rfl
def stmtP : List Tk → Re Sf := dispP ⟨#[99, 114, 101, 97, 116, 101]⟩ createP (isP ⟨#[115, 101, 108, 101, 99, 116]⟩ (plain queryP) (dispP ⟨#[98, 101, 103, 105, 110]⟩ (onlyP 9) (dispP ⟨#[99, 111, 109, 109, 105, 116]⟩ (onlyP 10) (dispP ⟨#[114, 111, 108, 108, 98, 97, 99, 107]⟩ (onlyP 11) (dispP ⟨#[114, 97, 105, 115, 101]⟩ raiseP (dispP ⟨#[99, 97, 108, 108]⟩ callP (plain changeP)))))))
end Go.Proofs.Ytnboooaockgoiab
/- The walk of stmt. -/
namespace Go.Proofs.Ytnboooaockgoiab
open Go.RowKit
set_option linter.unusedVariables false

end Go.Proofs.Ytnboooaockgoiab
/- What lex tells is what the reader wants; the walk of Parse. -/
namespace Go.Proofs.Ytnboooaockgoiab
open Go.RowKit
set_option linter.unusedVariables false

theorem Lx.ended {s : ByteArray} {k : Nat} {l : List Tk} {a e : Int} (h : Lx s k l a e) : e = 0 → k ≤ s.size → Ended l ∧ l.length + k ≤ s.size + 1 :=
  Lx.all (fun k l a e => e = 0 → k ≤ s.size → Ended l ∧ l.length + k ≤ s.size + 1)
    (fun k h1 h2 => absurd h2 h1)
    (fun k h1 h2 _ hk => ⟨.inl h2, by simp; omega⟩)
    (fun k l h1 h2 _ ih _ hk => by
      rcases wordW_on hk h1 with ⟨h6, _⟩ | ⟨_, h3, h4⟩
      · exact absurd h6 h2
      · obtain ⟨i1, i2⟩ := ih rfl h4
        exact ⟨.inr i1, by simp; omega⟩)
    (fun k a e h1 h2 _ he _ h0 => absurd h0 he) h
theorem LexR.ended {s : ByteArray} {l : List Tk} {a e : Int} (h : LexR s l a e) (he : e = 0) : Ended l ∧ l.length ≤ 500 ∧ a = 0 := by
  rcases h with ⟨_, _, _, rfl⟩ | ⟨h4, hx⟩
  · cases he
  · obtain ⟨h1, h2⟩ := hx.ended he (Nat.zero_le _)
    exact ⟨h1, by omega, hx.zero he⟩
/-- The statement that words are. -/
def parseW (ts : List Tk) : Re Sf := thenR (stmtP ts) fun m r => if kdOf r = 6 then .inr (m, r) else .inl (atOf r, 5)
/-- What is told of a text: the statement, if it is one; the fault's place, the fault. -/
def PaR (s : ByteArray) (X : Option Sf) (a f : Int) : Prop :=
  ∃ ts b e, LexR s ts b e ∧ ((e ≠ 0 ∧ X = none ∧ a = b ∧ f = e) ∨ (e = 0 ∧ ((∃ x, parseW ts = .inl x ∧ X = none ∧ a = x.1 ∧ f = x.2 ∧ f ≠ 0) ∨ ∃ m r, parseW ts = .inr (m, r) ∧ X = some m ∧ a = 0 ∧ f = 0)))
theorem end_run (ts : List Tk) : stO (parseW ts) = endS (stO (stmtP ts)) ∧ ∀ m r, parseW ts = .inr (m, r) → stmtP ts = .inr (m, r) := by
  rw [parseW]
  cases stmtP ts with
  | inl x => exact ⟨rfl, fun m r e => by cases e⟩
  | inr x =>
    show stO (if kdOf x.2 = 6 then _ else _) = (if kdOf x.2 = 6 then _ else _) ∧ ∀ m r, (if kdOf x.2 = 6 then (.inr (x.1, x.2) : Re Sf) else .inl (atOf x.2, 5)) = .inr (m, r) → _
    split
    · exact ⟨rfl, fun m r e => e⟩
    · exact ⟨rfl, fun m r e => by cases e⟩
/-- What Parse tells. -/
def TeP (s : ByteArray) (w : World) (e : Ending) (w' : World) : Prop :=
  ∃ sv X a f, e = .returned (.tuple #[stV sv, .int .i64 a, .int .i64 f]) ∧ Below w.heap.size w w' ∧ PaR s X a f ∧ (X = none → sv = zS 0) ∧ ∀ m, X = some m → IsS (fun b => w.heap.size ≤ b) w' m.1 sv ∧ RowIs eStmt (fun b => w.heap.size ≤ b) w' (slV sv.inn) m.2
theorem but_below {g : Nat} {a w w' : World} (h : Below a.heap.size a w) (hb : But g w w') (hg : a.heap.size ≤ g) : Below a.heap.size a w' := hb.below h hg h.size
theorem set13_below {a w : World} (h : Below a.heap.size a w) (s : Sv) : Below a.heap.size a (set13 w a.heap.size s) := by
  have B := (But.of (g := a.heap.size) h).set13 (Nat.le_refl _) s
  exact ⟨B.os, B.tape, B.output, B.size, fun k hk => B.block k hk (by omega)⟩
theorem bs_set13 {w : World} {b : Nat} {s : Sv} (h : Bs w b s) (s' : Sv) : Bs (set13 w b s') b s' := ⟨by simp [set13, World.setCell, Array.getElem?_modify, h.row]⟩

end Go.Proofs.Ytnboooaockgoiab
