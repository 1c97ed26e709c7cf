import Derived.Test.YtnboooaockgoiabMaj
/- Whether schema does anything yet: the walk of begun. -/
namespace Go.Proofs.Ytnboooaockgoiab
open Go.RowKit
set_option linter.unusedVariables false
set_option linter.unusedSimpArgs false

/-- A row of one column that was just built. -/
theorem row_col1 (w : World) (a : ByteArray) (k : Int) (f : ByteArray) : RowIs eCol (fun _ => True) (w.alloc (.cells #[.string a, .int .i64 k, .string f] 36)) (.slice (some ⟨w.heap.size, 0, none⟩) 1 1) [(a, k, f)] := by
  refine ⟨_, 1, 1, rfl, rfl, Nat.le_refl _, by omega, fun _ => ⟨w.heap.size, 0, rfl, trivial, fun i hi => ?_⟩⟩
  have hi' : i < 1 := hi
  obtain rfl : i = 0 := by omega
  refine ⟨_, rfl, rfl, fun j hj => ?_⟩
  rw [show 0 + 0 * eCol.k + j = j from by omega]
  exact new3 w _ _ _ _ j hj
abbrev kCol : Co := (⟨#[107]⟩, 1, ⟨#[]⟩)
abbrev tTab : Tbl := ⟨⟨#[116]⟩, [kCol], []⟩
theorem tTab_may : mayTblP [] ⟨#[116]⟩ [kCol] = 0 := by kernel_rfl
theorem tTab_look : lookT [tTab] ⟨#[116]⟩ = some tTab := by kernel_rfl
theorem tTab_k : fidx (fun c => eqS c.1 ⟨#[107]⟩) tTab.cols = 0 := by kernel_rfl
theorem tTab_q : fidx (fun c => eqS c.1 ⟨#[113]⟩) tTab.cols = -1 := by kernel_rfl
theorem tTab_B : AllB TblB [tTab] := by
  refine ⟨by simp, fun x hx => ?_⟩
  rw [List.mem_singleton] at hx
  subst hx
  refine ⟨by simp only [StrB]; decide, ⟨by simp, fun c hc => ?_⟩, ⟨by simp, fun c hc => by simp at hc⟩⟩
  rw [List.mem_singleton] at hc
  subst hc
  exact ⟨by decide, by decide⟩
theorem kCol_B (k : Int) : AllB ColB [(⟨#[107]⟩, k, ⟨#[]⟩)] := by
  refine ⟨by simp, fun c hc => ?_⟩
  rw [List.mem_singleton] at hc
  subst hc
  exact ⟨by simp only; decide, by simp only; decide⟩
/-- Add of a table into nothing. -/
theorem add0_any {nm : ByteArray} (hnB : StrB nm) (hm : mayTblP [] nm [kCol] = 0) (w : World) :
    Calls Try.prog 6 #[.agg #[.slice none 0 0, .slice none 0 0], .agg #[.int .i64 1, .string ⟨#[]⟩, .string nm, .slice (some ⟨w.heap.size, 0, none⟩) 1 1, .slice none 0 0, .slice none 0 0, .slice none 0 0, .string ⟨#[]⟩, .slice none 0 0, .slice none 0 0, .slice none 0 0, .bool false, .slice none 0 0], .slice none 0 0] (w.alloc (.cells #[.string ⟨#[107]⟩, .int .i64 1, .string ⟨#[]⟩] 36))
      (TeA (w.alloc (.cells #[.string ⟨#[107]⟩, .int .i64 1, .string ⟨#[]⟩] 36)) [⟨nm, [kCol], []⟩] [] 0) := by
  have h := addTbl_any (S := []) (V0 := []) (cols := [kCol]) ⟨by simp, by simp⟩ ⟨by simp, by simp⟩ (by simp) (kCol_B 1) (w := w.alloc (.cells #[.string ⟨#[107]⟩, .int .i64 1, .string ⟨#[]⟩] 36)) (RowIs.nil _ _ _) (RowIs.nil _ _ _) ⟨#[]⟩ hnB none 0 0 none 0 0 none 0 0 ⟨#[]⟩ none 0 0 none 0 0 none 0 0 false none 0 0 (row_col1 w ⟨#[107]⟩ 1 ⟨#[]⟩) none 0 0
  rw [hm, if_pos rfl, if_pos rfl] at h
  exact h
set_option maxRecDepth 100000 in
set_option maxHeartbeats 2000000 in
theorem begun9_any (w : World) : Calls Try.prog 5 #[] w fun e w' => e = .returned (.bool true) ∧ Below w.heap.size w w' := by
  have H1 : Hid _ := hid (add0_any (nm := ⟨#[116]⟩) (by simp only [StrB]; decide) tTab_may w)
  have hw := bal (Below.refl _ w) (.cells #[.string ⟨#[107]⟩, .int .i64 1, .string ⟨#[]⟩] 36)
  go_enter Try.func5, Try.ntmps5
  go_wp2_with fail
  refine Calls.mono H1.out ?_
  rintro e U ⟨ta, tn, tc, vb, vm, vd, rfl, r1, r2, hb⟩
  replace hw := Below.trans hw (hb.mono hw.size)
  have hU := bal (Below.refl _ U) (.cells #[.slice ta tn tc, .slice vb vm vd] 26)
  have H2 := table_any tTab_B ⟨#[116]⟩ ((RowIs.any (by decide) r1).keep (by decide) fun b _ hl => hU.block b hl) vb vm vd
  rw [tTab_look] at H2
  replace H2 : Hid _ := hid H2
  replace hw := Below.on hw hU
  clear H1 hb hU r1 r2
  go_wp2_with fail
  refine Calls.mono H2.out ?_
  rintro e U2 ⟨s, a, n, c, a', n', c', is, rfl, his, hso, hno, hb⟩
  obtain rfl : is = true := his
  obtain ⟨rfl, r1, r2⟩ := hso _ rfl
  replace hw := Below.on hw hb
  have hU := bal (Below.refl _ U2) (.cells #[.string tTab.name, .slice a n c, .slice a' n' c'] 44)
  have r3 : RowIs eCol (fun b => (U.alloc (.cells #[.slice ta tn tc, .slice vb vm vd] 26)).heap.size ≤ b) (U2.alloc (.cells #[.string tTab.name, .slice a n c, .slice a' n' c'] 44)) (.slice a n c) tTab.cols := r1.keep (by decide) fun b _ hl => hU.block b hl
  have H3 : Hid (∀ w', Below (U2.alloc (.cells #[.string tTab.name, .slice a n c, .slice a' n' c'] 44)).heap.size (U2.alloc (.cells #[.string tTab.name, .slice a n c, .slice a' n' c'] 44)) w' → _) := hid fun w' hb' => column_any (by decide) tTab.name ⟨#[107]⟩ (r3.keep (by decide) fun b _ hl => hb'.block b hl) a' n' c'
  have H4 : Hid (∀ w', Below (U2.alloc (.cells #[.string tTab.name, .slice a n c, .slice a' n' c'] 44)).heap.size (U2.alloc (.cells #[.string tTab.name, .slice a n c, .slice a' n' c'] 44)) w' → _) := hid fun w' hb' => column_any (by decide) tTab.name ⟨#[113]⟩ (r3.keep (by decide) fun b _ hl => hb'.block b hl) a' n' c'
  have H5 : Hid (∀ w', Below (U2.alloc (.cells #[.string tTab.name, .slice a n c, .slice a' n' c'] 44)).heap.size (U2.alloc (.cells #[.string tTab.name, .slice a n c, .slice a' n' c'] 44)) w' → _) := hid fun w' hb' => indexed0 (by decide) tTab.name ⟨#[107]⟩ (r3.keep (by decide) fun b _ hl => hb'.block b hl) a' n' c' tTab_k
  rw [tTab_k] at H3
  rw [tTab_q] at H4
  have k0 := cell_new U2 #[.string tTab.name, .slice a n c, .slice a' n' c'] 44 (0, 0) 0
  have k1 := cell_new U2 #[.string tTab.name, .slice a n c, .slice a' n' c'] 44 (0, 0) 1
  have k2 := cell_new U2 #[.string tTab.name, .slice a n c, .slice a' n' c'] 44 (0, 0) 2
  simp only [List.getElem?_toArray, List.getElem?_cons_zero, List.getElem?_cons_succ] at k0 k1 k2
  replace hw := Below.on hw hU
  have hn : tTab.name = ⟨#[116]⟩ := rfl
  clear H2 hb r1 r2 r3 hno hso hU
  go_upto_region 3 with fail
  generalize hV : U2.alloc (.cells #[.string tTab.name, .slice a n c, .slice a' n' c'] 44) = V at *
  have hY : Below V.heap.size V V := Below.refl _ _
  go_wp2_with fail
  refine Calls.mono (H3.out _ hY) ?_
  rintro e y ⟨rfl, hby⟩
  replace hY := Below.on hY hby
  replace k0 := cell_later hby k0
  replace k1 := cell_later hby k1
  replace k2 := cell_later hby k2
  go_wp2_with fail
  refine Calls.mono (H4.out _ hY) ?_
  rintro e y2 ⟨rfl, hby2⟩
  replace hY := Below.on hY hby2
  replace k0 := cell_later hby2 k0
  replace k1 := cell_later hby2 k1
  replace k2 := cell_later hby2 k2
  go_wp2_with fail
  refine Calls.mono (H5.out _ hY) ?_
  rintro e y3 ⟨rfl, hby3⟩
  replace hY := Below.on hY hby3
  have hW := Below.trans hw (hY.mono hw.size)
  clear H3 H4 H5 hby hby2 hby3 hY
  go_wp2
  go_ret
  exact ⟨rfl, hW⟩

end Go.Proofs.Ytnboooaockgoiab
/- One more view. -/
namespace Go.Proofs.Ytnboooaockgoiab
open Go.RowKit
set_option linter.unusedVariables false
set_option linter.unusedSimpArgs false

set_option maxRecDepth 100000 in
set_option maxHeartbeats 4000000 in
theorem withVw_any {l : List Vw} {x : Vw} (hlen : l.length ≤ 400) (hcp : ∀ t ∈ l, Cp eVw 21 t) (hx : Cp eVw 21 x) {Q : Nat → Prop} {w : World} {ao : Option Addr} {n c : Nat} (h : RowIs eVw Q w (.slice ao n c) l) {N : Nat} {cs : List Value} (he : (eVw).E Q w x cs) :
    Calls Try.prog 30 #[.agg #[.slice ao n c, .func (.func N) #[] #[], .func (.func 21) #[] #[]], .agg cs.toArray] w (TeR eVw w (l ++ [x])) := by
  have HR : Hid (∀ w', Below w.heap.size w w' → RowIs eVw Q w' (.slice ao n c) l) := hid fun w' hb => h.keep (by decide) fun b _ hl => hb.block b hl
  have HE0 : Hid (∀ w', Below w.heap.size w w' → (eVw).E Q w' x cs) := hid fun w' hb => (eVw).keep (fun b _ hl => hb.block b hl) he
  obtain ⟨ea, en, ec, ⟨ek, etb, enm, ⟨eco1, eco2, eco3⟩, ⟨eta1, eta2, eta3⟩, ⟨eva1, eva2, eva3⟩, ⟨eit1, eit2, eit3⟩, ejn, ⟨eon1, eon2, eon3⟩, ⟨ewh1, ewh2, ewh3⟩, ⟨eod1, eod2, eod3⟩, eds, ⟨ein1, ein2, ein3⟩⟩, rfl, er1, er2, er3⟩ := he
  unfold svC
  dsimp only
  unfold svC at HE0
  clear h er1 er2 er3
  go_enter Try.func30, Try.ntmps30
  go_upto_region 1 with fail
  generalize hU : (w.alloc (.cells #[.slice ao n c, .func (.func N) #[] #[], .func (.func 21) #[] #[]] 78)).alloc (.cells #[.string x.name, .slice ea en ec, .int .i64 ek, .string etb, .string enm, .slice eco1 eco2 eco3, .slice eta1 eta2 eta3, .slice eva1 eva2 eva3, .slice eit1 eit2 eit3, .string ejn, .slice eon1 eon2 eon3, .slice ewh1 ewh2 ewh3, .slice eod1 eod2 eod3, .bool eds, .slice ein1 ein2 ein3] 68) = U
  have b0 : Bk U w.heap.size (.cells #[.slice ao n c, .func (.func N) #[] #[], .func (.func 21) #[] #[]] 78) := hU ▸ (Bk.new w _).later (bal (Below.refl _ _) _)
  have b1 : Bk U (w.heap.size + 1) (.cells #[.string x.name, .slice ea en ec, .int .i64 ek, .string etb, .string enm, .slice eco1 eco2 eco3, .slice eta1 eta2 eta3, .slice eva1 eva2 eva3, .slice eit1 eit2 eit3, .string ejn, .slice eon1 eon2 eon3, .slice ewh1 ewh2 ewh3, .slice eod1 eod2 eod3, .bool eds, .slice ein1 ein2 ein3] 68) := by
    have := Bk.new (w.alloc (.cells #[.slice ao n c, .func (.func N) #[] #[], .func (.func 21) #[] #[]] 78)) (.cells #[.string x.name, .slice ea en ec, .int .i64 ek, .string etb, .string enm, .slice eco1 eco2 eco3, .slice eta1 eta2 eta3, .slice eva1 eva2 eva3, .slice eit1 eit2 eit3, .string ejn, .slice eon1 eon2 eon3, .slice ewh1 ewh2 ewh3, .slice eod1 eod2 eod3, .bool eds, .slice ein1 ein2 ein3] 68)
    rw [World.size_alloc] at this
    exact hU ▸ this
  have hw : Below w.heap.size w U := hU ▸ bal (bal (Below.refl _ _) _) _
  have hwU : w.heap.size ≤ U.heap.size := hw.size
  have HC : Hid (∀ w1, Below U.heap.size U w1 → Calls Try.prog 20 #[.slice ao n c, .func (.func 21) #[] #[]] w1 (TeO eVw 68 w1 l)) := hid fun w1 hb => copiesVw_own hcp (by omega) (HR.out w1 (Below.trans hw (hb.mono hw.size)))
  have HX : Hid (∀ w1, Below U.heap.size U w1 → _) := hid fun w1 hb => hx Q w1 _ (HE0.out w1 (Below.trans hw (hb.mono hw.size)))
  have hY : Below U.heap.size U U.drew := (Below.refl _ _).drew
  have l0 := b0.cell 0
  have l2 := b0.cell 2
  have c0 := b1.cell 0
  have c1 := b1.cell 1
  have c2 := b1.cell 2
  have c3 := b1.cell 3
  have c4 := b1.cell 4
  have c5 := b1.cell 5
  have c6 := b1.cell 6
  have c7 := b1.cell 7
  have c8 := b1.cell 8
  have c9 := b1.cell 9
  have c10 := b1.cell 10
  have c11 := b1.cell 11
  have c12 := b1.cell 12
  have c13 := b1.cell 13
  have c14 := b1.cell 14
  simp only [List.getElem?_toArray, List.getElem?_cons_zero, List.getElem?_cons_succ] at l0 l2 c0 c1 c2 c3 c4 c5 c6 c7 c8 c9 c10 c11 c12 c13 c14
  obtain ⟨hB0, hhB⟩ : ∃ B0, U.drew.heap.size = B0 := ⟨_, rfl⟩
  clear b0 b1 hU HR HE0 hcp hx
  go_wp2
  refine wp_region_held_drew (S := fun w' => w'.cell? ⟨w.heap.size, 0, none⟩ = some (.slice ao n c) ∧ w'.cell? ⟨w.heap.size, 2, none⟩ = some (.func (.func 21) #[] #[]) ∧ w'.cell? ⟨w.heap.size + 1, 0, none⟩ = some (.string x.name) ∧ w'.cell? ⟨w.heap.size + 1, 1, none⟩ = some (.slice ea en ec) ∧ w'.cell? ⟨w.heap.size + 1, 2, none⟩ = some (.int .i64 ek) ∧ w'.cell? ⟨w.heap.size + 1, 3, none⟩ = some (.string etb) ∧ w'.cell? ⟨w.heap.size + 1, 4, none⟩ = some (.string enm) ∧ w'.cell? ⟨w.heap.size + 1, 5, none⟩ = some (.slice eco1 eco2 eco3) ∧ w'.cell? ⟨w.heap.size + 1, 6, none⟩ = some (.slice eta1 eta2 eta3) ∧ w'.cell? ⟨w.heap.size + 1, 7, none⟩ = some (.slice eva1 eva2 eva3) ∧ w'.cell? ⟨w.heap.size + 1, 8, none⟩ = some (.slice eit1 eit2 eit3) ∧ w'.cell? ⟨w.heap.size + 1, 9, none⟩ = some (.string ejn) ∧ w'.cell? ⟨w.heap.size + 1, 10, none⟩ = some (.slice eon1 eon2 eon3) ∧ w'.cell? ⟨w.heap.size + 1, 11, none⟩ = some (.slice ewh1 ewh2 ewh3) ∧ w'.cell? ⟨w.heap.size + 1, 12, none⟩ = some (.slice eod1 eod2 eod3) ∧ w'.cell? ⟨w.heap.size + 1, 13, none⟩ = some (.bool eds) ∧ w'.cell? ⟨w.heap.size + 1, 14, none⟩ = some (.slice ein1 ein2 ein3)) (by kernel_rfl) (⟨cell_later hY l0, cell_later hY l2, cell_later hY c0, cell_later hY c1, cell_later hY c2, cell_later hY c3, cell_later hY c4, cell_later hY c5, cell_later hY c6, cell_later hY c7, cell_later hY c8, cell_later hY c9, cell_later hY c10, cell_later hY c11, cell_later hY c12, cell_later hY c13, cell_later hY c14⟩) (fun hHeld => ?_)
  refine wpAnyH_take (i := 0) (v := ?tv23) rfl (by kernel_rfl) (by kernel_rfl) (by kernel_rfl) (fun _ _ _ h => h) (Or.inl ⟨by rfl, ?hy23⟩) (by assumption) ?rs23
  case hy23 => (intro w9 hSw; (try dsimp only at hSw); go_simp; (try with_reducible rfl))
  (try simp only [Act.put, List.getElem_toArray, List.getElem_cons_zero, List.getElem_cons_succ, List.setIfInBounds_toArray, List.set_cons_zero, List.set_cons_succ])
  refine wpAnyH_take (i := 1) (v := ?tv24) rfl (by kernel_rfl) (by kernel_rfl) (by kernel_rfl) (fun _ _ _ h => h) (Or.inl ⟨by rfl, ?hy24⟩) (by assumption) ?rs24
  case hy24 => (intro w9 hSw; (try dsimp only at hSw); go_simp; (try with_reducible rfl))
  (try simp only [Act.put, List.getElem_toArray, List.getElem_cons_zero, List.getElem_cons_succ, List.setIfInBounds_toArray, List.set_cons_zero, List.set_cons_succ])
  refine wpAnyH_take (i := 2) (v := ?tv25) rfl (by kernel_rfl) (by kernel_rfl) (by kernel_rfl) (fun _ _ _ h => h) (Or.inl ⟨by rfl, ?hy25⟩) (by assumption) ?rs25
  case hy25 => (intro w9 hSw; (try dsimp only at hSw); go_simp; (try with_reducible rfl))
  (try simp only [Act.put, List.getElem_toArray, List.getElem_cons_zero, List.getElem_cons_succ, List.setIfInBounds_toArray, List.set_cons_zero, List.set_cons_succ])
  refine wpAnyH_take (i := 3) (v := ?tv26) rfl (by kernel_rfl) (by kernel_rfl) (by kernel_rfl) (fun _ _ _ h => h) (Or.inl ⟨by rfl, ?hy26⟩) (by assumption) ?rs26
  case hy26 => (intro w9 hSw; (try dsimp only at hSw); go_simp; (try with_reducible rfl))
  (try simp only [Act.put, List.getElem_toArray, List.getElem_cons_zero, List.getElem_cons_succ, List.setIfInBounds_toArray, List.set_cons_zero, List.set_cons_succ])
  refine wpAnyH_take (i := 5) (v := ?tv27) rfl (by kernel_rfl) (by kernel_rfl) (by kernel_rfl) (fun _ _ _ h => h) (Or.inl ⟨by rfl, ?hy27⟩) (by assumption) ?rs27
  case hy27 => (intro w9 hSw; (try dsimp only at hSw); go_simp; (try with_reducible rfl))
  (try simp only [Act.put, List.getElem_toArray, List.getElem_cons_zero, List.getElem_cons_succ, List.setIfInBounds_toArray, List.set_cons_zero, List.set_cons_succ])
  refine wpAnyH_take (i := 6) (v := ?tv28) rfl (by kernel_rfl) (by kernel_rfl) (by kernel_rfl) (fun _ _ _ h => h) (Or.inl ⟨by rfl, ?hy28⟩) (by assumption) ?rs28
  case hy28 => (intro w9 hSw; (try dsimp only at hSw); go_simp; (try with_reducible rfl))
  (try simp only [Act.put, List.getElem_toArray, List.getElem_cons_zero, List.getElem_cons_succ, List.setIfInBounds_toArray, List.set_cons_zero, List.set_cons_succ])
  refine wpAnyH_take (i := 7) (v := ?tv29) rfl (by kernel_rfl) (by kernel_rfl) (by kernel_rfl) (fun _ _ _ h => h) (Or.inl ⟨by rfl, ?hy29⟩) (by assumption) ?rs29
  case hy29 => (intro w9 hSw; (try dsimp only at hSw); go_simp; (try with_reducible rfl))
  (try simp only [Act.put, List.getElem_toArray, List.getElem_cons_zero, List.getElem_cons_succ, List.setIfInBounds_toArray, List.set_cons_zero, List.set_cons_succ])
  refine wpAnyH_ready (rs := [4]) (by kernel_rfl) (by simp) ?_
  refine AllReadyH.cons rfl (fun K hK => ?_) AllReadyH.nil
  go_simp
  go_wp2_with (first | ((refine Calls.mono (HC.out _ hY) ?_); rintro e y ⟨va, vm, vd, css, rfl, hO, hcl, hE, hby⟩))
  have hsY := hY.size
  have hsy := hby.size
  replace hY := Below.on hY hby
  have hblk := hO.blk
  have HE : Hid _ := hid hE
  have hcl' : css.length ≤ 500 := by omega
  have Hcl : Hid _ := hid hcl
  clear hE hcl
  refine hK.out _ _ (⟨cell_later hY l0, cell_later hY l2, cell_later hY c0, cell_later hY c1, cell_later hY c2, cell_later hY c3, cell_later hY c4, cell_later hY c5, cell_later hY c6, cell_later hY c7, cell_later hY c8, cell_later hY c9, cell_later hY c10, cell_later hY c11, cell_later hY c12, cell_later hY c13, cell_later hY c14⟩) (fun hHeld => ?_)
  clear hK K
  (try simp only [Act.put, List.getElem_toArray, List.getElem_cons_zero, List.getElem_cons_succ, List.setIfInBounds_toArray, List.set_cons_zero, List.set_cons_succ])
  refine wpAnyH_ready (rs := [8]) (by kernel_rfl) (by simp) ?_
  refine AllReadyH.cons rfl (fun K hK => ?_) AllReadyH.nil
  go_simp
  go_wp2_with (first | ((refine Calls.mono (HX.out _ hY) ?_); rintro e y2 ⟨cs', rfl, hE4, hby2⟩))
  have hO2 := hO.later hby2
  replace hY := Below.on hY hby2
  have HE2 : Hid (∀ i (h1 : i < l.length) (h2 : i < css.length), (eVw).E (fun b => w.heap.size ≤ b ∧ some b ≠ (Value.slice va vm vd).ownBlock) y2 l[i] css[i]) := hid fun i h1 h2 => (eVw).keep (fun b _ hl => hby2.block b hl) ((eVw).mono (fun b hq _ => ⟨by have hq1 : _ ≤ b := hq.1; omega, hq.2⟩) (HE.out i h1 h2))
  have HEn : Hid ((eVw).E (fun b => w.heap.size ≤ b ∧ some b ≠ (Value.slice va vm vd).ownBlock) y2 x cs') := hid ((eVw).mono (fun b hq _ => ⟨by have hq' : y.heap.size ≤ b := hq; omega, fun hbk => by have := (hblk b hbk.symm).2; have hq' : y.heap.size ≤ b := hq; omega⟩) hE4)
  obtain ⟨fa, fn, fc, ⟨fk, ftb, fnm, ⟨fco1, fco2, fco3⟩, ⟨fta1, fta2, fta3⟩, ⟨fva1, fva2, fva3⟩, ⟨fit1, fit2, fit3⟩, fjn, ⟨fon1, fon2, fon3⟩, ⟨fwh1, fwh2, fwh3⟩, ⟨fod1, fod2, fod3⟩, fds, ⟨fin1, fin2, fin3⟩⟩, rfl, fr1, fr2, fr3⟩ := hE4
  unfold svC
  dsimp only
  clear HE hO fr1 fr2 fr3
  refine hK.out _ _ (⟨cell_later hY l0, cell_later hY l2, cell_later hY c0, cell_later hY c1, cell_later hY c2, cell_later hY c3, cell_later hY c4, cell_later hY c5, cell_later hY c6, cell_later hY c7, cell_later hY c8, cell_later hY c9, cell_later hY c10, cell_later hY c11, cell_later hY c12, cell_later hY c13, cell_later hY c14⟩) (fun hHeld => ?_)
  clear hK K
  (try simp only [Act.put, List.getElem_toArray, List.getElem_cons_zero, List.getElem_cons_succ, List.setIfInBounds_toArray, List.set_cons_zero, List.set_cons_succ])
  refine wpAnyH_ready (rs := [9]) (by kernel_rfl) (by simp) ?_
  refine AllReadyH.cons rfl (fun K hK => ?_) AllReadyH.nil
  go_simp
  have hO3 := hO2.alloc (.cells #[.string x.name, .slice fa fn fc, .int .i64 fk, .string ftb, .string fnm, .slice fco1 fco2 fco3, .slice fta1 fta2 fta3, .slice fva1 fva2 fva3, .slice fit1 fit2 fit3, .string fjn, .slice fon1 fon2 fon3, .slice fwh1 fwh2 fwh3, .slice fod1 fod2 fod3, .bool fds, .slice fin1 fin2 fin3] 68)
  have hs3 := hby2.size
  replace hY := bal hY (.cells #[.string x.name, .slice fa fn fc, .int .i64 fk, .string ftb, .string fnm, .slice fco1 fco2 fco3, .slice fta1 fta2 fta3, .slice fva1 fva2 fva3, .slice fit1 fit2 fit3, .string fjn, .slice fon1 fon2 fon3, .slice fwh1 fwh2 fwh3, .slice fod1 fod2 fod3, .bool fds, .slice fin1 fin2 fin3] 68)
  refine hK.out _ _ (⟨cell_later hY l0, cell_later hY l2, cell_later hY c0, cell_later hY c1, cell_later hY c2, cell_later hY c3, cell_later hY c4, cell_later hY c5, cell_later hY c6, cell_later hY c7, cell_later hY c8, cell_later hY c9, cell_later hY c10, cell_later hY c11, cell_later hY c12, cell_later hY c13, cell_later hY c14⟩) (fun hHeld => ?_)
  clear hK K
  (try simp only [Act.put, List.getElem_toArray, List.getElem_cons_zero, List.getElem_cons_succ, List.setIfInBounds_toArray, List.set_cons_zero, List.set_cons_succ])
  refine wpAnyH_ready (rs := [10]) (by kernel_rfl) (by simp) ?_
  refine AllReadyH.cons rfl (fun K hK => ?_) AllReadyH.nil
  have hUs : U.heap.size ≤ (y2.alloc (.cells #[.string x.name, .slice fa fn fc, .int .i64 fk, .string ftb, .string fnm, .slice fco1 fco2 fco3, .slice fta1 fta2 fta3, .slice fva1 fva2 fva3, .slice fit1 fit2 fit3, .string fjn, .slice fon1 fon2 fon3, .slice fwh1 fwh2 fwh3, .slice fod1 fod2 fod3, .bool fds, .slice fin1 fin2 fin3] 68)).heap.size := hY.size
  refine step_appR (B := hB0) rfl (.tmp 9) (.tmp 14) rfl Try.underlying24 Try.infoZVw rfl (by decide) (by decide) (.slice va vm vd) css y2.heap.size [.string x.name, .slice fa fn fc, .int .i64 fk, .string ftb, .string fnm, .slice fco1 fco2 fco3, .slice fta1 fta2 fta3, .slice fva1 fva2 fva3, .slice fit1 fit2 fit3, .string fjn, .slice fon1 fon2 fon3, .slice fwh1 fwh2 fwh3, .slice fod1 fod2 fod3, .bool fds, .slice fin1 fin2 fin3] rfl rfl (by subst hhB; exact hO3) rfl (by simp [Value.oneCell']) ?_ (by omega) (by subst hhB; rw [World.size_alloc]; omega) ?_
  · intro j hj
    have hj' : j < 15 := hj
    match j, hj' with
    | 0, _ => exact cell_new y2 _ _ _ 0
    | 1, _ => exact cell_new y2 _ _ _ 1
    | 2, _ => exact cell_new y2 _ _ _ 2
    | 3, _ => exact cell_new y2 _ _ _ 3
    | 4, _ => exact cell_new y2 _ _ _ 4
    | 5, _ => exact cell_new y2 _ _ _ 5
    | 6, _ => exact cell_new y2 _ _ _ 6
    | 7, _ => exact cell_new y2 _ _ _ 7
    | 8, _ => exact cell_new y2 _ _ _ 8
    | 9, _ => exact cell_new y2 _ _ _ 9
    | 10, _ => exact cell_new y2 _ _ _ 10
    | 11, _ => exact cell_new y2 _ _ _ 11
    | 12, _ => exact cell_new y2 _ _ _ 12
    | 13, _ => exact cell_new y2 _ _ _ 13
    | 14, _ => exact cell_new y2 _ _ _ 14
  intro v' w6 hO6 hg6 hown
  have hb6 : ∀ b, b < U.heap.size → w6.heap[b]? = U.heap[b]? := fun b hb => (hg6.block b (by omega) fun hbk => by have := (hblk b hbk.symm).1; omega).trans (hY.block b hb)
  have hY6 : Below U.heap.size U w6 := hY.trans ⟨hg6.os, hg6.tape, hg6.output, hg6.size, fun b hb => hg6.block b (by omega) fun hbk => by have := (hblk b hbk.symm).1; omega⟩
  have HN : Hid (∀ i (h1 : i < (l ++ [x]).length) (h2 : i < (css ++ [([.string x.name, .slice fa fn fc, .int .i64 fk, .string ftb, .string fnm, .slice fco1 fco2 fco3, .slice fta1 fta2 fta3, .slice fva1 fva2 fva3, .slice fit1 fit2 fit3, .string fjn, .slice fon1 fon2 fon3, .slice fwh1 fwh2 fwh3, .slice fod1 fod2 fod3, .bool fds, .slice fin1 fin2 fin3] : List Value)]).length), (eVw).E (fun b => w.heap.size ≤ b) w6 (l ++ [x])[i] (css ++ [([.string x.name, .slice fa fn fc, .int .i64 fk, .string ftb, .string fnm, .slice fco1 fco2 fco3, .slice fta1 fta2 fta3, .slice fva1 fva2 fva3, .slice fit1 fit2 fit3, .string fjn, .slice fon1 fon2 fon3, .slice fwh1 fwh2 fwh3, .slice fod1 fod2 fod3, .bool fds, .slice fin1 fin2 fin3] : List Value)])[i]) := hid fun i h1 h2 => by
    have hcl := Hcl.out
    by_cases hi : i < css.length
    · rw [List.getElem_append_left hi, List.getElem_append_left (by omega)]
      exact (eVw).mono (fun b hb _ => hb.1) ((eVw).grow ((eVw).keep (fun b _ hl => (bal (Below.refl _ y2) _).block b hl) (HE2.out i (by omega) hi)) hg6 (by simpa using hown))
    · rw [List.length_append, List.length_singleton] at h2
      obtain rfl : i = css.length := by omega
      rw [List.getElem_append_right (Nat.le_refl _), List.getElem_append_right (by omega)]
      have := (eVw).mono (fun b hb _ => hb.1) ((eVw).grow ((eVw).keep (w' := y2.alloc (.cells #[.string x.name, .slice fa fn fc, .int .i64 fk, .string ftb, .string fnm, .slice fco1 fco2 fco3, .slice fta1 fta2 fta3, .slice fva1 fva2 fva3, .slice fit1 fit2 fit3, .string fjn, .slice fon1 fon2 fon3, .slice fwh1 fwh2 fwh3, .slice fod1 fod2 fod3, .bool fds, .slice fin1 fin2 fin3] 68)) (fun b _ hl => (bal (Below.refl _ y2) _).block b hl) HEn.out) hg6 (by simpa using hown))
      have i0 : css.length - l.length = 0 := by omega
      have i1 : css.length - css.length = 0 := by omega
      simp only [i0, i1, List.getElem_cons_zero]
      exact this
  replace hY := hY6
  clear hY6 hg6 hown HE2 HEn hb6 hO3 hO2
  refine hK.out _ _ (⟨cell_later hY l0, cell_later hY l2, cell_later hY c0, cell_later hY c1, cell_later hY c2, cell_later hY c3, cell_later hY c4, cell_later hY c5, cell_later hY c6, cell_later hY c7, cell_later hY c8, cell_later hY c9, cell_later hY c10, cell_later hY c11, cell_later hY c12, cell_later hY c13, cell_later hY c14⟩) (fun hHeld => ?_)
  clear hK K
  (try simp only [Act.put, List.getElem_toArray, List.getElem_cons_zero, List.getElem_cons_succ, List.setIfInBounds_toArray, List.set_cons_zero, List.set_cons_succ])
  refine wpAnyH_ready (rs := [11]) (by kernel_rfl) (by simp) ?_
  refine AllReadyH.cons rfl (fun K hK => ?_) AllReadyH.nil
  go_simp
  refine hK.out _ _ (⟨cell_later hY l0, cell_later hY l2, cell_later hY c0, cell_later hY c1, cell_later hY c2, cell_later hY c3, cell_later hY c4, cell_later hY c5, cell_later hY c6, cell_later hY c7, cell_later hY c8, cell_later hY c9, cell_later hY c10, cell_later hY c11, cell_later hY c12, cell_later hY c13, cell_later hY c14⟩) (fun hHeld => ?_)
  clear hK K
  (try simp only [Act.put, List.getElem_toArray, List.getElem_cons_zero, List.getElem_cons_succ, List.setIfInBounds_toArray, List.set_cons_zero, List.set_cons_succ])
  refine wpAnyH_done (by kernel_rfl) ?_ _
  obtain ⟨a5, n5, d5, rfl⟩ := hO6.sl
  go_wp2
  go_ret
  exact ⟨_, _, _, rfl, OwnR.rowE (e := eVw) hO6 (by rw [List.length_append, List.length_append, List.length_singleton, List.length_singleton, Hcl.out]) (fun b hb _ => by subst hhB; omega) HN.out, Below.trans hw (hY.mono hw.size)⟩

end Go.Proofs.Ytnboooaockgoiab
/- Labels of no tags: the walks of Norm and own.May at nil. -/
namespace Go.Proofs.Ytnboooaockgoiab
open Go.RowKit
set_option linter.unusedVariables false
set_option linter.unusedSimpArgs false

theorem app_nil (t u ty : TypeId) (e : TypeId) (ht : Try.prog.underlying t = some (.slice e)) (hu : Try.prog.underlying u = some (.slice e)) (i : TypeInfo) (hi : Try.prog.info? e = some i) (w : World) : (Builtin.append_ #[t, u] ty #[.slice none 0 0, .slice none 0 0]).run Try.prog w = .ok (.slice none 0 0) w := by
  simp [Builtin.append_, run_underlying ht, run_underlying hu, sizeOf, typeInfo, hi, Builtin.lenOf, Builtin.firstCells]
theorem rises_nil (w : World) : Calls Try.prog 63 #[.slice none 0 0] w fun e w' => e = .returned (.bool true) ∧ Below w.heap.size w w' := by
  go_enter Try.func63, Try.ntmps63
  go_wp2
  go_loopw [3] (fun v wr => v = .int .i64 1 ∧ wr = w) (fun _ _ => 0)
  case atStart => exact ⟨rfl, rfl⟩
  case round =>
    obtain ⟨rfl, rfl⟩ := hrel
    go_wp2
    go_ret
    exact ⟨rfl, Below.refl _ _⟩
theorem ordered_nil (w : World) : Calls Try.prog 47 #[.slice none 0 0] w fun e w' => e = .returned (.slice none 0 0) ∧ Below w.heap.size w w' := by
  have H : Hid _ := hid (rises_nil w)
  go_enter Try.func47, Try.ntmps47
  go_wp2_with fail
  refine Calls.mono H.out ?_
  rintro e w1 ⟨rfl, hb⟩
  clear H
  go_wp2
  go_ret
  exact ⟨rfl, hb⟩
theorem norm_nil (w : World) : Calls Try.prog 26 #[.slice none 0 0] w fun e w' => e = .returned (.tuple #[.slice none 0 0, .int .i64 0]) ∧ Below w.heap.size w w' := by
  have H : Hid _ := hid (ordered_nil w)
  obtain ⟨i, hi, hz, hsz, hb⟩ := info_parts Try.infoZTag
  have ha := fun ty w => app_nil 49 29 ty _ Try.underlying49 Try.underlying29 i hi w
  clear hi hz hsz hb
  go_enter Try.func26, Try.ntmps26
  go_wp2_with fail
  refine Calls.mono H.out ?_
  rintro e w1 ⟨rfl, hb⟩
  clear H
  go_wp2
  exact bodyPost_ret (v := .tuple #[.slice none 0 0, .int .i64 0]) (by simp [results, Try.results26]) rfl ⟨rfl, hb⟩
set_option maxRecDepth 100000 in
theorem merge_nil (w : World) : Calls Try.prog 69 #[.slice none 0 0, .slice none 0 0, .agg #[.bool true, .bool false, .bool false]] w fun e w' => e = .returned (.slice none 0 0) ∧ Below w.heap.size w w' := by
  obtain ⟨i, hi, hz, hsz, hb⟩ := info_parts Try.infoZTag
  have ha := fun ty w => app_nil 29 29 ty _ Try.underlying29 Try.underlying29 i hi w
  clear hi hz hsz hb
  go_enter Try.func69, Try.ntmps69
  go_wp2
  go_loopw [0, 1, 7] (fun a b o wr => a = .slice none 0 0 ∧ b = .slice none 0 0 ∧ o = .slice none 0 0 ∧ wr = w.alloc (.cells #[.bool true, .bool false, .bool false] 118)) (fun _ _ _ _ => 0)
  case atStart => exact ⟨rfl, rfl, rfl, rfl⟩
  case round =>
    obtain ⟨rfl, rfl, rfl, rfl⟩ := hrel
    go_wp2
    go_ret
    exact ⟨rfl, bal (Below.refl _ _) _⟩
theorem minus_nil (w : World) : Calls Try.prog 62 #[.slice none 0 0, .slice none 0 0] w fun e w' => e = .returned (.slice none 0 0) ∧ Below w.heap.size w w' := by
  have H : Hid (∀ w, _) := hid fun w => ordered_nil w
  have H2 : Hid (∀ w, _) := hid fun w => merge_nil w
  go_enter Try.func62, Try.ntmps62
  go_wp2_with fail
  refine Calls.mono (H.out _) ?_
  rintro e w1 ⟨rfl, hb⟩
  go_wp2_with fail
  refine Calls.mono (H.out _) ?_
  rintro e w2 ⟨rfl, hb2⟩
  go_wp2_with fail
  refine Calls.mono (H2.out _) ?_
  rintro e w3 ⟨rfl, hb3⟩
  have hW := Below.on (Below.on hb hb2) hb3
  clear H H2 hb hb2 hb3
  go_wp2
  go_ret
  exact ⟨rfl, hW⟩
set_option maxRecDepth 100000 in
theorem left_nil (w : World) {b : Nat} (hb : w.cell? ⟨b, 0, none⟩ = some (.slice none 0 0)) : Calls Try.prog 61 #[.func (.func 62) #[] #[], .slice none 0 0, .slice (some ⟨b, 0, none⟩) 1 1] w fun e w' => e = .returned (.slice none 0 0) ∧ Below w.heap.size w w' := by
  have H : Hid (∀ w, _) := hid fun w => minus_nil w
  have hcf : ∀ args w', (callFunc 62 args).run Try.prog w' = .ok (.enter 62 args) w' := fun _ _ => rfl
  go_enter Try.func61, Try.ntmps61
  go_wp2
  go_loopw [1, 11] (fun s v wr => ∃ k : Nat, k ≤ 1 ∧ s = .slice none 0 0 ∧ v = .int .i64 k ∧ Below w.heap.size w wr) (fun _ i _ => 1 - (intOf i).toNat)
  case atStart => exact ⟨0, by omega, rfl, rfl, Below.refl _ _⟩
  case round =>
    obtain ⟨k, hk, rfl, rfl, hB⟩ := hrel
    rcases (show k = 0 ∨ k = 1 by omega) with rfl | rfl
    · have h0 := cell_later hB hb
      go_wp2_with fail
      refine Calls.mono (H.out _) ?_
      rintro e w1 ⟨rfl, hb1⟩
      have hB1 := Below.on hB hb1
      clear H hb1 hB h0
      go_wp2
      go_roundw
      case rel => exact ⟨1, by omega, rfl, by go_num, hB1⟩
      case measure => simp only [intOf]; omega
    · go_wp2
      go_ret
      exact ⟨rfl, hB⟩
theorem ownMay_nil (w : World) : Calls Try.prog 45 #[.slice none 0 0, .slice none 0 0] w fun e w' => e = .returned (.int .i64 0) ∧ Below w.heap.size w w' := by
  have H : Hid (∀ w, _) := hid fun w => norm_nil w
  go_enter Try.func45, Try.ntmps45
  go_wp2_with fail
  refine Calls.mono (H.out _) ?_
  rintro e w1 ⟨rfl, hb⟩
  have H2 : Hid _ := hid (left_nil (w1.alloc (.cells #[.slice none 0 0] 49)) (cell_new w1 _ _ _ 0))
  have hW := bal hb (.cells #[.slice none 0 0] 49)
  clear H
  go_wp2_with fail
  refine Calls.mono H2.out ?_
  rintro e w2 ⟨rfl, hb2⟩
  replace hW := Below.on hW hb2
  clear H2 hb hb2
  go_wp2
  go_ret
  exact ⟨rfl, hW⟩

end Go.Proofs.Ytnboooaockgoiab
/- What a door of no tags may be. -/
namespace Go.Proofs.Ytnboooaockgoiab
open Go.RowKit
set_option linter.unusedVariables false
set_option linter.unusedSimpArgs false

def mayDoorP (V : List Vw) (name : ByteArray) : Int := if V.any (fun t => eqS t.name name) = true then 12 else if 8 ≤ V.length then 25 else 0
theorem standIn36 (w : World) : Calls Try.prog 46 #[.int .i64 3, .int .i64 6] w fun e w' => e = .returned (.bool true) ∧ w' = w := by
  go_enter Try.func46, Try.ntmps46
  go_wp2
  go_ret
  exact ⟨rfl, rfl⟩
set_option maxRecDepth 100000 in
set_option maxHeartbeats 4000000 in
theorem mayDoor_nil {V : List Vw} (hV5 : V.length ≤ 500) {w : World} (ta : Option Addr) (tn tc : Nat) {vb : Option Addr} {vm vd : Nat} (hV : RowIs eVw (fun _ => True) w (.slice vb vm vd) V) (stb : ByteArray) {snm : ByteArray} (co1 : Option Addr) (co2 co3 : Nat) (va1 : Option Addr) (va2 va3 : Nat) (it1 : Option Addr) (it2 it3 : Nat) (sjn : ByteArray) (on1 : Option Addr) (on2 on3 : Nat) (wh1 : Option Addr) (wh2 wh3 : Nat) (od1 : Option Addr) (od2 od3 : Nat) (sds : Bool) {ib : Nat} (hi : w.cell? ⟨ib, 0, none⟩ = some (.int .i64 6)) :
    Calls Try.prog 25 #[.agg #[.slice ta tn tc, .slice vb vm vd], .agg #[.int .i64 3, .string stb, .string snm, .slice co1 co2 co3, .slice none 0 0, .slice va1 va2 va3, .slice it1 it2 it3, .string sjn, .slice on1 on2 on3, .slice wh1 wh2 wh3, .slice od1 od2 od3, .bool sds, .slice (some ⟨ib, 0, none⟩) 1 1], .slice none 0 0] w fun e w' => e = .returned (.int .i64 (mayDoorP V snm)) ∧ Below w.heap.size w w' := by
  have H1 : Hid (∀ w, _) := hid fun w => views_any ta tn tc vb vm vd w
  have H2 : Hid (∀ w', Below w.heap.size w w' → _) := hid fun w' hb => hasVw_any hV5 name_vw snm (C := 21) (hV.keep (by decide) fun b _ hl => hb.block b hl)
  have H3 : Hid (∀ w, _) := hid fun w => ownMay_nil w
  have H4 : Hid (∀ w, _) := hid fun w => standIn36 w
  have hvl : V.length = vm := by obtain ⟨_, _, _, e, hn, _⟩ := id hV; cases e; exact hn
  clear hV
  have hw : Below w.heap.size w ((w.alloc (.cells #[.slice ta tn tc, .slice vb vm vd] 26)).alloc (.cells #[.int .i64 3, .string stb, .string snm, .slice co1 co2 co3, .slice none 0 0, .slice va1 va2 va3, .slice it1 it2 it3, .string sjn, .slice on1 on2 on3, .slice wh1 wh2 wh3, .slice od1 od2 od3, .bool sds, .slice (some ⟨ib, 0, none⟩) 1 1] 34)) := bal (bal (Below.refl _ _) _) _
  have s0 := cell_later (bal (Below.refl _ _) (.cells #[.int .i64 3, .string stb, .string snm, .slice co1 co2 co3, .slice none 0 0, .slice va1 va2 va3, .slice it1 it2 it3, .string sjn, .slice on1 on2 on3, .slice wh1 wh2 wh3, .slice od1 od2 od3, .bool sds, .slice (some ⟨ib, 0, none⟩) 1 1] 34)) (cell_new w #[.slice ta tn tc, .slice vb vm vd] 26 (0, 0) 0)
  have s1 := cell_later (bal (Below.refl _ _) (.cells #[.int .i64 3, .string stb, .string snm, .slice co1 co2 co3, .slice none 0 0, .slice va1 va2 va3, .slice it1 it2 it3, .string sjn, .slice on1 on2 on3, .slice wh1 wh2 wh3, .slice od1 od2 od3, .bool sds, .slice (some ⟨ib, 0, none⟩) 1 1] 34)) (cell_new w #[.slice ta tn tc, .slice vb vm vd] 26 (0, 0) 1)
  have c0 := (cell_new (w.alloc (.cells #[.slice ta tn tc, .slice vb vm vd] 26)) #[.int .i64 3, .string stb, .string snm, .slice co1 co2 co3, .slice none 0 0, .slice va1 va2 va3, .slice it1 it2 it3, .string sjn, .slice on1 on2 on3, .slice wh1 wh2 wh3, .slice od1 od2 od3, .bool sds, .slice (some ⟨ib, 0, none⟩) 1 1] 34 (0, 0) 0)
  have c2 := (cell_new (w.alloc (.cells #[.slice ta tn tc, .slice vb vm vd] 26)) #[.int .i64 3, .string stb, .string snm, .slice co1 co2 co3, .slice none 0 0, .slice va1 va2 va3, .slice it1 it2 it3, .string sjn, .slice on1 on2 on3, .slice wh1 wh2 wh3, .slice od1 od2 od3, .bool sds, .slice (some ⟨ib, 0, none⟩) 1 1] 34 (0, 0) 2)
  have c4 := (cell_new (w.alloc (.cells #[.slice ta tn tc, .slice vb vm vd] 26)) #[.int .i64 3, .string stb, .string snm, .slice co1 co2 co3, .slice none 0 0, .slice va1 va2 va3, .slice it1 it2 it3, .string sjn, .slice on1 on2 on3, .slice wh1 wh2 wh3, .slice od1 od2 od3, .bool sds, .slice (some ⟨ib, 0, none⟩) 1 1] 34 (0, 0) 4)
  have c12 := (cell_new (w.alloc (.cells #[.slice ta tn tc, .slice vb vm vd] 26)) #[.int .i64 3, .string stb, .string snm, .slice co1 co2 co3, .slice none 0 0, .slice va1 va2 va3, .slice it1 it2 it3, .string sjn, .slice on1 on2 on3, .slice wh1 wh2 wh3, .slice od1 od2 od3, .bool sds, .slice (some ⟨ib, 0, none⟩) 1 1] 34 (0, 0) 12)
  rw [World.size_alloc] at c0 c2 c4 c12
  simp only [List.getElem?_toArray, List.getElem?_cons_zero, List.getElem?_cons_succ] at c0 c2 c4 c12
  replace hi := cell_later hw hi
  obtain ⟨G, hG⟩ : ∃ G, mayDoorP V snm = G := ⟨_, rfl⟩
  rw [hG]
  have HG : Hid _ := hid hG
  have Hvl : Hid _ := hid hvl
  have ht5 : vm ≤ 500 := by omega
  clear hG hvl
  go_enter Try.func25, Try.ntmps25
  go_upto_region 1 with fail
  generalize (w.alloc (.cells #[.slice ta tn tc, .slice vb vm vd] 26)).alloc (.cells #[.int .i64 3, .string stb, .string snm, .slice co1 co2 co3, .slice none 0 0, .slice va1 va2 va3, .slice it1 it2 it3, .string sjn, .slice on1 on2 on3, .slice wh1 wh2 wh3, .slice od1 od2 od3, .bool sds, .slice (some ⟨ib, 0, none⟩) 1 1] 34) = U at *
  have hY : Below U.heap.size U U.drew := (Below.refl _ _).drew
  refine wp_region_held_drew (S := fun w' => w'.cell? ⟨w.heap.size, 0, none⟩ = some (.slice ta tn tc) ∧ w'.cell? ⟨w.heap.size, 1, none⟩ = some (.slice vb vm vd) ∧ w'.cell? ⟨w.heap.size + 1, 2, none⟩ = some (.string snm)) (by kernel_rfl) (⟨cell_later hY s0, cell_later hY s1, cell_later hY c2⟩) (fun hHeld => ?_)
  refine wpAnyH_take (i := 0) (v := ?tv59) rfl (by kernel_rfl) (by kernel_rfl) (by kernel_rfl) (fun _ _ _ h => h) (Or.inl ⟨by rfl, ?hy59⟩) (by assumption) ?rs59
  case hy59 => (intro w9 hSw; (try dsimp only at hSw); go_simp; (try with_reducible rfl))
  (try simp only [Act.put, List.getElem_toArray, List.getElem_cons_zero, List.getElem_cons_succ, List.setIfInBounds_toArray, List.set_cons_zero, List.set_cons_succ])
  refine wpAnyH_take (i := 2) (v := ?tv60) rfl (by kernel_rfl) (by kernel_rfl) (by kernel_rfl) (fun _ _ _ h => h) (Or.inl ⟨by rfl, ?hy60⟩) (by assumption) ?rs60
  case hy60 => (intro w9 hSw; (try dsimp only at hSw); go_simp; (try with_reducible rfl))
  (try simp only [Act.put, List.getElem_toArray, List.getElem_cons_zero, List.getElem_cons_succ, List.setIfInBounds_toArray, List.set_cons_zero, List.set_cons_succ])
  refine wpAnyH_take (i := 3) (v := ?tv61) rfl (by kernel_rfl) (by kernel_rfl) (by kernel_rfl) (fun _ _ _ h => h) (Or.inl ⟨by rfl, ?hy61⟩) (by assumption) ?rs61
  case hy61 => (intro w9 hSw; (try dsimp only at hSw); go_simp; (try with_reducible rfl))
  (try simp only [Act.put, List.getElem_toArray, List.getElem_cons_zero, List.getElem_cons_succ, List.setIfInBounds_toArray, List.set_cons_zero, List.set_cons_succ])
  refine wpAnyH_ready (rs := [1]) (by kernel_rfl) (by simp) ?_
  refine AllReadyH.cons rfl (fun K hK => ?_) AllReadyH.nil
  go_simp
  go_wp2_with (first | (go_at_call 29; (refine Calls.mono (H1.out _) ?_); rintro e y ⟨rfl, hby⟩; replace hY := Below.on hY hby))
  refine hK.out _ _ (⟨cell_later hY s0, cell_later hY s1, cell_later hY c2⟩) (fun hHeld => ?_)
  clear hK K
  (try simp only [Act.put, List.getElem_toArray, List.getElem_cons_zero, List.getElem_cons_succ, List.setIfInBounds_toArray, List.set_cons_zero, List.set_cons_succ])
  refine wpAnyH_ready (rs := [4]) (by kernel_rfl) (by simp) ?_
  refine AllReadyH.cons rfl (fun K hK => ?_) AllReadyH.nil
  go_simp
  go_wp2_with (first | (go_at_call 44; (refine Calls.mono (H2.out _ (Below.trans hw (hY.mono hw.size))) ?_); rintro e y ⟨rfl, hby⟩; replace hY := Below.on hY hby))
  refine hK.out _ _ (⟨cell_later hY s0, cell_later hY s1, cell_later hY c2⟩) (fun hHeld => ?_)
  clear hK K
  (try simp only [Act.put, List.getElem_toArray, List.getElem_cons_zero, List.getElem_cons_succ, List.setIfInBounds_toArray, List.set_cons_zero, List.set_cons_succ])
  refine wpAnyH_ready (rs := [5]) (by kernel_rfl) (by simp) ?_
  refine AllReadyH.cons rfl (fun K hK => ?_) AllReadyH.nil
  go_simp
  refine hK.out _ _ (⟨cell_later hY s0, cell_later hY s1, cell_later hY c2⟩) (fun hHeld => ?_)
  clear hK K
  (try simp only [Act.put, List.getElem_toArray, List.getElem_cons_zero, List.getElem_cons_succ, List.setIfInBounds_toArray, List.set_cons_zero, List.set_cons_succ])
  refine wpAnyH_done (by kernel_rfl) ?_ _
  have hW := Below.trans hw (hY.mono hw.size)
  replace s0 := cell_later hY s0
  replace s1 := cell_later hY s1
  replace c0 := cell_later hY c0
  replace c4 := cell_later hY c4
  replace c12 := cell_later hY c12
  replace hi := cell_later hY hi
  clear hHeld hY H1 H2 c2
  cases h1 : V.any (fun x => eqS x.name snm) with
  | true =>
    have hg : G = 12 := by rw [← HG.out, mayDoorP, if_pos h1]
    subst hg
    clear HG h1 H3 H4
    go_wp2
    go_ret
    exact ⟨rfl, hW⟩
  | false =>
  by_cases h8 : 8 ≤ V.length
  · have hg : G = 25 := by rw [← HG.out, mayDoorP, if_neg (by rw [h1]; simp), if_pos h8]
    subst hg
    have ht9 : (8 : Int) ≤ (vm : Int) := by have := Hvl.out; omega
    clear HG h1 H3 H4 h8
    go_wp2
    go_ret
    exact ⟨rfl, hW⟩
  have ht8 : ¬ (8 : Int) ≤ (vm : Int) := by have := Hvl.out; omega
  have hg : G = 0 := by rw [← HG.out, mayDoorP, if_neg (by rw [h1]; simp), if_neg h8]
  subst hg
  clear HG h1 h8
  go_wp2_with fail
  refine Calls.mono (H3.out _) ?_
  rintro e y2 ⟨rfl, hb2⟩
  have hW2 := Below.on hW hb2
  replace c0 := cell_later hb2 c0
  replace c12 := cell_later hb2 c12
  replace hi := cell_later hb2 hi
  clear H3 hb2 hW s0 s1 c4
  go_wp2
  go_quiet (exact Calls.quiet_of_same (H4.out _))
  go_wp2
  go_ret
  exact ⟨rfl, below_drewN hW2 _⟩

end Go.Proofs.Ytnboooaockgoiab
