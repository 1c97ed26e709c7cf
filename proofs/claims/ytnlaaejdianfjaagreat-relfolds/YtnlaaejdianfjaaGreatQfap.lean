import Derived.Test.YtnlaaejdianfjaaGreatQfao
namespace Go.Proofs.YtnlaaejdianfjaaGreat
open Go.RowKit
set_option linter.unusedVariables false
set_option linter.unusedSimpArgs false

/-- What is made of v and of what is made already. -/
def wiP (t : Ta) (v : Vt) : Vt × Int := if t.1 = 2 then suP t.2.2.2.1 v else if t.2.2.1 = 1 then (v, 0) else if t.1 = 3 then (if cmpVt v t.2.2.2.1 < 0 then v else t.2.2.2.1, 0) else (if cmpVt t.2.2.2.1 v < 0 then v else t.2.2.2.1, 0)
set_option maxRecDepth 100000 in
set_option maxHeartbeats 8000000 in
theorem with_any {w : World} {b : Nat} {t : Ta} (hb : Bk w b (taO t)) (v : Vt) (ft : t.1 = 2 → Fits t.2.2.2.1.2.1 ∧ Fits v.2.1) :
    Calls Tryz.prog 98 #[.pointer (some ⟨b, 0, none⟩), vV v] w fun e w' => e = .returned (.tuple #[vV (wiP t v).1, .int .i64 (wiP t v).2]) ∧ Below w.heap.size w w' := by
  obtain ⟨t0, t1, t2, ⟨t3, t4, t5⟩, t6⟩ := t
  obtain ⟨v0, v1, v2⟩ := v
  have hw := bal (bal (Below.refl w.heap.size w) (.cells #[.int .i64 v0, .int .i64 v1, .string v2] 44)) zV
  have hbl := hb.lt
  have bq := (Bk.new w (.cells #[.int .i64 v0, .int .i64 v1, .string v2] 44)).later (bal (Below.refl _ _) zV)
  have bz : Bk ((w.alloc (.cells #[.int .i64 v0, .int .i64 v1, .string v2] 44)).alloc zV) (w.heap.size + 1) zV := by
    have := Bk.new (w.alloc (.cells #[.int .i64 v0, .int .i64 v1, .string v2] 44)) zV
    rwa [World.size_alloc] at this
  obtain ⟨d0, d1, d2, d3, d4, d5, d6⟩ := (hb.later hw).taC
  dsimp only at d0 d1 d2 d3 d4 d5 d6
  obtain ⟨q0, q1, q2⟩ := (⟨bq.row⟩ : Bv _ w.heap.size v0 v1 v2).cells
  have HSu : Hid (t0 = 2 → ∀ w', Calls Tryz.prog 127 #[vV (t3, t4, t5), vV (v0, v1, v2)] w' fun e w'' => e = .returned (.tuple #[vV (suP (t3, t4, t5) (v0, v1, v2)).1, .int .i64 (suP (t3, t4, t5) (v0, v1, v2)).2]) ∧ Below w'.heap.size w' w'') := hid fun h w' => sum_any _ _ (ft h).1 (ft h).2 w'
  have HF1 : Hid (∀ w', Calls Tryz.prog 128 #[.func (.func 78) #[] #[], vV (t3, t4, t5), vV (v0, v1, v2)] w' fun e w'' => e = .returned (vV (if cmpVt (v0, v1, v2) (t3, t4, t5) < 0 then (v0, v1, v2) else (t3, t4, t5))) ∧ Below w'.heap.size w' w'') := hid fun w' => foremost_any (cmpV_plain w') _ _
  have HF2 : Hid (∀ w' u, CmpV w' u (fun x y => cmpVt y x) → Calls Tryz.prog 128 #[u, vV (t3, t4, t5), vV (v0, v1, v2)] w' fun e w'' => e = .returned (vV (if cmpVt (t3, t4, t5) (v0, v1, v2) < 0 then (v0, v1, v2) else (t3, t4, t5))) ∧ Below w'.heap.size w' w'') := hid fun w' u h => foremost_any h _ _
  have HFa : Hid (∀ w', _) := hid fun w' => falling_any (cmpV_plain w')
  obtain ⟨T, hT⟩ : ∃ T, wiP (t0, t1, t2, (t3, t4, t5), t6) (v0, v1, v2) = T := ⟨_, rfl⟩
  have HT : Hid (T = if t0 = 2 then suP (t3, t4, t5) (v0, v1, v2) else if t2 = 1 then ((v0, v1, v2), 0) else if t0 = 3 then (if cmpVt (v0, v1, v2) (t3, t4, t5) < 0 then (v0, v1, v2) else (t3, t4, t5), 0) else (if cmpVt (t3, t4, t5) (v0, v1, v2) < 0 then (v0, v1, v2) else (t3, t4, t5), 0)) := hid hT.symm
  rw [hT]
  generalize suP (t3, t4, t5) (v0, v1, v2) = SU at *
  generalize (if cmpVt (v0, v1, v2) (t3, t4, t5) < 0 then (v0, v1, v2) else (t3, t4, t5)) = M1 at *
  generalize (if cmpVt (t3, t4, t5) (v0, v1, v2) < 0 then (v0, v1, v2) else (t3, t4, t5)) = M2 at *
  obtain ⟨q, hq⟩ : ∃ q, w.heap.size = q := ⟨_, rfl⟩
  rw [hq] at bq bz hbl q0 q1 q2
  obtain ⟨z, hz⟩ : ∃ z, q + 1 = z := ⟨_, rfl⟩
  rw [hz] at bz
  clear ft hb bq hT
  go_enter Tryz.func98, Tryz.ntmps98
  go_upto_region 1 with fail
  (try rw [hq])
  (try rw [hz])
  generalize (w.alloc (.cells #[.int .i64 v0, .int .i64 v1, .string v2] 44)).alloc zV = W at *
  have hwz := Bk.lt bz
  by_cases h2 : t0 = 2
  · subst h2
    have hR : T = SU := by rw [HT.out, if_pos rfl]
    subst hR
    have HS2 : Hid _ := hid (HSu.out rfl)
    obtain ⟨⟨s0, s1, s2⟩, sE⟩ := T
    dsimp only at HS2
    clear HT HSu HF1 HF2 HFa
    go_upto_region 2 with fail
    have bx : Bk W.drew z zV := ⟨bz.row⟩
    have hY : Below W.heap.size W W.drew := (Below.refl _ W).drew
    refine wp_region_held_drew (S := fun w' => w'.cell? ⟨b, 3, none⟩ = some (.int .i64 t3) ∧ w'.cell? ⟨b, 4, none⟩ = some (.int .i64 t4) ∧ w'.cell? ⟨b, 5, none⟩ = some (.string t5) ∧ w'.cell? ⟨q, 0, none⟩ = some (.int .i64 v0) ∧ w'.cell? ⟨q, 1, none⟩ = some (.int .i64 v1) ∧ w'.cell? ⟨q, 2, none⟩ = some (.string v2)) (by kernel_rfl) (⟨cell_later hY d3, cell_later hY d4, cell_later hY d5, cell_later hY q0, cell_later hY q1, cell_later hY q2⟩) (fun hHeld => ?_)
    generalize W.drew = y at *
    refine wpAnyH_take (i := 0) (v := ?tv5001) rfl (by kernel_rfl) (by kernel_rfl) (by kernel_rfl) (fun _ _ _ h => h) (Or.inl ⟨by rfl, ?hy5001⟩) (by assumption) ?rs5001
    case hy5001 => (intro w9 hSw; (try dsimp only at hSw); go_simp; (try with_reducible rfl))
    (try simp only [Act.put, List.getElem_toArray, List.getElem_cons_zero, List.getElem_cons_succ, List.setIfInBounds_toArray, List.set_cons_zero, List.set_cons_succ])
    refine wpAnyH_take (i := 1) (v := ?tv5002) rfl (by kernel_rfl) (by kernel_rfl) (by kernel_rfl) (fun _ _ _ h => h) (Or.inl ⟨by rfl, ?hy5002⟩) (by assumption) ?rs5002
    case hy5002 => (intro w9 hSw; (try dsimp only at hSw); go_simp; (try with_reducible rfl))
    (try simp only [Act.put, List.getElem_toArray, List.getElem_cons_zero, List.getElem_cons_succ, List.setIfInBounds_toArray, List.set_cons_zero, List.set_cons_succ])
    refine wpAnyH_take (i := 2) (v := ?tv5003) rfl (by kernel_rfl) (by kernel_rfl) (by kernel_rfl) (fun _ _ _ h => h) (Or.inl ⟨by rfl, ?hy5003⟩) (by assumption) ?rs5003
    case hy5003 => (intro w9 hSw; (try dsimp only at hSw); go_simp; (try with_reducible rfl))
    (try simp only [Act.put, List.getElem_toArray, List.getElem_cons_zero, List.getElem_cons_succ, List.setIfInBounds_toArray, List.set_cons_zero, List.set_cons_succ])
    refine wpAnyH_take (i := 3) (v := ?tv5004) rfl (by kernel_rfl) (by kernel_rfl) (by kernel_rfl) (fun _ _ _ h => h) (Or.inl ⟨by rfl, ?hy5004⟩) (by assumption) ?rs5004
    case hy5004 => (intro w9 hSw; (try dsimp only at hSw); go_simp; (try with_reducible rfl))
    (try simp only [Act.put, List.getElem_toArray, List.getElem_cons_zero, List.getElem_cons_succ, List.setIfInBounds_toArray, List.set_cons_zero, List.set_cons_succ])
    refine wpAnyH_take (i := 4) (v := ?tv5005) rfl (by kernel_rfl) (by kernel_rfl) (by kernel_rfl) (fun _ _ _ h => h) (Or.inl ⟨by rfl, ?hy5005⟩) (by assumption) ?rs5005
    case hy5005 => (intro w9 hSw; (try dsimp only at hSw); go_simp; (try with_reducible rfl))
    (try simp only [Act.put, List.getElem_toArray, List.getElem_cons_zero, List.getElem_cons_succ, List.setIfInBounds_toArray, List.set_cons_zero, List.set_cons_succ])
    refine wpAnyH_ready (rs := [5]) (by kernel_rfl) (by simp) ?_
    refine AllReadyH.cons rfl (fun K hK => ?_) AllReadyH.nil
    go_simp
    go_wp2_with (first | (go_at_call 127; (refine Calls.mono (HS2.out _) ?_); rintro e y ⟨rfl, hby⟩; replace bx := bx.later hby; replace hY := Below.on hY hby))
    refine hK.out _ _ (⟨cell_later hY d3, cell_later hY d4, cell_later hY d5, cell_later hY q0, cell_later hY q1, cell_later hY q2⟩) (fun hHeld => ?_)
    clear hK K
    (try simp only [Act.put, List.getElem_toArray, List.getElem_cons_zero, List.getElem_cons_succ, List.setIfInBounds_toArray, List.set_cons_zero, List.set_cons_succ])
    refine wpAnyH_take (i := 6) (v := ?tv5006) rfl (by kernel_rfl) (by kernel_rfl) (by kernel_rfl) (fun _ _ _ h => h) (Or.inl ⟨by rfl, ?hy5006⟩) (by assumption) ?rs5006
    case hy5006 => (intro w9 hSw; (try dsimp only at hSw); go_simp; (try with_reducible rfl))
    (try simp only [Act.put, List.getElem_toArray, List.getElem_cons_zero, List.getElem_cons_succ, List.setIfInBounds_toArray, List.set_cons_zero, List.set_cons_succ])
    refine wpAnyH_take (i := 7) (v := ?tv5007) rfl (by kernel_rfl) (by kernel_rfl) (by kernel_rfl) (fun _ _ _ h => h) (Or.inl ⟨by rfl, ?hy5007⟩) (by assumption) ?rs5007
    case hy5007 => (intro w9 hSw; (try dsimp only at hSw); go_simp; (try with_reducible rfl))
    (try simp only [Act.put, List.getElem_toArray, List.getElem_cons_zero, List.getElem_cons_succ, List.setIfInBounds_toArray, List.set_cons_zero, List.set_cons_succ])
    refine wpAnyH_ready (rs := [8]) (by kernel_rfl) (by simp) ?_
    refine AllReadyH.cons rfl (fun K hK => ?_) AllReadyH.nil
    have hth : y.there z 0 3 := bx.there rfl
    have z0 := stW_cell (l := [.int .i64 s0, .int .i64 s1, .string s2]) hth (j := 0) rfl
    have z1 := stW_cell (l := [.int .i64 s0, .int .i64 s1, .string s2]) hth (j := 1) rfl
    have z2 := stW_cell (l := [.int .i64 s0, .int .i64 s1, .string s2]) hth (j := 2) rfl
    rw [if_pos (by rfl)]
    refine wp_store_mid _ _ _ rfl z 0 (List.toArray [.int .i64 s0, .int .i64 s1, .string s2]) rfl rfl hth (by kernel_rfl) (by simp [Value.oneCell']) ?_
    show K _ (stW y z [.int .i64 s0, .int .i64 s1, .string s2])
    refine hK.out _ _ (⟨stW_far (by omega) (cell_later hY d3), stW_far (by omega) (cell_later hY d4), stW_far (by omega) (cell_later hY d5), stW_far (by omega) (cell_later hY q0), stW_far (by omega) (cell_later hY q1), stW_far (by omega) (cell_later hY q2)⟩) (fun hHeld => ?_)
    clear hK K hth
    (try simp only [Act.put, List.getElem_toArray, List.getElem_cons_zero, List.getElem_cons_succ, List.setIfInBounds_toArray, List.set_cons_zero, List.set_cons_succ])
    refine wpAnyH_ready (rs := [9]) (by kernel_rfl) (by simp) ?_
    refine AllReadyH.cons rfl (fun K hK => ?_) AllReadyH.nil
    go_simp
    refine hK.out _ _ (⟨stW_far (by omega) (cell_later hY d3), stW_far (by omega) (cell_later hY d4), stW_far (by omega) (cell_later hY d5), stW_far (by omega) (cell_later hY q0), stW_far (by omega) (cell_later hY q1), stW_far (by omega) (cell_later hY q2)⟩) (fun hHeld => ?_)
    clear hK K
    (try simp only [Act.put, List.getElem_toArray, List.getElem_cons_zero, List.getElem_cons_succ, List.setIfInBounds_toArray, List.set_cons_zero, List.set_cons_succ])
    refine wpAnyH_done (by kernel_rfl) ?_ _
    clear hHeld
    clear bx
    have hBz := stW_below (l := [.int .i64 s0, .int .i64 s1, .string s2]) (b := z) (Below.on hw hY) (by omega)
    generalize stW y z [.int .i64 s0, .int .i64 s1, .string s2] = Y at *
    clear hY d0 d1 d2 d3 d4 d5 d6 q0 q1 q2
    go_wp2
    exact bodyPost_ret (v := .tuple #[vV (s0, s1, s2), .int .i64 sE]) (by simp [results, Tryz.results98, go_sem, z0, z1, z2]) rfl (by first | exact ⟨rfl, hBz⟩ | exact ⟨rfl, hq ▸ hBz⟩)
  have k2 : decide (t0 = 2) = false := by simpa using h2
  have l2 : (t0 == 2) = false := by simpa using h2
  by_cases h1 : t2 = 1
  · subst h1
    have hR : T = ((v0, v1, v2), 0) := by rw [HT.out, if_neg h2, if_pos rfl]
    subst hR
    obtain ⟨c0, c1, c2⟩ := (⟨bz.row⟩ : Bv W z 0 0 ⟨#[]⟩).cells
    obtain ⟨f0, f1, f2⟩ := (⟨bz.row⟩ : Bv W z 0 0 ⟨#[]⟩).free
    clear HT HSu HF1 HF2 HFa bz
    go_wp2
    exact bodyPost_ret (v := .tuple #[vV (v0, v1, v2), .int .i64 0]) (by simp [results, Tryz.results98, go_sem, c0, c1, c2]) rfl (by first | exact ⟨rfl, below3 hw (by omega) _ _ _⟩ | exact ⟨rfl, hq ▸ below3 hw (by omega) _ _ _⟩)
  have k1 : decide (t2 = 1) = false := by simpa using h1
  have l1 : (t2 == 1) = false := by simpa using h1
  by_cases h3 : t0 = 3
  · subst h3
    have hR : T = (M1, 0) := by rw [HT.out, if_neg h2, if_neg h1, if_pos rfl]
    subst hR
    obtain ⟨s0, s1, s2⟩ := M1
    clear HT HSu HF2 HFa
    go_upto_region 6 with fail
    have bx : Bk W.drew z zV := ⟨bz.row⟩
    have hY : Below W.heap.size W W.drew := (Below.refl _ W).drew
    refine wp_region_held_drew (S := fun w' => w'.cell? ⟨b, 3, none⟩ = some (.int .i64 t3) ∧ w'.cell? ⟨b, 4, none⟩ = some (.int .i64 t4) ∧ w'.cell? ⟨b, 5, none⟩ = some (.string t5) ∧ w'.cell? ⟨q, 0, none⟩ = some (.int .i64 v0) ∧ w'.cell? ⟨q, 1, none⟩ = some (.int .i64 v1) ∧ w'.cell? ⟨q, 2, none⟩ = some (.string v2)) (by kernel_rfl) (⟨cell_later hY d3, cell_later hY d4, cell_later hY d5, cell_later hY q0, cell_later hY q1, cell_later hY q2⟩) (fun hHeld => ?_)
    generalize W.drew = y at *
    refine wpAnyH_take (i := 0) (v := ?tv5008) rfl (by kernel_rfl) (by kernel_rfl) (by kernel_rfl) (fun _ _ _ h => h) (Or.inl ⟨by rfl, ?hy5008⟩) (by assumption) ?rs5008
    case hy5008 => (intro w9 hSw; (try dsimp only at hSw); go_simp; (try with_reducible rfl))
    (try simp only [Act.put, List.getElem_toArray, List.getElem_cons_zero, List.getElem_cons_succ, List.setIfInBounds_toArray, List.set_cons_zero, List.set_cons_succ])
    refine wpAnyH_take (i := 1) (v := ?tv5009) rfl (by kernel_rfl) (by kernel_rfl) (by kernel_rfl) (fun _ _ _ h => h) (Or.inl ⟨by rfl, ?hy5009⟩) (by assumption) ?rs5009
    case hy5009 => (intro w9 hSw; (try dsimp only at hSw); go_simp; (try with_reducible rfl))
    (try simp only [Act.put, List.getElem_toArray, List.getElem_cons_zero, List.getElem_cons_succ, List.setIfInBounds_toArray, List.set_cons_zero, List.set_cons_succ])
    refine wpAnyH_take (i := 2) (v := ?tv5010) rfl (by kernel_rfl) (by kernel_rfl) (by kernel_rfl) (fun _ _ _ h => h) (Or.inl ⟨by rfl, ?hy5010⟩) (by assumption) ?rs5010
    case hy5010 => (intro w9 hSw; (try dsimp only at hSw); go_simp; (try with_reducible rfl))
    (try simp only [Act.put, List.getElem_toArray, List.getElem_cons_zero, List.getElem_cons_succ, List.setIfInBounds_toArray, List.set_cons_zero, List.set_cons_succ])
    refine wpAnyH_take (i := 3) (v := ?tv5011) rfl (by kernel_rfl) (by kernel_rfl) (by kernel_rfl) (fun _ _ _ h => h) (Or.inl ⟨by rfl, ?hy5011⟩) (by assumption) ?rs5011
    case hy5011 => (intro w9 hSw; (try dsimp only at hSw); go_simp; (try with_reducible rfl))
    (try simp only [Act.put, List.getElem_toArray, List.getElem_cons_zero, List.getElem_cons_succ, List.setIfInBounds_toArray, List.set_cons_zero, List.set_cons_succ])
    refine wpAnyH_take (i := 4) (v := ?tv5012) rfl (by kernel_rfl) (by kernel_rfl) (by kernel_rfl) (fun _ _ _ h => h) (Or.inl ⟨by rfl, ?hy5012⟩) (by assumption) ?rs5012
    case hy5012 => (intro w9 hSw; (try dsimp only at hSw); go_simp; (try with_reducible rfl))
    (try simp only [Act.put, List.getElem_toArray, List.getElem_cons_zero, List.getElem_cons_succ, List.setIfInBounds_toArray, List.set_cons_zero, List.set_cons_succ])
    refine wpAnyH_ready (rs := [5]) (by kernel_rfl) (by simp) ?_
    refine AllReadyH.cons rfl (fun K hK => ?_) AllReadyH.nil
    go_simp
    go_wp2_with (first | (go_at_call 128; (refine Calls.mono (HF1.out _) ?_); rintro e y ⟨rfl, hby⟩; replace bx := bx.later hby; replace hY := Below.on hY hby))
    refine hK.out _ _ (⟨cell_later hY d3, cell_later hY d4, cell_later hY d5, cell_later hY q0, cell_later hY q1, cell_later hY q2⟩) (fun hHeld => ?_)
    clear hK K
    (try simp only [Act.put, List.getElem_toArray, List.getElem_cons_zero, List.getElem_cons_succ, List.setIfInBounds_toArray, List.set_cons_zero, List.set_cons_succ])
    refine wpAnyH_ready (rs := [6]) (by kernel_rfl) (by simp) ?_
    refine AllReadyH.cons rfl (fun K hK => ?_) AllReadyH.nil
    have hth : y.there z 0 3 := bx.there rfl
    have z0 := stW_cell (l := [.int .i64 s0, .int .i64 s1, .string s2]) hth (j := 0) rfl
    have z1 := stW_cell (l := [.int .i64 s0, .int .i64 s1, .string s2]) hth (j := 1) rfl
    have z2 := stW_cell (l := [.int .i64 s0, .int .i64 s1, .string s2]) hth (j := 2) rfl
    rw [if_pos (by rfl)]
    refine wp_store_mid _ _ _ rfl z 0 (List.toArray [.int .i64 s0, .int .i64 s1, .string s2]) rfl rfl hth (by kernel_rfl) (by simp [Value.oneCell']) ?_
    show K _ (stW y z [.int .i64 s0, .int .i64 s1, .string s2])
    refine hK.out _ _ (⟨stW_far (by omega) (cell_later hY d3), stW_far (by omega) (cell_later hY d4), stW_far (by omega) (cell_later hY d5), stW_far (by omega) (cell_later hY q0), stW_far (by omega) (cell_later hY q1), stW_far (by omega) (cell_later hY q2)⟩) (fun hHeld => ?_)
    clear hK K hth
    (try simp only [Act.put, List.getElem_toArray, List.getElem_cons_zero, List.getElem_cons_succ, List.setIfInBounds_toArray, List.set_cons_zero, List.set_cons_succ])
    refine wpAnyH_ready (rs := [7]) (by kernel_rfl) (by simp) ?_
    refine AllReadyH.cons rfl (fun K hK => ?_) AllReadyH.nil
    go_simp
    refine hK.out _ _ (⟨stW_far (by omega) (cell_later hY d3), stW_far (by omega) (cell_later hY d4), stW_far (by omega) (cell_later hY d5), stW_far (by omega) (cell_later hY q0), stW_far (by omega) (cell_later hY q1), stW_far (by omega) (cell_later hY q2)⟩) (fun hHeld => ?_)
    clear hK K
    (try simp only [Act.put, List.getElem_toArray, List.getElem_cons_zero, List.getElem_cons_succ, List.setIfInBounds_toArray, List.set_cons_zero, List.set_cons_succ])
    refine wpAnyH_done (by kernel_rfl) ?_ _
    clear hHeld
    clear bx
    have hBz := stW_below (l := [.int .i64 s0, .int .i64 s1, .string s2]) (b := z) (Below.on hw hY) (by omega)
    generalize stW y z [.int .i64 s0, .int .i64 s1, .string s2] = Y at *
    clear hY d0 d1 d2 d3 d4 d5 d6 q0 q1 q2
    go_wp2
    exact bodyPost_ret (v := .tuple #[vV (s0, s1, s2), .int .i64 0]) (by simp [results, Tryz.results98, go_sem, z0, z1, z2]) rfl (by first | exact ⟨rfl, hBz⟩ | exact ⟨rfl, hq ▸ hBz⟩)
  have k3 : decide (t0 = 3) = false := by simpa using h3
  have l3 : (t0 == 3) = false := by simpa using h3
  have hR : T = (M2, 0) := by rw [HT.out, if_neg h2, if_neg h1, if_neg h3]
  subst hR
  obtain ⟨s0, s1, s2⟩ := M2
  clear HT HSu HF1
  go_upto_region 7 with fail
  have bx : Bk W.drew z zV := ⟨bz.row⟩
  have hY : Below W.heap.size W W.drew := (Below.refl _ W).drew
  refine wp_region_held_drew (S := fun w' => w'.cell? ⟨b, 3, none⟩ = some (.int .i64 t3) ∧ w'.cell? ⟨b, 4, none⟩ = some (.int .i64 t4) ∧ w'.cell? ⟨b, 5, none⟩ = some (.string t5) ∧ w'.cell? ⟨q, 0, none⟩ = some (.int .i64 v0) ∧ w'.cell? ⟨q, 1, none⟩ = some (.int .i64 v1) ∧ w'.cell? ⟨q, 2, none⟩ = some (.string v2)) (by kernel_rfl) (⟨cell_later hY d3, cell_later hY d4, cell_later hY d5, cell_later hY q0, cell_later hY q1, cell_later hY q2⟩) (fun hHeld => ?_)
  generalize W.drew = y at *
  refine wpAnyH_take (i := 1) (v := ?tv5013) rfl (by kernel_rfl) (by kernel_rfl) (by kernel_rfl) (fun _ _ _ h => h) (Or.inl ⟨by rfl, ?hy5013⟩) (by assumption) ?rs5013
  case hy5013 => (intro w9 hSw; (try dsimp only at hSw); go_simp; (try with_reducible rfl))
  (try simp only [Act.put, List.getElem_toArray, List.getElem_cons_zero, List.getElem_cons_succ, List.setIfInBounds_toArray, List.set_cons_zero, List.set_cons_succ])
  refine wpAnyH_take (i := 2) (v := ?tv5014) rfl (by kernel_rfl) (by kernel_rfl) (by kernel_rfl) (fun _ _ _ h => h) (Or.inl ⟨by rfl, ?hy5014⟩) (by assumption) ?rs5014
  case hy5014 => (intro w9 hSw; (try dsimp only at hSw); go_simp; (try with_reducible rfl))
  (try simp only [Act.put, List.getElem_toArray, List.getElem_cons_zero, List.getElem_cons_succ, List.setIfInBounds_toArray, List.set_cons_zero, List.set_cons_succ])
  refine wpAnyH_take (i := 3) (v := ?tv5015) rfl (by kernel_rfl) (by kernel_rfl) (by kernel_rfl) (fun _ _ _ h => h) (Or.inl ⟨by rfl, ?hy5015⟩) (by assumption) ?rs5015
  case hy5015 => (intro w9 hSw; (try dsimp only at hSw); go_simp; (try with_reducible rfl))
  (try simp only [Act.put, List.getElem_toArray, List.getElem_cons_zero, List.getElem_cons_succ, List.setIfInBounds_toArray, List.set_cons_zero, List.set_cons_succ])
  refine wpAnyH_take (i := 4) (v := ?tv5016) rfl (by kernel_rfl) (by kernel_rfl) (by kernel_rfl) (fun _ _ _ h => h) (Or.inl ⟨by rfl, ?hy5016⟩) (by assumption) ?rs5016
  case hy5016 => (intro w9 hSw; (try dsimp only at hSw); go_simp; (try with_reducible rfl))
  (try simp only [Act.put, List.getElem_toArray, List.getElem_cons_zero, List.getElem_cons_succ, List.setIfInBounds_toArray, List.set_cons_zero, List.set_cons_succ])
  refine wpAnyH_take (i := 5) (v := ?tv5017) rfl (by kernel_rfl) (by kernel_rfl) (by kernel_rfl) (fun _ _ _ h => h) (Or.inl ⟨by rfl, ?hy5017⟩) (by assumption) ?rs5017
  case hy5017 => (intro w9 hSw; (try dsimp only at hSw); go_simp; (try with_reducible rfl))
  (try simp only [Act.put, List.getElem_toArray, List.getElem_cons_zero, List.getElem_cons_succ, List.setIfInBounds_toArray, List.set_cons_zero, List.set_cons_succ])
  refine wpAnyH_ready (rs := [0]) (by kernel_rfl) (by simp) ?_
  refine AllReadyH.cons rfl (fun K hK => ?_) AllReadyH.nil
  go_simp
  go_wp2_with (first | (go_at_call 79; (refine Calls.mono (HFa.out _) ?_); rintro e y ⟨u, rfl, hcv, hby⟩; replace bx := bx.later hby; replace hY := Below.on hY hby))
  refine hK.out _ _ (⟨cell_later hY d3, cell_later hY d4, cell_later hY d5, cell_later hY q0, cell_later hY q1, cell_later hY q2⟩) (fun hHeld => ?_)
  clear hK K
  (try simp only [Act.put, List.getElem_toArray, List.getElem_cons_zero, List.getElem_cons_succ, List.setIfInBounds_toArray, List.set_cons_zero, List.set_cons_succ])
  refine wpAnyH_ready (rs := [6]) (by kernel_rfl) (by simp) ?_
  refine AllReadyH.cons rfl (fun K hK => ?_) AllReadyH.nil
  go_simp
  go_wp2_with (first | (go_at_call 128; (refine Calls.mono (HF2.out _ _ hcv) ?_); rintro e y ⟨rfl, hby⟩; replace bx := bx.later hby; replace hY := Below.on hY hby))
  refine hK.out _ _ (⟨cell_later hY d3, cell_later hY d4, cell_later hY d5, cell_later hY q0, cell_later hY q1, cell_later hY q2⟩) (fun hHeld => ?_)
  clear hK K
  (try simp only [Act.put, List.getElem_toArray, List.getElem_cons_zero, List.getElem_cons_succ, List.setIfInBounds_toArray, List.set_cons_zero, List.set_cons_succ])
  refine wpAnyH_ready (rs := [7]) (by kernel_rfl) (by simp) ?_
  refine AllReadyH.cons rfl (fun K hK => ?_) AllReadyH.nil
  have hth : y.there z 0 3 := bx.there rfl
  have z0 := stW_cell (l := [.int .i64 s0, .int .i64 s1, .string s2]) hth (j := 0) rfl
  have z1 := stW_cell (l := [.int .i64 s0, .int .i64 s1, .string s2]) hth (j := 1) rfl
  have z2 := stW_cell (l := [.int .i64 s0, .int .i64 s1, .string s2]) hth (j := 2) rfl
  rw [if_pos (by rfl)]
  refine wp_store_mid _ _ _ rfl z 0 (List.toArray [.int .i64 s0, .int .i64 s1, .string s2]) rfl rfl hth (by kernel_rfl) (by simp [Value.oneCell']) ?_
  show K _ (stW y z [.int .i64 s0, .int .i64 s1, .string s2])
  refine hK.out _ _ (⟨stW_far (by omega) (cell_later hY d3), stW_far (by omega) (cell_later hY d4), stW_far (by omega) (cell_later hY d5), stW_far (by omega) (cell_later hY q0), stW_far (by omega) (cell_later hY q1), stW_far (by omega) (cell_later hY q2)⟩) (fun hHeld => ?_)
  clear hK K hth
  (try simp only [Act.put, List.getElem_toArray, List.getElem_cons_zero, List.getElem_cons_succ, List.setIfInBounds_toArray, List.set_cons_zero, List.set_cons_succ])
  refine wpAnyH_ready (rs := [8]) (by kernel_rfl) (by simp) ?_
  refine AllReadyH.cons rfl (fun K hK => ?_) AllReadyH.nil
  go_simp
  refine hK.out _ _ (⟨stW_far (by omega) (cell_later hY d3), stW_far (by omega) (cell_later hY d4), stW_far (by omega) (cell_later hY d5), stW_far (by omega) (cell_later hY q0), stW_far (by omega) (cell_later hY q1), stW_far (by omega) (cell_later hY q2)⟩) (fun hHeld => ?_)
  clear hK K
  (try simp only [Act.put, List.getElem_toArray, List.getElem_cons_zero, List.getElem_cons_succ, List.setIfInBounds_toArray, List.set_cons_zero, List.set_cons_succ])
  refine wpAnyH_done (by kernel_rfl) ?_ _
  clear hHeld
  clear bx
  have hBz := stW_below (l := [.int .i64 s0, .int .i64 s1, .string s2]) (b := z) (Below.on hw hY) (by omega)
  generalize stW y z [.int .i64 s0, .int .i64 s1, .string s2] = Y at *
  clear hY d0 d1 d2 d3 d4 d5 d6 q0 q1 q2
  go_wp2
  exact bodyPost_ret (v := .tuple #[vV (s0, s1, s2), .int .i64 0]) (by simp [results, Tryz.results98, go_sem, z0, z1, z2]) rfl (by first | exact ⟨rfl, hBz⟩ | exact ⟨rfl, hq ▸ hBz⟩)

/-- What is told of all. -/
def toP (t : Ta) : Vt × Int := if t.2.2.2.2 ≠ 0 then (vZ, t.2.2.2.2) else if t.1 = 1 then ((1, t.2.2.1, ⟨#[]⟩), 0) else if t.1 ≠ 2 ∧ t.2.2.1 = 0 then (vZ, 23) else (t.2.2.2.1, 0)
set_option maxRecDepth 100000 in
set_option maxHeartbeats 8000000 in
theorem told_any {w : World} {b : Nat} {t : Ta} (hb : Bk w b (taO t)) (hs : t.2.2.2.1.2.2.size ≤ 281474976710656) :
    Calls Tryz.prog 68 #[.pointer (some ⟨b, 0, none⟩)] w fun e w' => e = .returned (.tuple #[vV (toP t).1, .int .i64 (toP t).2]) ∧ Below w.heap.size w w' := by
  obtain ⟨t0, t1, t2, ⟨t3, t4, t5⟩, t6⟩ := t
  have hw := bal (Below.refl w.heap.size w) zV
  have hbl := hb.lt
  have bz : Bk (w.alloc zV) w.heap.size zV := Bk.new w zV
  obtain ⟨d0, d1, d2, d3, d4, d5, d6⟩ := (hb.later hw).taC
  dsimp only at d0 d1 d2 d3 d4 d5 d6
  have HWh : Hid (∀ w', _) := hid fun w' => whole_any t2 w'
  have HFr : Hid (∀ w', _) := hid fun w' => fresh_any (t3, t4, t5) hs w'
  obtain ⟨T, hT⟩ : ∃ T, toP (t0, t1, t2, (t3, t4, t5), t6) = T := ⟨_, rfl⟩
  have HT : Hid (T = if t6 ≠ 0 then (vZ, t6) else if t0 = 1 then ((1, t2, ⟨#[]⟩), 0) else if t0 ≠ 2 ∧ t2 = 0 then (vZ, 23) else ((t3, t4, t5), 0)) := hid hT.symm
  rw [hT]
  obtain ⟨z, hz⟩ : ∃ z, w.heap.size = z := ⟨_, rfl⟩
  rw [hz] at bz hbl
  clear hb hT hs
  go_enter Tryz.func68, Tryz.ntmps68
  go_upto_region 1 with fail
  (try rw [hz])
  generalize w.alloc zV = W at *
  have hz0 : Bv W z 0 0 ⟨#[]⟩ := ⟨bz.row⟩
  have hwz := Bk.lt bz
  by_cases h6 : t6 = 0
  · subst h6
    by_cases h1 : t0 = 1
    · subst h1
      have hR : T = ((1, t2, ⟨#[]⟩), 0) := by rw [HT.out, if_neg (by simp), if_pos rfl]
      subst hR
      clear HT HFr
      go_wp2_with fail
      refine Calls.mono (HWh.out _) ?_
      rintro e w2 ⟨rfl, hb2⟩
      have hB := Below.on hw hb2
      have hz2 := hz0.later hb2
      clear HWh hb2 d0 d1 d2 d3 d4 d5 d6
      obtain ⟨c0, c1, c2⟩ := hz2.cells
      obtain ⟨f0, f1, f2⟩ := hz2.free
      have hl := hz2.lt
      clear bz
      go_wp2
      exact bodyPost_ret (v := .tuple #[vV (1, t2, ⟨#[]⟩), .int .i64 0]) (by simp [results, Tryz.results68, go_sem, c0, c1, c2]) rfl (by first | exact ⟨rfl, below3 hB (by omega) _ _ _⟩ | exact ⟨rfl, hz ▸ below3 hB (by omega) _ _ _⟩)
    have k1 : decide (t0 = 1) = false := by simpa using h1
    have l1 : (t0 == 1) = false := by simpa using h1
    by_cases h2 : t0 = 2
    · subst h2
      have hR : T = ((t3, t4, t5), 0) := by rw [HT.out, if_neg (by simp), if_neg h1, if_neg (by simp)]
      subst hR
      clear HT HWh
      go_wp2_with fail
      refine Calls.mono (HFr.out _) ?_
      rintro e w2 ⟨rfl, hb2⟩
      have hB := Below.on hw hb2
      have hz2 := hz0.later hb2
      clear HFr hb2 d0 d1 d2 d3 d4 d5 d6
      obtain ⟨c0, c1, c2⟩ := hz2.cells
      obtain ⟨f0, f1, f2⟩ := hz2.free
      have hl := hz2.lt
      clear bz
      go_wp2
      exact bodyPost_ret (v := .tuple #[vV (t3, t4, t5), .int .i64 0]) (by simp [results, Tryz.results68, go_sem, c0, c1, c2]) rfl (by first | exact ⟨rfl, below3 hB (by omega) _ _ _⟩ | exact ⟨rfl, hz ▸ below3 hB (by omega) _ _ _⟩)
    have k2 : decide (t0 = 2) = false := by simpa using h2
    have l2 : (t0 != 2) = true := by simpa using h2
    by_cases h0 : t2 = 0
    · subst h0
      have hR : T = (vZ, 23) := by rw [HT.out, if_neg (by simp), if_neg h1, if_pos ⟨h2, rfl⟩]
      subst hR
      clear HT HWh HFr
      obtain ⟨c0, c1, c2⟩ := hz0.cells
      obtain ⟨f0, f1, f2⟩ := hz0.free
      have hl := hz0.lt
      clear bz
      go_wp2
      exact bodyPost_ret (v := .tuple #[vV vZ, .int .i64 23]) (by simp [results, Tryz.results68, go_sem, c0, c1, c2]) rfl (by first | exact ⟨rfl, below3 hw (by omega) _ _ _⟩ | exact ⟨rfl, hz ▸ below3 hw (by omega) _ _ _⟩)
    · have k0 : decide (t2 = 0) = false := by simpa using h0
      have l0 : (t2 == 0) = false := by simpa using h0
      have hR : T = ((t3, t4, t5), 0) := by rw [HT.out, if_neg (by simp), if_neg h1, if_neg (fun h => h0 h.2)]
      subst hR
      clear HT HWh
      go_wp2_with fail
      refine Calls.mono (HFr.out _) ?_
      rintro e w2 ⟨rfl, hb2⟩
      have hB := Below.on hw hb2
      have hz2 := hz0.later hb2
      clear HFr hb2 d0 d1 d2 d3 d4 d5 d6
      obtain ⟨c0, c1, c2⟩ := hz2.cells
      obtain ⟨f0, f1, f2⟩ := hz2.free
      have hl := hz2.lt
      clear bz
      go_wp2
      exact bodyPost_ret (v := .tuple #[vV (t3, t4, t5), .int .i64 0]) (by simp [results, Tryz.results68, go_sem, c0, c1, c2]) rfl (by first | exact ⟨rfl, below3 hB (by omega) _ _ _⟩ | exact ⟨rfl, hz ▸ below3 hB (by omega) _ _ _⟩)
  · have k6 : decide (t6 = 0) = false := by simpa using h6
    have l6 : (t6 != 0) = true := by simpa using h6
    have hR : T = (vZ, t6) := by rw [HT.out, if_pos h6]
    subst hR
    clear HT HWh HFr
    go_upto_region 2 with fail
    have bx : Bk W.drew z zV := ⟨bz.row⟩
    have hY : Below W.heap.size W W.drew := (Below.refl _ W).drew
    refine wp_region_held_drew (S := fun w' => w'.cell? ⟨b, 6, none⟩ = some (.int .i64 t6)) (by kernel_rfl) (cell_later hY d6) (fun hHeld => ?_)
    generalize W.drew = y at *
    refine wpAnyH_take (i := 0) (v := ?tv5018) rfl (by kernel_rfl) (by kernel_rfl) (by kernel_rfl) (fun _ _ _ h => h) (Or.inl ⟨by rfl, ?hy5018⟩) (by assumption) ?rs5018
    case hy5018 => (intro w9 hSw; (try dsimp only at hSw); go_simp; (try with_reducible rfl))
    (try simp only [Act.put, List.getElem_toArray, List.getElem_cons_zero, List.getElem_cons_succ, List.setIfInBounds_toArray, List.set_cons_zero, List.set_cons_succ])
    refine wpAnyH_take (i := 1) (v := ?tv5019) rfl (by kernel_rfl) (by kernel_rfl) (by kernel_rfl) (fun _ _ _ h => h) (Or.inl ⟨by rfl, ?hy5019⟩) (by assumption) ?rs5019
    case hy5019 => (intro w9 hSw; (try dsimp only at hSw); go_simp; (try with_reducible rfl))
    (try simp only [Act.put, List.getElem_toArray, List.getElem_cons_zero, List.getElem_cons_succ, List.setIfInBounds_toArray, List.set_cons_zero, List.set_cons_succ])
    refine wpAnyH_take (i := 2) (v := ?tv5020) rfl (by kernel_rfl) (by kernel_rfl) (by kernel_rfl) (fun _ _ _ h => h) (Or.inl ⟨by rfl, ?hy5020⟩) (by assumption) ?rs5020
    case hy5020 => (intro w9 hSw; (try dsimp only at hSw); go_simp; (try with_reducible rfl))
    (try simp only [Act.put, List.getElem_toArray, List.getElem_cons_zero, List.getElem_cons_succ, List.setIfInBounds_toArray, List.set_cons_zero, List.set_cons_succ])
    refine wpAnyH_take (i := 3) (v := ?tv5021) rfl (by kernel_rfl) (by kernel_rfl) (by kernel_rfl) (fun _ _ _ h => h) (Or.inl ⟨by rfl, ?hy5021⟩) (by assumption) ?rs5021
    case hy5021 => (intro w9 hSw; (try dsimp only at hSw); go_simp; (try with_reducible rfl))
    (try simp only [Act.put, List.getElem_toArray, List.getElem_cons_zero, List.getElem_cons_succ, List.setIfInBounds_toArray, List.set_cons_zero, List.set_cons_succ])
    refine wpAnyH_take (i := 4) (v := ?tv5022) rfl (by kernel_rfl) (by kernel_rfl) (by kernel_rfl) (fun _ _ _ h => h) (Or.inl ⟨by rfl, ?hy5022⟩) (by assumption) ?rs5022
    case hy5022 => (intro w9 hSw; (try dsimp only at hSw); go_simp; (try with_reducible rfl))
    (try simp only [Act.put, List.getElem_toArray, List.getElem_cons_zero, List.getElem_cons_succ, List.setIfInBounds_toArray, List.set_cons_zero, List.set_cons_succ])
    refine wpAnyH_ready (rs := [5]) (by kernel_rfl) (by simp) ?_
    refine AllReadyH.cons rfl (fun K hK => ?_) AllReadyH.nil
    have hth : y.there z 0 3 := bx.there rfl
    have z0 := stW_cell (l := [.int .i64 0, .int .i64 0, .string ⟨#[]⟩]) hth (j := 0) rfl
    have z1 := stW_cell (l := [.int .i64 0, .int .i64 0, .string ⟨#[]⟩]) hth (j := 1) rfl
    have z2 := stW_cell (l := [.int .i64 0, .int .i64 0, .string ⟨#[]⟩]) hth (j := 2) rfl
    rw [if_pos (by rfl)]
    refine wp_store_mid _ _ _ rfl z 0 (List.toArray [.int .i64 0, .int .i64 0, .string ⟨#[]⟩]) rfl rfl hth (by kernel_rfl) (by simp [Value.oneCell']) ?_
    show K _ (stW y z [.int .i64 0, .int .i64 0, .string ⟨#[]⟩])
    refine hK.out _ _ (stW_far (by omega) (cell_later hY d6)) (fun hHeld => ?_)
    clear hK K hth
    (try simp only [Act.put, List.getElem_toArray, List.getElem_cons_zero, List.getElem_cons_succ, List.setIfInBounds_toArray, List.set_cons_zero, List.set_cons_succ])
    refine wpAnyH_ready (rs := [6]) (by kernel_rfl) (by simp) ?_
    refine AllReadyH.cons rfl (fun K hK => ?_) AllReadyH.nil
    go_simp
    refine hK.out _ _ (stW_far (by omega) (cell_later hY d6)) (fun hHeld => ?_)
    clear hK K
    (try simp only [Act.put, List.getElem_toArray, List.getElem_cons_zero, List.getElem_cons_succ, List.setIfInBounds_toArray, List.set_cons_zero, List.set_cons_succ])
    refine wpAnyH_done (by kernel_rfl) ?_ _
    clear hHeld
    clear bx
    have hBz := stW_below (l := [.int .i64 0, .int .i64 0, .string ⟨#[]⟩]) (b := z) (Below.on hw hY) (by omega)
    generalize stW y z [.int .i64 0, .int .i64 0, .string ⟨#[]⟩] = Y at *
    clear hY d0 d1 d2 d3 d4 d5 d6
    go_wp2
    exact bodyPost_ret (v := .tuple #[vV vZ, .int .i64 t6]) (by simp [results, Tryz.results68, go_sem, z0, z1, z2]) rfl (by first | exact ⟨rfl, hBz⟩ | exact ⟨rfl, hz ▸ hBz⟩)

end Go.Proofs.YtnlaaejdianfjaaGreat
