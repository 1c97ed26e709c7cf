/- The walk of RowApart. -/
import Derived.Test.YtdeplfhkeneabaaRc
namespace Go.Proofs.Ytdeplfhkeneabaa
open Go.RowKit
set_option linter.unusedVariables false

theorem set_eq {l : List Vl} {k : Nat} {x : Vl} (hk : k < l.length) : l = l.set k x ↔ vth l k = x := by
  constructor
  · intro h
    rw [h, vth_set hk, if_pos rfl]
  · intro h
    refine List.ext_getElem? fun i => ?_
    rw [List.getElem?_set]
    split
    · rename_i e
      subst e
      rw [List.getElem?_eq_getElem hk, ← vth_at hk, h]
    · rfl
/-- Two texts that are made of two rows' bytes. -/
theorem text_same {a b : List Vl} (ha : mayR a = true) (hb : mayR b = true) (fa : Fit a) (fb : Fit b) : ((strOfNums (putL a)).toList == (strOfNums (putL b)).toList) = decide (a = b) := by
  rw [same_str, Bool.eq_iff_iff, decide_eq_true_iff, decide_eq_true_iff, ← putL_inj ha hb fa fb]
  constructor
  · intro h; exact str_inj (putL_u8 a) (putL_u8 b) h
  · intro h; rw [h]

set_option maxRecDepth 100000 in
set_option maxHeartbeats 4000000 in
theorem rowApart_any (ao : Option Addr) (n c : Nat) (xs : List Vl) (bo : Option Addr) (m d : Nat) (ys : List Vl) (t : Int) (v : Vl) (w : World) (h : RdV w ao n c xs) (hs : Sized xs) (hf : Fit xs) (k : RdV w bo m d ys) (ks : Sized ys) (kf : Fit ys) (ht : 0 ≤ t ∧ t ≤ 255) (vf : Fits v.2.1) (vz : v.2.2.size ≤ 9223372036854775807) :
    Calls Try.prog 5 #[.slice ao n c, .slice bo m d, .int .u8 t, .agg #[.int .i64 v.1, .int .i64 v.2.1, .string v.2.2]] w fun e w' => e = .returned (.bool true) ∧ Below w.heap.size w w' := by
  have hV := Cv.new w v
  have hb0 : Below w.heap.size w (w.alloc (.cells #[.int .i64 v.1, .int .i64 v.2.1, .string v.2.2] 35)) := (Below.refl _ _).alloc (Nat.le_refl _) _
  have HA : Hid (∀ w', Below w.heap.size w w' → RdV w' ao n c xs) := fun w' hb => h.later hb
  have HY : Hid (∀ w', Below w.heap.size w w' → RdV w' bo m d ys) := fun w' hb => k.later hb
  have H0 : Hid (∀ w, _) := fun w => begun_any w
  have hn := h.len
  have hm := k.len
  clear h k
  go_enter Try.func5, Try.ntmps5
  go_upto_region 1 with fail
  generalize w.alloc (.cells #[.int .i64 v.1, .int .i64 v.2.1, .string v.2.2] 35) = W at *
  obtain ⟨g, hg⟩ : ∃ g, g = w.heap.size := ⟨_, rfl⟩
  rw [← hg] at hV ⊢
  clear hg
  go_wp2_with fail
  refine Calls.mono (H0.out _) ?_
  rintro e w1 ⟨rfl, hb1⟩
  have hB1 := Below.on hb0 hb1
  replace hV := hV.later hb1
  clear H0 hb0 hb1
  have HM1 := refMayRow_any ao n c xs w1 (HA.out _ hB1) hs
  cases e1 : mayR xs with
  | false =>
    rw [e1] at HM1
    replace HM1 : Hid _ := HM1
    clear e1
    obtain ⟨c0, c1, c2⟩ := hV
    go_wp2_with fail
    refine Calls.mono HM1.out ?_
    rintro e w2 ⟨rfl, hb2⟩
    have hB2 := Below.on hB1 hb2
    clear HM1
    go_wp2
    go_ret
    exact ⟨rfl, hB2⟩
  | true =>
    rw [e1] at HM1
    replace HM1 : Hid _ := HM1
    go_wp2_with fail
    refine Calls.mono HM1.out ?_
    rintro e w2 ⟨rfl, hb2⟩
    have hB2 := Below.on hB1 hb2
    replace hV := hV.later hb2
    clear HM1 hB1 hb2
    have HM2 := refMayRow_any bo m d ys w2 (HY.out _ hB2) ks
    cases e2 : mayR ys with
    | false =>
      rw [e2] at HM2
      replace HM2 : Hid _ := HM2
      clear e1 e2
      go_wp2_with fail
      refine Calls.mono HM2.out ?_
      rintro e w3 ⟨rfl, hb3⟩
      have hB3 := Below.on hB2 hb3
      clear HM2
      go_wp2
      go_ret
      exact ⟨rfl, hB3⟩
    | true =>
      rw [e2] at HM2
      replace HM2 : Hid _ := HM2
      go_wp2_with fail
      refine Calls.mono HM2.out ?_
      rintro e w3 ⟨rfl, hb3⟩
      have hB3 := Below.on hB2 hb3
      replace hV := hV.later hb3
      clear HM2 hB2 hb3
      have HM3 := refMay_any v.1 v.2.1 v.2.2 vz w3
      obtain ⟨c0, c1, c2⟩ := hV
      cases e3 : mayV v.1 v.2.1 (nums v.2.2) with
      | false =>
        rw [e3] at HM3
        replace HM3 : Hid _ := HM3
        clear e1 e2 e3
        go_wp2_with fail
        refine Calls.mono HM3.out ?_
        rintro e w4 ⟨rfl, hb4⟩
        have hB4 := Below.on hB3 hb4
        clear HM3
        go_wp2
        go_ret
        exact ⟨rfl, hB4⟩
      | true =>
        rw [e3] at HM3
        replace HM3 : Hid _ := HM3
        replace e3 : mayVl v = true := e3
        obtain ⟨hl1, hl6, hall⟩ := mayR_iff.1 e1
        have hn1 : 1 ≤ n := by omega
        have hn6 : n ≤ 6 := by omega
        go_wp2_with fail
        refine Calls.mono HM3.out ?_
        rintro e w4 ⟨rfl, hb4⟩
        have hB4 := Below.on hB3 hb4
        have hV : Cv w4 g 0 v := Cv.later ⟨c0, c1, c2⟩ hb4
        clear HM3 hB3 hb4 c0 c1 c2
        obtain ⟨b, o, rfl, hdrop⟩ := (HA.out _ hB4).cells (by omega)
        clear hdrop
        have hb5 : Below w4.heap.size w4 (w4.alloc (.cells #[] 35)) := (Below.refl _ _).alloc (Nat.le_refl _) _
        have ho5 : OwnV w4.heap.size (w4.alloc (.cells #[] 35)) (.slice (some ⟨w4.heap.size, 0, none⟩) 0 0) [] := World.ownsRow_made (size := 3) (e := 35) (base := w4.heap.size) w4 #[] 0 (Nat.le_refl _) (Nat.zero_le _) rfl
        go_wp2_with (first | (at_builtin; refine wpList_copyV rfl (.tmp 26) (.tmp 27) rfl w4.heap.size _ b o n c xs rfl rfl ho5 (HA.out _ (Below.on hB4 hb5)) (by omega) (by omega) hb5.size ?_) | fail)
        intro G cap w6 ho6 hG hcap hcm hb6
        have hb6' : Below w4.heap.size w4 w6 := hb5.trans hb6
        have hB6 := Below.on hB4 hb6'
        have hV4' := hV
        replace hV := hV.later hb6'
        obtain ⟨T, rfl⟩ : ∃ T : Nat, t = (T : Int) := ⟨t.toNat, by omega⟩
        obtain ⟨K, hKd⟩ : ∃ K : Nat, K = T % n := ⟨_, rfl⟩
        have hKn : K < n := by rw [hKd]; exact Nat.mod_lt _ (by omega)
        have hK : ((T : Int)).tmod (n : Int) = (K : Int) := by rw [Int.tmod_eq_emod_of_nonneg (by omega), hKd]; rfl
        have hwt : IntKind.i64.wrap (T : Int) = (T : Int) := by rw [IntKind.wrap_i64]; omega
        have hR6 : RdV w6 (some ⟨G, 0, none⟩) n cap xs := by
          obtain ⟨ao, c', e, hr⟩ := ho6.rd
          rw [hn] at e hr
          cases e
          exact hr
        have hfz : ∀ j, w6.frozen? ⟨G, j, none⟩ = false := fun j => by
          have := ho6
          unfold OwnV at this
          rw [hn] at this
          exact World.ownsRow.frozenAt this j
        have f0 := hfz (K * 3)
        have f1 := hfz (K * 3 + 1)
        have f2 := hfz (K * 3 + 2)
        obtain ⟨bb, oo, e, hcc⟩ := hR6.cells (by omega)
        cases e
        obtain ⟨d0, d1, d2⟩ := hcc K hKn
        rw [Nat.zero_add] at d0 d1 d2
        have hR7 := hR6.set (x := v) hKn
        have hb7 : Below w4.heap.size w4 (((w6.setCell ⟨G, K * 3, none⟩ (.int .i64 v.1)).setCell ⟨G, K * 3 + 1, none⟩ (.int .i64 v.2.1)).setCell ⟨G, K * 3 + 2, none⟩ (.string v.2.2)) := ((hb6'.setCell hG _).setCell hG _).setCell hG _
        have hV4 : Cv w4 g 0 v := hV4'
        have hV7 := hV4.later hb7
        have hB7 := Below.on hB4 hb7
        obtain ⟨v0, v1, v2⟩ := hV
        clear hfz hcc ho5 hb5 hb6 ho6 hKd hR6 hb6' hB6
        go_upto_region 8 with fail
        have hlK : K < xs.length := by omega
        have e4 : mayR (xs.set K v) = true := mayR_iff.2 ⟨by rw [List.length_set]; omega, by rw [List.length_set]; omega, fun u hu => by
          rcases List.mem_or_eq_of_mem_set hu with h | rfl
          · exact hall u h
          · exact e3⟩
        have s4 : Sized (xs.set K v) := fun u hu => by
          rcases List.mem_or_eq_of_mem_set hu with h | rfl
          · exact hs u h
          · exact vz
        have t4 : Fit (xs.set K v) := fun u hu => by
          rcases List.mem_or_eq_of_mem_set hu with h | rfl
          · exact hf u h
          · exact vf
        have hAB := text_same e1 e2 hf kf
        have hAC := text_same e1 e4 hf t4
        rw [show decide (xs = xs.set K v) = decide (vth xs K = v) from by rw [Bool.eq_iff_iff, decide_eq_true_iff, decide_eq_true_iff, set_eq hlK]] at hAC
        have hrun := run_same (vth xs K) v
        obtain ⟨b', o', e, hca⟩ := (HA.out _ hB7).cells (by omega)
        cases e
        obtain ⟨a0, a1, a2⟩ := hca K hKn
        obtain ⟨x0, x1, x2⟩ := hV7
        clear hca d0 d1 d2 f0 f1 f2 v0 v1 v2 hV4 hV4' hb7
        generalize ((w6.setCell ⟨G, K * 3, none⟩ (.int .i64 v.1)).setCell ⟨G, K * 3 + 1, none⟩ (.int .i64 v.2.1)).setCell ⟨G, K * 3 + 2, none⟩ (.string v.2.2) = X at *
        have HPa : Hid (∀ w', Below X.heap.size X w' → _) := fun w' hb => put_any (some ⟨b, o, none⟩) n c xs w' (HA.out _ (Below.on hB7 hb)) hs hf
        have HPb : Hid (∀ w', Below X.heap.size X w' → _) := fun w' hb => put_any bo m d ys w' (HY.out _ (Below.on hB7 hb)) ks kf
        have HPc : Hid (∀ w', Below X.heap.size X w' → _) := fun w' hb => put_any (some ⟨G, 0, none⟩) n cap (xs.set K v) w' (hR7.later hb) s4 t4
        have HSm : Hid (∀ w', Below X.heap.size X w' → _) := fun w' hb => sameRow_any (some ⟨b, o, none⟩) bo n c m d xs ys w' (HA.out _ (Below.on hB7 hb)) (HY.out _ (Below.on hB7 hb))
        clear HA HY hR7 hs hf ks kf e1 e2 e3 e4 s4 t4 hall hl1 hl6 hlK hm
        generalize putL xs = PA at *
        generalize putL ys = PB at *
        generalize putL (xs.set K v) = PC at *
        generalize decide (xs = ys) = EQ at *
        generalize decide (vth xs K = v) = EV at *
        generalize vth xs K = u at *
        obtain ⟨u0, u1, u2⟩ := u
        obtain ⟨z0, z1, z2⟩ := v
        have hidx : K < n := hKn
        clear hn hn1 hn6 hG hcap hcm ht hK hwt hB4 vf vz
        have hC : Below X.heap.size X X.drew := (Below.refl _ _).drew
        go_region_held (fun w' => (w'.cell? ⟨b, o + K * 3, none⟩ = some (.int .i64 u0) ∧ w'.cell? ⟨b, o + K * 3 + 1, none⟩ = some (.int .i64 u1) ∧ w'.cell? ⟨b, o + K * 3 + 2, none⟩ = some (.string u2)) ∧ w'.cell? ⟨g, 0, none⟩ = some (.int .i64 z0) ∧ w'.cell? ⟨g, 1, none⟩ = some (.int .i64 z1) ∧ w'.cell? ⟨g, 2, none⟩ = some (.string z2))
          (exact ⟨⟨cell_later hC a0, cell_later hC a1, cell_later hC a2⟩, cell_later hC x0, cell_later hC x1, cell_later hC x2⟩)
          (first
          | (go_at_call_of 12 (Value.slice (some ⟨b, o, none⟩) n c); refine Calls.mono (HPa.out _ hC) ?_; rintro _ y ⟨oA, pA, qA, rfl, hrA, hby⟩; replace hC := Below.on hC hby; have cA := conv_all hrA)
          | (go_at_call_of 12 (Value.slice bo m d); refine Calls.mono (HPb.out _ hC) ?_; rintro _ y ⟨oB, pB, qB, rfl, hrB, hby⟩; replace hC := Below.on hC hby; have cB := conv_all hrB; replace hrA := hrA.later hby; have cA2 := conv_all hrA)
          | (go_at_call 14; refine Calls.mono (HSm.out _ hC) ?_; rintro _ y ⟨rfl, hby⟩; replace hC := Below.on hC hby; replace hrA := hrA.later hby; have cA3 := conv_all hrA; replace hrB := hrB.later hby; have cB3 := conv_all hrB)
          | (go_at_call_of 12 (Value.slice (some ⟨G, 0, none⟩) n cap); refine Calls.mono (HPc.out _ hC) ?_; rintro _ y ⟨oC, pC, qC, rfl, hrC, hby⟩; replace hC := Below.on hC hby; have cC := conv_all hrC; replace hrA := hrA.later hby; have cA5 := conv_all hrA))
        all_goals
          go_wp2
          go_ret
          exact ⟨rfl, Below.on hB7 hC⟩

end Go.Proofs.Ytdeplfhkeneabaa
