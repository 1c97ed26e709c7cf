/- The walk of 'LabelBytes': it answers true at every bytes, label, rest and cut; nothing that was there is turned. -/
import Derived.Test.YtgmodalpmicmnaaRefT
import Derived.Test.YtgmodalpmicmnaaAllF
namespace Go.Proofs.Ytgmodalpmicmnaa
open Go.RowKit
set_option linter.unusedVariables false

theorem tagsL_B {L rs : List Int} (hu : U16 L) : tagsL ((tagsB L ++ rs).take (2 * L.length)) = L := by
  induction L with
  | nil => simp [tagsL]
  | cons t r ih =>
    have ht := hu t (by simp)
    rw [tagsB_cons, List.cons_append, List.cons_append, List.length_cons, show 2 * (r.length + 1) = 2 * r.length + 1 + 1 from by omega, List.take_succ_cons, List.take_succ_cons, tagsL, ih fun z hz => hu z (by simp [hz])]
    congr 1
    omega

theorem takeE_put {L rs : List Int} (hu : U16 L) (hl : L.length ≤ 8) (hr : risesB L = true) : takeE (putL L ++ rs) = 0 := by
  rw [putL, List.cons_append, takeE, if_neg (by omega), if_neg (by simp [tagsB_len]; omega), Int.toNat_natCast, tagsL_B hu, hr]; rfl

theorem takeT_put {L rs : List Int} (hu : U16 L) (hl : L.length ≤ 8) (hr : risesB L = true) : takeT (putL L ++ rs) = L := by
  rw [takeT, takeE_put hu hl hr, if_pos rfl, putL, List.cons_append, List.tail_cons, nth_zero, Int.toNat_natCast, tagsL_B hu]

theorem takeN_put {L rs : List Int} (hu : U16 L) (hl : L.length ≤ 8) (hr : risesB L = true) : takeN (putL L ++ rs) = ((putL L).length : Int) := by
  rw [takeN, takeE_put hu hl hr, if_pos rfl, putL_len, putL, List.cons_append, nth_zero]; omega

theorem takeE_cut {L : List Int} {r : Nat} (hl : L.length ≤ 8) (hr : r < (putL L).length) : takeE ((putL L).take r) = 2 := by
  cases r with
  | zero => rfl
  | succ r =>
    rw [putL_len] at hr
    rw [putL, List.take_succ_cons, takeE, if_neg (by omega), if_pos (by simp [tagsB_len]; omega)]

theorem app_u8 {A B : List Int} (h1 : ∀ x ∈ A, 0 ≤ x ∧ x ≤ 255) (h2 : ∀ x ∈ B, 0 ≤ x ∧ x ≤ 255) : ∀ x ∈ A ++ B, 0 ≤ x ∧ x ≤ 255 := fun x hx => by
  rcases List.mem_append.1 hx with h | h
  · exact h1 x h
  · exact h2 x h

set_option maxRecDepth 100000 in
set_option maxHeartbeats 4000000 in
theorem bytes_any (ao lo ro : Option Addr) (n c m d p q : Nat) (k : Int) (bs L rs : List Int) (w : World) (ha : Rd .u8 w ao n c bs) (hl : Rd .u16 w lo m d L) (hr : Rd .u8 w ro p q rs)
    (hua : ∀ x ∈ bs, 0 ≤ x ∧ x ≤ 255) (hul : U16 L) (hur : ∀ x ∈ rs, 0 ≤ x ∧ x ≤ 255) (hk : -9223372036854775808 ≤ k ∧ k ≤ 9223372036854775807) :
    Calls Try.prog 5 #[.slice ao n c, .slice lo m d, .slice ro p q, .int .i64 k] w fun e w' => e = .returned (.bool true) ∧ Below w.heap.size w w' := by
  have hB0 : Below w.heap.size w w := Below.refl _ _
  by_cases h300 : 300 < n
  · go_enter Try.func5, Try.ntmps5
    go_wp2_with fail
    refine Calls.mono (begun_any w) ?_
    rintro e w1 ⟨rfl, hb1⟩
    go_wp2
    go_ret
    exact ⟨rfl, hb1⟩
  by_cases h100 : 100 < p
  · go_enter Try.func5, Try.ntmps5
    go_wp2_with fail
    refine Calls.mono (begun_any w) ?_
    rintro e w1 ⟨rfl, hb1⟩
    go_wp2
    go_ret
    exact ⟨rfl, hb1⟩
  cases el : mayB L with
  | false =>
    go_enter Try.func5, Try.ntmps5
    go_wp2_with fail
    refine Calls.mono (begun_any w) ?_
    rintro e w1 ⟨rfl, hb1⟩
    go_wp2_with fail
    refine Calls.mono (refMay_b lo m d L w1 (hl.later hb1)) ?_
    rintro e w2 ⟨rfl, hb2⟩
    go_wp2
    go_ret
    exact ⟨rfl, hb1.trans (hb2.mono hb1.size)⟩
  | true =>
    obtain ⟨rl, ll⟩ := mayB_true el
    have nl := hl.len
    have na := ha.len
    have nr := hr.len
    go_enter Try.func5, Try.ntmps5
    go_wp2_with fail
    refine Calls.mono (begun_any w) ?_
    rintro e w1 ⟨rfl, hb1⟩
    go_wp2_with fail
    refine Calls.mono (refMay_b lo m d L w1 (hl.later hb1)) ?_
    rintro e w2 ⟨rfl, hb2⟩
    have hB2 : Below w.heap.size w w2 := hb1.trans (hb2.mono hb1.size)
    go_wp2_with fail
    clear el
    refine Calls.mono (twin_any ao n c bs w2 (ha.later hB2) (by omega)) ?_
    rintro e w3 ⟨rfl, hT, hb3⟩
    have hB3 : Below w.heap.size w w3 := hB2.trans (hb3.mono hB2.size)
    obtain ⟨gT, hgT⟩ : ∃ g, g = w2.heap.size := ⟨_, rfl⟩
    rw [← hgT] at hT ⊢
    have hgT3 : gT < w3.heap.size := by
      obtain ⟨b, o, e, hc⟩ := hT.cells (by omega)
      cases e
      exact World.block_lt_of_cell? _ _ (hc 0 (by omega))
    clear hgT hb1 hb2 hb3
    have hTs := hT.sub (lo := 0) (hi := n) (by omega) (by omega) (some ⟨gT, 0, none⟩) n (n + 3) (by omega) (by omega) (fun _ => rfl) (Option.some_ne_none _)
    rw [List.drop_zero, ← na, List.take_left, na] at hTs
    go_wp2_with fail
    refine Calls.mono (put_any (some ⟨gT, 0, none⟩) lo n (n + 3) m d bs L w3 hTs (hl.later hB3) (by omega) (by omega) hul) ?_
    rintro e w4 ⟨vx, rfl, hox, hb4, hnx⟩
    have hB4 : Below w.heap.size w w4 := hB3.trans (hb4.mono hB3.size)
    obtain ⟨g2, cap2, cur2, hvx, hg2, hcur, hnc, hcm, hcs⟩ : ∃ g cap, ∃ cur : Array Value, vx = .slice (some ⟨g, 0, none⟩) (bs ++ putL L).length cap ∧ w3.heap.size ≤ g ∧ w4.heap[g]? = some (.cells cur 5 (0, 0)) ∧ (bs ++ putL L).length ≤ cap ∧ cap ≤ maxLen ∧ cur.size = cap := by
      rcases hox.2 with ⟨e, _⟩ | ⟨g, cap, cur, e, h1, h2, h3, h4, h5, _⟩
      · exact absurd e hnx
      · exact ⟨g, cap, cur, e, h1, h2, h3, h4, by simpa using h5⟩
    obtain ⟨XL, HXL, hXl⟩ : ∃ X : List Int, Hid (X = bs ++ putL L) ∧ X.length ≤ 400 := ⟨_, rfl, by rw [List.length_append, putL_len]; omega⟩
    rw [← HXL.out] at hox hvx hnc
    obtain ⟨xo, xq, hv2, hrx⟩ := Rd.of_owns hox
    rw [hvx] at hv2 ⊢
    simp only [Value.slice.injEq] at hv2
    obtain ⟨rfl, -, rfl⟩ := hv2
    clear hox hnx hvx
    have hg24 : g2 < w4.heap.size := (Array.getElem?_eq_some_iff.1 hcur).1
    replace hT := hT.later hb4
    clear hTs
    go_upto_region 7 with fail
    go_cut [11] (fun v w' => v = .bool true ∧ Below w4.heap.size w4 w')
    case first =>
      have cx := conv_all (w := w4.drew) (hrx.drewN 1)
      have HP := refPut_any ao lo n c m d bs L w4.drew (Rd.drewN (ha.later hB4) 1) (Rd.drewN (hl.later hB4) 1) (by omega) (by omega) hul
      rw [← HXL.out] at HP
      replace HP : Hid _ := HP
      go_region_with (first
        | (go_at_call 27; refine Calls.mono HP.out ?_; rintro e y1 ⟨yo, yp, yq, rfl, hry, hby⟩; have cx2 := conv_all (hrx.later ((Below.refl _ _).drew.trans hby)); have cy := conv_all hry; have hBy : Below w4.heap.size w4 y1 := (Below.refl _ _).drew.trans hby)
        | (go_at_call 28; refine Calls.mono (kept_any gT ao n c bs _ (hT.later hBy) (ha.later (hB4.trans (hBy.mono hB4.size))) (by omega)) ?_; rintro e y2 ⟨rfl, rfl⟩))
      all_goals
        go_wp2_with fail
        go_meet
        exact ⟨rfl, hBy⟩
    case rest =>
      obtain ⟨rfl, hBc⟩ := hcut
      have hcurC : wc.heap[g2]? = some (.cells cur2 5 (0, 0)) := by rw [hBc.block g2 hg24]; exact hcur
      have hs3 := hB3.size
      have hcm' : cap2 ≤ 9223372036854775807 := hcm
      go_wp2_with fail
      refine Calls.mono (spoil_any g2 XL.length cap2 cur2 wc hcurC hcs hnc hcm') ?_
      rintro e w5 ⟨rfl, hbut⟩
      have hB5 : Below w.heap.size w w5 := hbut.below (hB4.trans (hBc.mono hB4.size)) (by omega)
      replace hT := hbut.rd (hT.later hBc) (fun a e => by cases e; show gT ≠ g2; omega)
      clear hbut hcurC hBc hcur hcs hnc hcm hcm' hB4 hb4 hrx hg24 hg2 hgT3 hs3
      go_wp2_with fail
      refine Calls.mono (take_any ao n c bs w5 (ha.later hB5) hua) ?_
      rintro e w6 ⟨o6, p6, q6, rfl, h6, hb6⟩
      have hB6 : Below w.heap.size w w6 := hB5.trans (hb6.mono hB5.size)
      replace hT := hT.later hb6
      go_wp2_with fail
      refine Calls.mono (refTake_any ao n c bs w6 (ha.later hB6) hua) ?_
      rintro e w7 ⟨o7, p7, q7, rfl, h7, hb7⟩
      have hB7 : Below w.heap.size w w7 := hB6.trans (hb7.mono hB6.size)
      replace hT := hT.later hb7
      replace h6 := h6.later hb7
      go_wp2_with fail
      refine Calls.mono (put_rd none lo 0 0 m d [] L w7 (Rd.nil _ _) (hl.later hB7) (by omega) (by omega) hul) ?_
      rintro e w8 ⟨o8, p8, q8, rfl, hW, hb8⟩
      have hB8 : Below w.heap.size w w8 := hB7.trans (hb8.mono hB7.size)
      replace hT := hT.later hb8
      replace h6 := h6.later hb8
      replace h7 := h7.later hb8
      replace hW : Rd .u8 w8 o8 p8 q8 (putL L) := hW
      obtain rfl : p8 = (putL L).length := hW.len.symm
      have hpl1 : 1 ≤ (putL L).length := by rw [putL_len]; omega
      have hpl2 : (putL L).length ≤ 17 := by rw [putL_len]; omega
      obtain ⟨bW, oW, rfl, -⟩ := hW.cells hpl1
      clear hb6 hb7 hb8 hB5 hB6 hB7
      go_upto_region 12 with fail
      go_cut [19, 20, 21] (fun v19 v20 v21 w' => ∃ oo p q, v19 = .slice oo p q ∧ v20 = .int .i64 ((putL L).length : Int) ∧ v21 = .int .i64 0 ∧ Rd .u16 w' oo p q L ∧ Below w8.heap.size w8 w')
      case first =>
        obtain ⟨i0, hi, hz0, hz1, hz2⟩ := info_parts Try.info5
        have hb0 : Below w8.heap.size w8 (w8.alloc (.cells #[] 5)) := (Below.refl w8.heap.size w8).alloc (Nat.le_refl _) (.cells #[] 5)
        have hm0 := World.ownsRow_made (size := 1) (e := 5) (base := w8.heap.size) w8 #[] 0 (Nat.le_refl _) (Nat.zero_le _) rfl
        have HV : Hid (takeE (putL L ++ rs) = 0 ∧ takeT (putL L ++ rs) = L ∧ takeN (putL L ++ rs) = ((putL L).length : Int)) := ⟨takeE_put hul ll rl, takeT_put hul ll rl, takeN_put hul ll rl⟩
        have hU := app_u8 (putL_u8 hul ll) hur
        go_wp2_with (at_builtin; refine wpList_append_own _ rfl (.tmp 74) (.tmp 75) 34 rfl w8.heap.size 5 i0 (.int .u8 0) 1 1 Try.underlying34 hi hz0 hz1 hz2 rfl (by decide) _ _ _ rfl hm0 ⟨bW, oW, none⟩ (putL L).length q8 ((putL L).map (Value.int .u8)) rfl (by simp) (hW.later hb0).news (ints_one _ _) (by unfold maxLen; omega) (by omega) hb0.size ?_)
        intro v1 y1 hown1 hg1 _
        have hBy1 : Below w8.heap.size w8 y1 := below_grown hb0 hb0.size hm0 (Nat.le_refl _) hg1
        clear hg1
        replace hown1 : y1.ownsRow w8.heap.size 5 1 v1 (putL L).length ((putL L).map (Value.int .u8)) := by simpa using hown1
        obtain ⟨ZL, HZ, hZl⟩ : ∃ Z : List Int, Hid (Z = putL L ++ rs) ∧ Z.length ≤ 200 := ⟨_, rfl, by rw [List.length_append]; omega⟩
        rw [← HZ.out] at HV hU
        rcases ro with _ | rd
        · obtain ⟨rfl, rfl, rfl⟩ := hr.none_nil
          have hZ2 : ZL = putL L := by rw [HZ.out, List.append_nil]
          rw [← hZ2] at hown1
          go_wp2_with (first | (at_builtin; refine wpList_append_own_none rfl (.tmp 76) (.tmp 77) 34 rfl w8.heap.size 5 i0 1 Try.underlying34 hi _ _ _ rfl hown1 rfl ?_) | fail)
          obtain ⟨z1, z2, hv, hrz⟩ := Rd.of_owns hown1
          rw [hv]
          refine Calls.mono (take_any _ _ _ _ _ hrz hU) ?_
          rintro e y2 ⟨oo, pp, qq, rfl, hL, hby2⟩
          rw [HV.out.1, HV.out.2.2]
          rw [HV.out.2.1] at hL
          go_wp2_with fail
          go_meet
          exact ⟨oo, pp, qq, rfl, rfl, rfl, hL, hBy1.trans (hby2.mono hBy1.size)⟩
        · go_wp2_with (at_builtin; refine wpList_append_own _ rfl (.tmp 76) (.tmp 77) 34 rfl w8.heap.size 5 i0 (.int .u8 0) 1 1 Try.underlying34 hi hz0 hz1 hz2 rfl (by decide) _ _ _ rfl hown1 rd p q (rs.map (Value.int .u8)) rfl (by simp; omega) (hr.later (hB8.trans (hBy1.mono hB8.size))).news (ints_one _ _) (by unfold maxLen; omega) (by omega) hBy1.size ?_)
          intro v2 y2 hown2 hg2 _
          have hBy2 : Below w8.heap.size w8 y2 := below_grown hBy1 hBy1.size hown1 (Nat.le_refl _) hg2
          clear hg2
          have hownZ : y2.ownsRow w8.heap.size 5 1 v2 ZL.length (ZL.map (Value.int .u8)) := by rw [HZ.out]; exact owns_app nr hown2
          obtain ⟨z1, z2, hv, hrz⟩ := Rd.of_owns hownZ
          rw [hv]
          clear hown2 hown1 hownZ
          go_wp2_with fail
          refine Calls.mono (take_any _ _ _ _ _ hrz hU) ?_
          rintro e y3 ⟨oo, pp, qq, rfl, hL, hby3⟩
          rw [HV.out.1, HV.out.2.2]
          rw [HV.out.2.1] at hL
          go_wp2_with fail
          go_meet
          exact ⟨oo, pp, qq, rfl, rfl, rfl, hL, hBy2.trans (hby3.mono hBy2.size)⟩
      case rest =>
        obtain ⟨vo, vp, vq, rfl, rfl, rfl, hV, hBc⟩ := hcut
        have hB9 : Below w.heap.size w wc := hB8.trans (hBc.mono hB8.size)
        replace hT := hT.later hBc
        replace h6 := h6.later hBc
        replace h7 := h7.later hBc
        replace hW := hW.later hBc
        clear hBc hB8
        go_wp2_with fail
        refine Calls.mono (place_any k (putL L).length wc hpl1 (by omega) hk) ?_
        rintro e w10 ⟨⟨r, hrlt, rfl⟩, hw10⟩
        rw [hw10]
        clear hw10
        have r1 : (r : Int) ≤ ((putL L).length : Int) := by omega
        have hwc := hW.cap
        have hwm := hW.max
        have r2 : (r : Int) ≤ (q8 : Int) := by omega
        have hC := hW.sub (lo := 0) (hi := r) (by omega) (by omega) (some ⟨bW, oW, none⟩) r q8 (by omega) (by omega) (fun _ => rfl) (Option.some_ne_none _)
        rw [List.drop_zero] at hC
        have hcu : ∀ x ∈ (putL L).take r, 0 ≤ x ∧ x ≤ 255 := fun x hx => putL_u8 hul ll x (List.mem_of_mem_take hx)
        have HTk := take_any _ _ _ _ _ hC hcu
        rw [takeE_cut ll hrlt] at HTk
        replace HTk : Hid _ := HTk
        go_wp2_with fail
        refine Calls.mono HTk.out ?_
        rintro e w11 ⟨o9, p9, q9, rfl, h9, hb9⟩
        have hB11 : Below w.heap.size w w11 := hB9.trans (hb9.mono hB9.size)
        replace hT := hT.later hb9
        replace h6 := h6.later hb9
        replace h7 := h7.later hb9
        replace hV := hV.later hb9
        clear HTk h9 hC
        go_wp2_with fail
        refine Calls.mono (kept_any gT ao n c bs w11 hT (ha.later hB11) (by omega)) ?_
        rintro e w12 ⟨rfl, hw12⟩
        rw [hw12]
        clear hw12
        have HS := same_any o6 o7 p6 q6 p7 q7 (takeT bs) (takeT bs) w11 h6 h7
        rw [sameB_self] at HS
        replace HS : Hid _ := HS
        go_wp2_with fail
        refine Calls.mono HS.out ?_
        rintro e w13 ⟨rfl, hb13⟩
        have hB13 : Below w.heap.size w w13 := hB11.trans (hb13.mono hB11.size)
        have HS2 := same_any vo lo vp vq m d L L w13 (hV.later hb13) (hl.later hB13)
        rw [sameB_self] at HS2
        replace HS2 : Hid _ := HS2
        go_wp2_with fail
        refine Calls.mono HS2.out ?_
        rintro e w14 ⟨rfl, hb14⟩
        go_wp2
        go_ret
        exact ⟨rfl, hB13.trans (hb14.mono hB13.size)⟩

end Go.Proofs.Ytgmodalpmicmnaa
