/- PagePushes. -/
import Derived.Test.YtbnikjjcjjabjaaG1
namespace Go.Proofs.Ytbnikjjcjjabjaa
open Go.RowKit
set_option linter.unusedVariables false

theorem my_put0 {W : World} {g : Nat} {R : List (List Int)} (k : Nat) (hk : k ≤ 1000) (w : World) (hw : My W w g R) : Calls Try.prog 9 #[.pointer (some ⟨g, 0, none⟩), .slice (some ⟨w.heap.size, 0, none⟩) k k] (w.alloc (.cells (zc k) 5)) fun e w' => e = .returned (.tuple #[.int .i64 (putS R (List.replicate k 0)), .int .i64 (layE R (vac R) (List.replicate k 0))]) ∧ My W w' g (layR R (vac R) (List.replicate k 0)) ∧ Rest g w w' := by
  have h1 := hw.alloc (.cells (zc k) 5)
  obtain ⟨B, p⟩ := h1.pg
  refine Calls.mono (put_any p (Rd.zeros w k hk) (by_zeros k) (fun a ha => by cases ha; have := hw.lt; show w.heap.size ≠ g; omega)) ?_
  rintro e w' ⟨rfl, hp, hr⟩
  exact ⟨rfl, h1.turn hr hp, (Rest.of ((Below.refl _ _).alloc (Nat.le_refl _) _)).trans hr⟩
theorem my_drop {W : World} {g : Nat} {R : List (List Int)} {s : Nat} (hs : rc R s ≠ []) (w : World) (hw : My W w g R) : Calls Try.prog 13 #[.pointer (some ⟨g, 0, none⟩), .int .i64 (s : Int)] w fun e w' => e = .returned (.int .i64 0) ∧ My W w' g (trimR (R.set s [])) := by
  obtain ⟨B, p⟩ := hw.pg
  refine Calls.mono (drop_any p s hs) ?_
  rintro e w' ⟨rfl, hp, hr⟩
  exact ⟨rfl, hw.turn hr hp⟩
theorem my_slots {W : World} {g : Nat} {R : List (List Int)} (w : World) (hw : My W w g R) : Calls Try.prog 21 #[.pointer (some ⟨g, 0, none⟩)] w fun e w' => ∃ ao c, e = .returned (.slice ao (prI R R.length).length c) ∧ Rd .i64 w' ao (prI R R.length).length c (prI R R.length) ∧ My W w' g R ∧ Below w.heap.size w w' := by
  obtain ⟨B, p⟩ := hw.pg
  refine Calls.mono (slots_any p) ?_
  rintro e w' ⟨⟨v, rfl, hown⟩, hb⟩
  obtain ⟨ao, c, rfl, hr, _⟩ := hown.rd
  exact ⟨ao, c, rfl, hr, hw.later hb, hb⟩
theorem my_free {W : World} {g : Nat} {R : List (List Int)} (w : World) (hw : My W w g R) : Calls Try.prog 19 #[.pointer (some ⟨g, 0, none⟩)] w fun e w' => e = .returned (.int .i64 (freeR R)) ∧ My W w' g R ∧ Below w.heap.size w w' := by
  obtain ⟨B, p⟩ := hw.pg
  refine Calls.mono (free_any p) ?_
  rintro e w' ⟨rfl, hb⟩
  exact ⟨rfl, hw.later hb, hb⟩
theorem My.fr {W w : World} {g : Nat} {R : List (List Int)} (h : My W w g R) : 0 ≤ freeR R ∧ freeR R ≤ 248 ∧ R.length ≤ 62 := by
  obtain ⟨B, p⟩ := h.pg
  have h1 := p.iv.fr
  have h2 := p.iv.few
  refine ⟨h1, ?_, h2.1⟩
  simp only [freeR]; omega

theorem my_put {W w : World} {g q n : Nat} {R : List (List Int)} {bs : List Int} (hw : My W w g R) (hbx : Bx8 W w q bs) (hn : bs.length = n) (hby : By bs) (hne : q ≠ g) (h0 : 1 ≤ n) (h2 : n ≤ 200) (hf : 0 ≤ freeR (setR R (vac R) bs)) : Calls Try.prog 9 #[.pointer (some ⟨g, 0, none⟩), .slice (some ⟨q, 0, none⟩) n n] w fun e w' => e = .returned (.tuple #[.int .i64 (vac R : Int), .int .i64 0]) ∧ My W w' g (setR R (vac R) bs) ∧ Bx8 W w' q bs := by
  obtain ⟨B, p⟩ := hw.pg
  have he : layE R (vac R) bs = 0 := layE_ok (by omega) (by omega) hf
  refine Calls.mono (put_any p (hbx.rd hn (by omega)) hby (fun a ha => by cases ha; exact hne)) ?_
  rintro e w' ⟨rfl, hp, hr⟩
  rw [layR, if_pos he] at hp
  exact ⟨by rw [putS, if_pos he, he], hw.turn hr hp, hbx.rest hr hne⟩
theorem my_get {W w : World} {g : Nat} {R : List (List Int)} (hw : My W w g R) {s n : Nat} {bs : List Int} (hs : rc R s = bs) (hb : bs ≠ []) (hn : bs.length = n) : Calls Try.prog 20 #[.pointer (some ⟨g, 0, none⟩), .int .i64 (s : Int)] w fun e w' => ∃ ao c, e = .returned (.tuple #[.slice ao n c, .int .i64 0]) ∧ Rd .u8 w' ao n c bs ∧ My W w' g R ∧ Below w.heap.size w w' := by
  obtain ⟨B, p⟩ := hw.pg
  subst hs hn
  refine Calls.mono (get_any p s hb) ?_
  rintro e w' ⟨⟨v, rfl, ho⟩, hr⟩
  obtain ⟨ao, c, rfl, h1, -⟩ := ho.blk
  exact ⟨ao, c, rfl, h1, hw.later hr, hr⟩

set_option maxRecDepth 100000 in
set_option maxHeartbeats 1000000 in
theorem pagePushes_any {W : World} {a b : Option Addr} {n c m d : Nat} {xs ys : List Int} (hx : Rd .u8 W a n c xs) (hxb : By xs) (hy : Rd .u8 W b m d ys) (hyb : By ys) :
    Calls Try.prog 5 #[.slice a n c, .slice b m d] W fun e w' => e = .returned (.bool true) ∧ Below W.heap.size W w' := by
  have HB : Hid _ := begun_any W
  by_cases hn : 50 < n ∨ 50 < m
  · have g1 : decide ((50 : Int) < (n : Int)) = true ∨ decide ((50 : Int) < (m : Int)) = true := hn.imp (fun h => decide_eq_true (by omega)) (fun h => decide_eq_true (by omega))
    by_cases k1 : 50 < n
    · have e1 : (50 : Int) < (n : Int) := by omega
      have e2 : decide ((50 : Int) < (n : Int)) = true := decide_eq_true e1
      clear g1 hn k1
      go_enter Try.func5, Try.ntmps5
      go_wp2_with fail
      refine Calls.mono HB.out ?_
      rintro e w0 ⟨rfl, hb0⟩
      go_wp2
      go_ret
      exact ⟨rfl, hb0⟩
    · have e1 : ¬ (50 : Int) < (n : Int) := by omega
      have e2 : decide ((50 : Int) < (n : Int)) = false := decide_eq_false e1
      have e3 : (50 : Int) < (m : Int) := by omega
      have e4 : decide ((50 : Int) < (m : Int)) = true := decide_eq_true e3
      clear g1 hn k1
      go_enter Try.func5, Try.ntmps5
      go_wp2_with fail
      refine Calls.mono HB.out ?_
      rintro e w0 ⟨rfl, hb0⟩
      go_wp2
      go_ret
      exact ⟨rfl, hb0⟩
  · have g1 : ¬ (50 : Int) < (n : Int) := by omega
    have g2 : ¬ (50 : Int) < (m : Int) := by omega
    have g3 : decide ((50 : Int) < (n : Int)) = false := decide_eq_false g1
    have g4 : decide ((50 : Int) < (m : Int)) = false := decide_eq_false g2
    have HN : Hid (∀ w', Below W.heap.size W w' → _) := fun w' hb => my_new W w' hb
    clear hn
    go_enter Try.func5, Try.ntmps5
    go_wp2_with fail
    refine Calls.mono HB.out ?_
    rintro e w0 ⟨rfl, hb0⟩
    go_wp2_with fail
    refine Calls.mono (HN.out _ hb0) ?_
    rintro e w1 ⟨g, rfl, m1, -⟩
    clear HN HB hb0
    go_wp2
    go_loopw [6] (fun i wr => ∃ (j : Nat) (R : List (List Int)), j ≤ n ∧ i = .int .i64 (j : Int) ∧ Hid (Tm R) ∧ My W wr g R) (fun i wr => n - (intOf i).toNat)
    case atStart => exact ⟨0, [], Nat.zero_le _, rfl, .inl rfl, m1⟩
    case round =>
      obtain ⟨j, R, hj, rfl, hT, m2⟩ := hrel
      clear m1
      by_cases hjl : j < n
      · have hx2 := hx.later m2.bel
        obtain ⟨b1, o, ha, hcc⟩ := hx2.cells (by omega)
        have hc0 := hcc j hjl
        obtain ⟨y0, y1⟩ := hxb.nth j
        obtain ⟨y, hy1⟩ : ∃ y, nth xs j = y := ⟨_, rfl⟩
        rw [hy1] at hc0 y0 y1
        obtain ⟨k, hk⟩ : ∃ k : Nat, (1 : Int) + y % 40 = (k : Int) := ⟨(1 + y % 40).toNat, by omega⟩
        have hk2 : k ≤ 40 := by omega
        have HMK := make_any k (by omega)
        have hput := my_put0 (W := W) (g := g) (R := R) k (by omega) wr m2
        obtain ⟨z, hz⟩ : ∃ z, zc k = z := ⟨_, rfl⟩
        rw [hz] at HMK hput
        have hT2 : Hid _ := layR_tm hT.out (vac_le R) (List.replicate k 0)
        obtain ⟨v, hv⟩ : ∃ v, Value.tuple #[.int .i64 (putS R (List.replicate k 0)), .int .i64 (layE R (vac R) (List.replicate k 0))] = v := ⟨_, rfl⟩
        rw [hv] at hput
        replace hput : Hid _ := hput
        clear hcc hy1 hx2 hz hv
        subst ha
        go_wp2_with fail
        refine Calls.mono hput.out ?_
        rintro e w4 ⟨rfl, m4, -⟩
        clear hput m2
        go_wp2
        go_roundw
        case rel => exact ⟨j + 1, _, hjl, by go_num, hT2, m4⟩
        case measure => simp [intOf]; omega
      · obtain rfl : j = n := by omega
        clear hx hxb
        go_wp2
        generalize wr = wz at *
        go_loopw [7] (fun i wr => ∃ (j : Nat) (R : List (List Int)), j ≤ m ∧ i = .int .i64 (j : Int) ∧ Hid (Tm R) ∧ My W wr g R) (fun i wr => m - (intOf i).toNat)
        case atStart => exact ⟨0, R, Nat.zero_le _, rfl, hT, m2⟩
        case round =>
          clear hT m2
          obtain ⟨i, R, hi, rfl, hT, m2⟩ := hrel
          by_cases hil : i < m
          · have hy2 := hy.later m2.bel
            obtain ⟨b1, o, ha, hcc⟩ := hy2.cells (by omega)
            have hc0 := hcc i hil
            obtain ⟨y0, y1⟩ := hyb.nth i
            obtain ⟨y, hy1⟩ : ∃ y, nth ys i = y := ⟨_, rfl⟩
            rw [hy1] at hc0 y0 y1
            have hsl : Hid _ := my_slots wr m2
            obtain ⟨L, hL⟩ : ∃ L, prI R R.length = L := ⟨_, rfl⟩
            have hmem : ∀ t, t < L.length → ∃ s : Nat, nth L t = (s : Int) ∧ rc R s ≠ [] := fun t ht => by
              have ht2 : t < (prs R R.length).length := by rw [← hL] at ht; simpa [prI] using ht
              refine ⟨(prs R R.length)[t], by rw [← hL]; simp [prI, nth, ht2], (prs_mem.1 (List.getElem_mem ht2)).2⟩
            rw [hL] at hsl
            obtain ⟨l, hl⟩ : ∃ l, L.length = l := ⟨_, rfl⟩
            have hll : l ≤ 62 := by have := prI_len R R.length; have := m2.fr; rw [hL] at *; omega
            rw [hl] at hsl hmem
            replace hmem : Hid _ := hmem
            subst ha
            clear hcc hy1 hy2 hL hl
            go_wp2_with fail
            refine Calls.mono hsl.out ?_
            rintro e w4 ⟨sa, sc, rfl, hsr, m4, hb4⟩
            have hc1 := cell_later hb4 hc0
            clear hsl m2 hc0 hb4
            by_cases hl0 : 0 < l
            · have q0 := Int.emod_nonneg y (show (l : Int) ≠ 0 by omega)
              have q1 := Int.emod_lt_of_pos y (show (0 : Int) < l by omega)
              obtain ⟨t, ht⟩ : ∃ t : Nat, y % (l : Int) = (t : Int) := ⟨(y % l).toNat, by omega⟩
              have htl : t < l := by omega
              obtain ⟨s, hs1, hs2⟩ := hmem.out t htl
              obtain ⟨b2, o2, ha2, hcc2⟩ := hsr.cells hl0
              have hc2 := hcc2 t htl
              rw [hs1] at hc2
              have hdr : Hid _ := my_drop (W := W) (g := g) hs2 w4 m4
              have hT2 : Hid _ := trimR_tm (R.set s [])
              subst ha2
              have g5 : ((l : Int) == 0) = false := by simp; omega
              have g6 : ¬ ((l : Int) = 0) := by omega
              clear hcc2 hs1 hs2 hsr hmem q0 q1
              go_wp2_with fail
              refine Calls.mono hdr.out ?_
              rintro e w5 ⟨rfl, m5⟩
              clear hdr m4
              go_wp2
              go_roundw
              case rel => exact ⟨i + 1, _, hil, by go_num, hT2, m5⟩
              case measure => simp [intOf]; omega
            · obtain rfl : l = 0 := by omega
              go_wp2
              go_roundw
              case rel => exact ⟨i + 1, R, hil, by go_num, hT, m4⟩
              case measure => simp [intOf]; omega
          · obtain rfl : i = m := by omega
            clear hy hyb
            have hsl : Hid _ := my_slots wr m2
            have hho := hole_iff hT.out
            have hat : Hid (∀ t, t < (prI R R.length).length → _) := fun t ht => prI_at R R.length t ht
            have hvl := vac_le R
            obtain ⟨L, hL⟩ : ∃ L, prI R R.length = L := ⟨_, rfl⟩
            have hll : L.length ≤ 62 := by have := prI_len R R.length; have := m2.fr; rw [hL] at *; omega
            rw [hL] at hsl hat hho
            obtain ⟨l, hl⟩ : ∃ l, L.length = l := ⟨_, rfl⟩
            rw [hl] at hsl hat hho hll
            obtain ⟨v, hv⟩ : ∃ v, vac R = v := ⟨_, rfl⟩
            rw [hv] at hat hho hvl
            replace hv : Hid _ := hv
            replace hho : Hid _ := hho
            clear hL hl
            go_wp2_with fail
            refine Calls.mono hsl.out ?_
            rintro e w4 ⟨sa, sc, rfl, hsr, m4, -⟩
            clear hsl m2
            go_wp2
            generalize wr = wy at *
            go_loopw [10, 11] (fun h i wr => ∃ k : Nat, k ≤ l ∧ i = .int .i64 (k : Int) ∧ h = .bool (decide (v < k)) ∧ wr = w4) (fun h i wr => l - (intOf i).toNat)
            case atStart => exact ⟨0, Nat.zero_le _, rfl, by simp, rfl⟩
            case round =>
              obtain ⟨k, hk, rfl, rfl, rfl⟩ := hrel
              by_cases hkl : k < l
              · obtain ⟨b2, o2, ha2, hcc2⟩ := hsr.cells (by omega)
                have hc2 := hcc2 k hkl
                have hak := hat.out k hkl
                obtain ⟨x, hx⟩ : ∃ x, nth L k = x := ⟨_, rfl⟩
                rw [hx] at hc2 hak
                subst ha2
                clear hcc2 hx
                by_cases hvk : v < k
                · have e1 : decide (v < k) = true := decide_eq_true hvk
                  have e2 : decide (v < k + 1) = true := decide_eq_true (by omega)
                  rw [e1]
                  clear hak e1
                  go_wp2
                  go_roundw
                  case rel => exact ⟨k + 1, hkl, by go_num, by rw [e2], trivial⟩
                  case measure => simp [intOf]; omega
                · have e1 : decide (v < k) = false := decide_eq_false hvk
                  have e2 : (x != (k : Int)) = decide (v < k + 1) := by
                    rw [bne, hak, Bool.eq_iff_iff]; simp; omega
                  rw [e1]
                  replace e2 : Hid _ := e2
                  clear hak e1
                  go_wp2
                  go_roundw
                  case rel => exact ⟨k + 1, hkl, by go_num, by rw [← e2.out], trivial⟩
                  case measure => simp [intOf]; omega
              · obtain rfl : k = l := by omega
                rw [hho.out]
                have hfr := my_free (W := W) (g := g) (R := R)
                have hvs := fun b => vacSet_free (R := R) b
                obtain ⟨f0, f1, f2⟩ := m4.fr
                obtain ⟨r, hr⟩ : ∃ r, R.length = r := ⟨_, rfl⟩
                rw [hr] at f2 hvl hvs ⊢
                rw [hv.out] at hvs
                obtain ⟨N, hN⟩ : ∃ N, freeR R - (if v < r then 0 else 4) = N := ⟨_, rfl⟩
                have hvs2 : Hid (∀ b : List Int, freeR (setR R v b) = N - b.length) := fun b => by rw [hvs b, ← hN]; omega
                obtain ⟨fz, hfz⟩ : ∃ fz, freeR R = fz := ⟨_, rfl⟩
                rw [hfz] at hfr f0 f1 hN
                replace hfr : Hid _ := hfr
                clear hvs hho hat hsr
                go_wp2_with fail
                refine Calls.mono (hfr.out _ m4) ?_
                rintro e w5 ⟨rfl, m5, -⟩
                clear m4
                go_upto_if 93 with fail
                go_cut [10, 12] (fun _ nv wd => nv = .int .i64 N ∧ My W wd g R)
                case first =>
                  by_cases hvr : v < r
                  · have e1 : decide (v < r) = true := decide_eq_true hvr
                    rw [if_pos hvr] at hN
                    rw [e1]
                    clear e1
                    go_wp2_with fail
                    refine Calls.mono (hfr.out _ m5) ?_
                    rintro e w6 ⟨rfl, m6, -⟩
                    go_wp2
                    go_meet
                    exact ⟨by rw [← hN]; simp, m6⟩
                  · have e1 : decide (v < r) = false := decide_eq_false hvr
                    rw [if_neg hvr] at hN
                    rw [e1]
                    clear e1
                    go_wp2
                    go_meet
                    exact ⟨by rw [← hN], m5⟩
                case rest =>
                  clear m5
                  obtain ⟨rfl, m5⟩ := hcut
                  have hN1 : N ≤ 248 := by rw [← hN]; split <;> omega
                  clear hN
                  by_cases hN0 : N < 1
                  · go_wp2
                    go_ret
                    exact ⟨rfl, m5.bel⟩
                  · obtain ⟨p, hp⟩ : ∃ p : Nat, N = (p : Int) := ⟨N.toNat, by omega⟩
                    subst hp
                    obtain ⟨u, hu⟩ : ∃ u : Nat, min p 200 = u := ⟨_, rfl⟩
                    have hu1 : min (p : Int) 200 = (u : Int) := by omega
                    have hu2 : u ≤ 200 := by omega
                    have hu3 : u ≤ p := by omega
                    have hu4 : 1 ≤ u := by omega
                    have HMK := make_any u (by omega)
                    have hp1 : ¬ (p : Int) < 1 := hN0
                    have hp2 : (p : Int) ≤ 248 := hN1
                    go_upto_region 28 with fail
                    go_cut [13] (fun bv wd => ∃ q, bv = .slice (some ⟨q, 0, none⟩) u u ∧ My W wd g R ∧ Bx8 W wd q (List.replicate u 0) ∧ q ≠ g)
                    case first =>
                      have hbx := Bx8.new (W := W) m5.bel u
                      have m6 := m5.alloc (.cells (zc u) 5)
                      have hgl := m5.lt
                      obtain ⟨z, hz⟩ : ∃ z, zc u = z := ⟨_, rfl⟩
                      rw [hz] at hbx m6 HMK
                      replace hbx : Hid _ := hbx
                      replace m6 : Hid _ := m6
                      clear hz m5
                      by_cases h2 : p ≤ 200
                      · obtain rfl : u = p := by omega
                        have hm1 : (u : Int) ≤ 200 := by omega
                        clear hu hu1
                        go_wp2
                        go_meet
                        exact ⟨_, rfl, m6.out, hbx.out, by omega⟩
                      · obtain rfl : u = 200 := by omega
                        rw [show ((200 : Nat) : Int) = 200 from rfl] at HMK
                        have hm1 : ¬ (p : Int) ≤ 200 := by omega
                        clear hu hu1
                        go_wp2
                        go_meet
                        exact ⟨_, rfl, m6.out, hbx.out, by omega⟩
                    case rest =>
                      clear m5
                      obtain ⟨q, rfl, m6, hbx, hqg⟩ := hcut
                      clear HMK
                      go_wp2
                      generalize wc = wx at *
                      go_loopw [14] (fun i wr => ∃ (k : Nat) (bs : List Int), k ≤ u ∧ i = .int .i64 (k : Int) ∧ My W wr g R ∧ Bx8 W wr q bs ∧ bs.length = u ∧ Hid (By bs)) (fun i wr => u - (intOf i).toNat)
                      case atStart => exact ⟨0, _, Nat.zero_le _, rfl, m6, hbx, List.length_replicate, by_zeros u⟩
                      case round =>
                        clear m6 hbx
                        obtain ⟨k, bs, hk, rfl, m6, hbx, hbl, hby⟩ := hrel
                        by_cases hku : k < u
                        · have c0 := hbx.cell (i := k) (by omega)
                          have f0 := hbx.frozen k
                          have hset := fun v => hbx.set (i := k) (v := v)
                          have hms := fun v => m6.set8 hbx.own (Ne.symm hqg) k v
                          have hk3 : k ≤ 200 := by omega
                          replace hset : Hid _ := hset
                          replace hms : Hid _ := hms
                          have hwr : IntKind.i64.wrap ((k : Int) * 7) = (k : Int) * 7 := by rw [IntKind.wrap_i64]; omega
                          have hby2 : Hid (∀ v, 0 ≤ v → v ≤ 255 → By (bs.set k v)) := fun v h0 h1 => hby.out.set k h0 h1
                          replace hbl : Hid _ := hbl
                          clear hbx m6
                          go_wp2
                          go_roundw
                          case rel => exact ⟨k + 1, _, hku, by go_num, hms.out _, hset.out _, by rw [List.length_set]; exact hbl.out, hby2.out _ (by omega) (by omega)⟩
                          case measure => simp [intOf]; omega
                        · obtain rfl : k = u := by omega
                          have hk2 : k ≤ 200 := hu2
                          go_upto_if 114 with fail
                          go_cut [15, 16] (fun _ _ wd => My W wd g R ∧ Bx8 W wd q bs)
                          case first =>
                            by_cases h2 : p < 200
                            · obtain ⟨v1, hv1⟩ : ∃ v1 : Nat, p + 1 = v1 := ⟨_, rfl⟩
                              have hv2 : (p : Int) + 1 = (v1 : Int) := by omega
                              have HMK := make_any v1 (by omega)
                              have hput := my_put0 (W := W) (g := g) (R := R) v1 (by omega) wr m6
                              have he : layE R (vac R) (List.replicate v1 0) = 25 := layE_full (by simp; omega) (by simp; omega) (by rw [hv.out, hvs2.out]; simp; omega)
                              rw [he, show layR R (vac R) (List.replicate v1 0) = R from by rw [layR, he, if_neg (by decide)], show putS R (List.replicate v1 0) = 0 from by rw [putS, he, if_neg (by decide)]] at hput
                              obtain ⟨z, hz⟩ : ∃ z, zc v1 = z := ⟨_, rfl⟩
                              rw [hz] at hput HMK
                              have hd1 : decide ((p : Int) < 200) = true := decide_eq_true (by omega)
                              have hd2 : (p : Int) < 200 := by omega
                              have hv3 : (v1 : Int) ≤ 201 := by omega
                              replace hput : Hid _ := hput
                              replace hbx : Hid _ := hbx
                              clear hz he hv1
                              go_wp2_with fail
                              refine Calls.mono hput.out ?_
                              rintro e w8 ⟨rfl, m8, hr8⟩
                              have hbx2 := hbx.out.rest hr8 hqg
                              clear hput m6 hr8 hbx
                              go_wp2
                              go_meet
                              exact ⟨m8, hbx2⟩
                            · have hd1 : decide ((p : Int) < 200) = false := decide_eq_false (by omega)
                              have hd2 : ¬ (p : Int) < 200 := by omega
                              go_wp2
                              go_meet
                              exact ⟨m6, hbx⟩
                          case rest =>
                            clear m6 hbx
                            obtain ⟨m6, hbx⟩ := hcut
                            have hf2 : 0 ≤ freeR (setR R (vac R) bs) := by rw [hv.out, hvs2.out, hbl]; omega
                            have hR2 : freeR (setR R (vac R) bs) = ((p - k : Nat) : Int) := by rw [hv.out, hvs2.out, hbl]; omega
                            have hrc : rc (setR R (vac R) bs) (vac R) = bs := setR_same (vac_le R) bs
                            have hput := my_put m6 hbx hbl hby.out hqg hu4 hk2 hf2
                            obtain ⟨R2, hR⟩ : ∃ R2, setR R (vac R) bs = R2 := ⟨_, rfl⟩
                            rw [hR] at hR2 hrc hput
                            rw [hv.out] at hrc hput
                            have hne : bs ≠ [] := fun e => by rw [e] at hbl; simp at hbl; omega
                            replace hput : Hid _ := hput
                            clear hR hf2 m6 hbx hvs2
                            go_wp2_with fail
                            refine Calls.mono hput.out ?_
                            rintro e w8 ⟨rfl, m8, hbx8⟩
                            have hget : Hid _ := my_get m8 hrc hne hbl
                            clear hput m8
                            have hlt8 := hbx8.lt
                            go_wp2_with fail
                            refine Calls.mono hget.out ?_
                            rintro e w9 ⟨ga, gc, rfl, hrd, m9, hb9⟩
                            have cv1 := conv_rd ((hbx8.later hb9).rd hbl (by omega))
                            have cv2 := conv_rd hrd
                            have hfr2 := my_free (W := W) (g := g) (R := R2) w9 m9
                            rw [hR2] at hfr2
                            have hpk : (p : Int) - (k : Int) = ((p - k : Nat) : Int) := by omega
                            obtain ⟨S, hS⟩ : ∃ S, strOfNums bs = S := ⟨_, rfl⟩
                            rw [hS] at cv1 cv2
                            obtain ⟨pk, hpk2⟩ : ∃ pk, p - k = pk := ⟨_, rfl⟩
                            rw [hpk2] at hpk hfr2
                            replace hfr2 : Hid _ := hfr2
                            clear hget hrd hbx8 hS hpk2 hR2 hrc hbl hby m9 hb9 hlt8
                            go_wp2_with fail
                            refine Calls.mono hfr2.out ?_
                            rintro e wq ⟨rfl, m10, -⟩
                            go_wp2
                            go_ret
                            exact ⟨by simp, m10.bel⟩

end Go.Proofs.Ytbnikjjcjjabjaa
