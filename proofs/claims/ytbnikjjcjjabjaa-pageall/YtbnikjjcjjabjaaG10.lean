/- PageAll. -/
import Derived.Test.YtbnikjjcjjabjaaG9
namespace Go.Proofs.Ytbnikjjcjjabjaa
open Go.RowKit
set_option linter.unusedVariables false

set_option maxRecDepth 100000 in
set_option maxHeartbeats 1000000 in
theorem pageAll_any {W : World} {a : Option Addr} {n c : Nat} {ops : List Op4} (hx : RdO W a n c ops) :
    Calls Try.prog 3 #[.slice a n c] W fun e w' => e = .returned (.bool true) ∧ Below W.heap.size W w' := by
  have HB : Hid _ := begun_any W
  by_cases hn : 60 < n
  · have g1 : (60 : Int) < (n : Int) := by omega
    clear hx
    go_enter Try.func3, Try.ntmps3
    go_wp2_with fail
    refine Calls.mono HB.out ?_
    rintro e w0 ⟨rfl, hb0⟩
    go_wp2
    go_ret
    exact ⟨rfl, hb0⟩
  · have g1 : ¬ (60 : Int) < (n : Int) := by omega
    have HN : Hid (∀ w', Below W.heap.size W w' → _) := fun w' hb => my_new W w' hb
    go_enter Try.func3, Try.ntmps3
    go_wp2_with fail
    refine Calls.mono HB.out ?_
    rintro e w0 ⟨rfl, hb0⟩
    go_wp2_with fail
    refine Calls.mono (HN.out _ hb0) ?_
    rintro e w1 ⟨g, rfl, m1, -⟩
    have ms : My W (w1.alloc (.cells #[Value.slice none 0 0] 29)) g [] := m1.alloc _
    have ss : Sl W.heap.size W (w1.alloc (.cells #[Value.slice none 0 0] 29)) w1.heap.size [] noP := Sl.made m1.bel.size (World.ownsRow_nil w1 _ _ _) (fun i hi => by simp at hi)
    obtain ⟨q, hq⟩ : ∃ q, w1.heap.size = q := ⟨_, rfl⟩
    obtain ⟨w2, hw2⟩ : ∃ w2, w1.alloc (.cells #[Value.slice none 0 0] 29) = w2 := ⟨_, rfl⟩
    rw [hw2] at ms ss
    rw [hq] at ss
    clear HN HB hb0 m1
    go_upto_region 6 with fail
    clear hw2 hq
    go_wp2
    go_loopw [5] (fun i wr => ∃ (j : Nat) (R : List (List Int)), j ≤ n ∧ i = .int .i64 (j : Int) ∧ Hid (Lt200 R) ∧ My W wr g R ∧ Sl W.heap.size W wr q R noP) (fun i wr => n - (intOf i).toNat)
    case atStart => exact ⟨0, [], Nat.zero_le _, rfl, fun i hi => by simp at hi, ms, ss⟩
    case round =>
      clear ms ss
      obtain ⟨j, R, hj, rfl, hL, m2, s2⟩ := hrel
      by_cases hjl : j < n
      · have hx2 := hx.later m2.bel
        obtain ⟨b1, o1, ha, hcc⟩ := hx2.cells (by omega)
        obtain ⟨K, S, Z, X, k0, k1, k2, k3, c0, c1, c2, c3⟩ := hcc j hjl
        clear hx2 hcc
        subst ha
        go_upto_region 10 with fail
        have m3 := m2.alloc (.cells #[Value.int .i64 K, Value.int .i64 S, Value.int .i64 Z, Value.int .u8 X] 31)
        have s3 := s2.later ((Below.refl wr.heap.size wr).alloc (Nat.le_refl _) (.cells #[Value.int .i64 K, Value.int .i64 S, Value.int .i64 Z, Value.int .u8 X] 31))
        have r3 := heap_alloc_last wr (.cells #[Value.int .i64 K, Value.int .i64 S, Value.int .i64 Z, Value.int .u8 X] 31)
        obtain ⟨ob, hob⟩ : ∃ ob, wr.heap.size = ob := ⟨_, rfl⟩
        obtain ⟨w3, hw3⟩ : ∃ w3, wr.alloc (.cells #[Value.int .i64 K, Value.int .i64 S, Value.int .i64 Z, Value.int .u8 X] 31) = w3 := ⟨_, rfl⟩
        rw [hw3] at m3 s3 r3 ⊢
        rw [hob] at r3 ⊢
        have oc2 : w3.cell? ⟨ob, 2, none⟩ = some (.int .i64 Z) := by rw [cell_of_row _ _ _ _ _ _ r3]; rfl
        clear hw3 hob m2 s2 c0 c1 c2 c3
        go_cut [7] (fun bv wd => ∃ (k x : Nat), bv = .slice (some ⟨x, 0, none⟩) k k ∧ k ≤ 300 ∧ Bx8 w3 wd x (List.replicate k 0) ∧ Below w3.heap.size w3 wd)
        case first =>
          have hmk := fun k (h : k ≤ 300) => make_any k (by omega) w3
          have hbx := fun k => Bx8.new (W := w3) (w := w3) (Below.refl _ _) k
          have hbl := fun k => (Below.refl w3.heap.size w3).alloc (Nat.le_refl _) (.cells (zc k) 5)
          replace hbx : Hid _ := hbx
          replace hbl : Hid _ := hbl
          replace hmk : Hid _ := hmk
          clear m3 s3 r3
          by_cases z1 : Z ≤ 0
          · have HM := hmk.out 0 (by omega)
            rw [show ((0 : Nat) : Int) = 0 from rfl] at HM
            clear hmk
            rcases (by omega : Z < 0 ∨ Z = 0) with z0 | rfl
            · have z4 : ¬ (0 : Int) ≤ Z := by omega
              go_wp2
              go_meet
              exact ⟨0, _, rfl, by omega, hbx.out 0, hbl.out 0⟩
            · go_wp2
              go_meet
              exact ⟨0, _, rfl, by omega, hbx.out 0, hbl.out 0⟩
          · by_cases z3 : Z ≤ 300
            · obtain ⟨k, rfl⟩ : ∃ k : Nat, Z = (k : Int) := ⟨Z.toNat, by omega⟩
              have HM := hmk.out k (by omega)
              have z2 : (0 : Int) ≤ (k : Int) := by omega
              clear hmk
              go_wp2
              go_meet
              exact ⟨k, _, rfl, by omega, hbx.out k, hbl.out k⟩
            · have HM := hmk.out 300 (by omega)
              rw [show ((300 : Nat) : Int) = 300 from rfl] at HM
              have z2 : (0 : Int) ≤ Z := by omega
              clear hmk
              go_wp2
              go_meet
              exact ⟨300, _, rfl, by omega, hbx.out 300, hbl.out 300⟩
        case rest =>
          obtain ⟨k, xb, rfl, hk, bx, hb4⟩ := hcut
          have hxs : w3.heap.size ≤ xb := bx.own
          have hob : ob < w3.heap.size := (Array.getElem?_eq_some_iff.1 r3).1
          have m4 := m3.later hb4
          have s4 := (s3.bar (bad' := fun y => y = xb) (fun y hy e => by subst e; omega)).later hb4
          have r4 : wc.heap[ob]? = some (.cells #[Value.int .i64 K, Value.int .i64 S, Value.int .i64 Z, Value.int .u8 X] 31 (0, 0)) := by rw [hb4.block ob hob]; exact r3
          have oc3 : wc.cell? ⟨ob, 3, none⟩ = some (.int .u8 X) := by rw [cell_of_row _ _ _ _ _ _ r4]; rfl
          have bxW : Bx8 W wc xb (List.replicate k 0) := ⟨bx.row, by have := m3.bel.size; omega⟩
          have hgx := m4.ne8 bxW
          have hbz := by_zeros k
          have hlz : (List.replicate k (0 : Int)).length = k := List.length_replicate
          obtain ⟨bs0, hbs0⟩ : ∃ bs0, List.replicate k (0 : Int) = bs0 := ⟨_, rfl⟩
          rw [hbs0] at bxW hbz hlz
          replace hbz : Hid _ := hbz
          replace hlz : Hid _ := hlz
          clear m3 s3 r3 oc2 hb4 bx hbs0
          go_wp2
          generalize wc = w4 at *
          go_loopw [8] (fun i wr => ∃ (kk : Nat) (bs : List Int), kk ≤ k ∧ i = .int .i64 (kk : Int) ∧ Hid (bs.length = k) ∧ Hid (By bs) ∧ Bx8 W wr xb bs ∧ Rest xb w4 wr) (fun i wr => k - (intOf i).toNat)
          case atStart => exact ⟨0, bs0, Nat.zero_le _, rfl, hlz, hbz, bxW, Rest.refl _ _⟩
          case round =>
            have hrow := bxW.row
            clear bxW hlz hbz
            obtain ⟨kk, bs, hkk, rfl, hl, hby, bx, hr⟩ := hrel
            by_cases hkl : kk < k
            · have ox := hr.cell oc3 (by show ob ≠ xb; omega)
              have cc := bx.cell (i := kk) (by rw [hl.out]; exact hkl)
              have ff := bx.frozen kk
              have hset : Hid (∀ v, _) := fun v => bx.set (i := kk) (v := v)
              have hby2 : Hid (∀ v, 0 ≤ v → v ≤ 255 → By (bs.set kk v)) := fun v h0 h1 => hby.out.set kk h0 h1
              have hkk3 : kk ≤ 300 := by omega
              clear hrow bx r4 m4 s4
              go_wp2
              go_roundw
              case rel => exact ⟨kk + 1, _, hkl, by go_num, by rw [Hid, List.length_set]; exact hl.out, hby2.out _ (by omega) (by omega), hset.out _, hr.trans (Rest.set xb kk wr _)⟩
              case measure => simp [intOf]; omega
            · obtain rfl : kk = k := by omega
              have m5 := m4.other hr bx.own hgx
              have s5 := s4.rest hr hrow ⟨by decide, by decide, fun _ => rfl⟩
              have r5 : wr.heap[ob]? = _ := (hr.block ob (Array.getElem?_eq_some_iff.1 r4).1 (by omega)).trans r4
              have hTW : Hid _ := twin_any (bx.rd hl.out (by omega)) (by omega)
              clear m4 s4 r4 oc3 hrow hr
              go_wp2_with fail
              refine Calls.mono hTW.out ?_
              rintro e w6 ⟨rfl, bt, hb6⟩
              obtain ⟨xt, hxt⟩ : ∃ xt, wr.heap.size = xt := ⟨_, rfl⟩
              rw [hxt] at bt ⊢
              have m6 := m5.later hb6
              have s6 := (s5.bar (bad' := fun y => y = xt) (fun y hy e => by subst e; omega)).later hb6
              have bx6 := bx.later hb6
              have hxx : xb ≠ xt := by have := bx.lt; omega
              have btW : Bx8 W w6 xt (bs ++ e5) := ⟨bt.row, by have := m5.bel.size; omega⟩
              have r6 := (hb6.block ob (Array.getElem?_eq_some_iff.1 r5).1).trans r5
              have S0 : St W g q xt xb ob (K, S, Z, X) bs R R w6 := ⟨m6, s6, btW, bx6, hxx, r6⟩
              have hR62 := m6.fr.2.2
              have c0 : w6.cell? ⟨ob, 0, none⟩ = some (.int .i64 K) := S0.c0
              clear hTW m5 s5 bx bt hb6 hxt m6 s6 bx6 btW r5 r6
              go_upto_region 16 with fail
              go_cut [58] (fun dv wd => ∃ d : Int, 0 ≤ d ∧ d ≤ 6 ∧ dv = .int .i64 d ∧ w6 = wd)
              case first =>
                clear S0
                obtain ⟨kb1, kb2⟩ := kd_bounds K
                go_wp2
                go_meet
                exact ⟨_, kb1, kb2, rfl, rfl⟩
              case rest =>
                obtain ⟨d, hd0, hd6, rfl, rfl⟩ := hcut
                clear c0
                go_upto_block 4 with fail
                go_cut [10, 11, 12, 13, 14] (fun _ _ _ _ _ wd => ∃ R', Hid (Lt200 R') ∧ St W g q xt xb ob (K, S, Z, X) bs R' R' wd)
                case first =>
                  rcases (by omega : d = 0 ∨ d = 1 ∨ d = 2 ∨ d = 3 ∨ d = 4 ∨ d = 5 ∨ d = 6) with rfl | rfl | rfl | rfl | rfl | rfl | rfl
                  · clear hd0 hd6
                    have HP : Hid _ := st_put S0 hl.out hk hby.out
                    have hLn : Hid _ := hL.out.lay (vac_le R) bs
                    have HQ : Hid (∀ R1 w', St W g q xt xb ob (K, S, Z, X) bs R1 R w' → _) := fun R1 w' h => st_putS h hl.out hk hR62 hL.out
                    obtain ⟨P, hP⟩ : ∃ P, putS R bs = P := ⟨_, rfl⟩
                    obtain ⟨E, hE⟩ : ∃ E, layE R (vac R) bs = E := ⟨_, rfl⟩
                    rw [hP, hE] at HP HQ
                    clear hP hE S0
                    go_wp2_with fail
                    refine Calls.mono HP.out ?_
                    rintro e w7 ⟨rfl, S1⟩
                    clear HP
                    go_wp2_with fail
                    refine Calls.mono (HQ.out _ _ S1) ?_
                    rintro e w8 ⟨rfl, S2⟩
                    clear HQ S1
                    go_wp2
                    go_meet
                    exact ⟨_, hLn, S2⟩
                  · clear hd0 hd6
                    have HP : Hid _ := st_put S0 hl.out hk hby.out
                    have hLn : Hid _ := hL.out.lay (vac_le R) bs
                    have HQ : Hid (∀ R1 w', St W g q xt xb ob (K, S, Z, X) bs R1 R w' → _) := fun R1 w' h => st_putS h hl.out hk hR62 hL.out
                    obtain ⟨P, hP⟩ : ∃ P, putS R bs = P := ⟨_, rfl⟩
                    obtain ⟨E, hE⟩ : ∃ E, layE R (vac R) bs = E := ⟨_, rfl⟩
                    rw [hP, hE] at HP HQ
                    clear hP hE S0
                    go_wp2_with fail
                    refine Calls.mono HP.out ?_
                    rintro e w7 ⟨rfl, S1⟩
                    clear HP
                    go_wp2_with fail
                    refine Calls.mono (HQ.out _ _ S1) ?_
                    rintro e w8 ⟨rfl, S2⟩
                    clear HQ S1
                    go_wp2
                    go_meet
                    exact ⟨_, hLn, S2⟩
                  · clear hd0 hd6
                    have HP : Hid _ := st_put S0 hl.out hk hby.out
                    have hLn : Hid _ := hL.out.lay (vac_le R) bs
                    have HQ : Hid (∀ R1 w', St W g q xt xb ob (K, S, Z, X) bs R1 R w' → _) := fun R1 w' h => st_putS h hl.out hk hR62 hL.out
                    obtain ⟨P, hP⟩ : ∃ P, putS R bs = P := ⟨_, rfl⟩
                    obtain ⟨E, hE⟩ : ∃ E, layE R (vac R) bs = E := ⟨_, rfl⟩
                    rw [hP, hE] at HP HQ
                    clear hP hE S0
                    go_wp2_with fail
                    refine Calls.mono HP.out ?_
                    rintro e w7 ⟨rfl, S1⟩
                    clear HP
                    go_wp2_with fail
                    refine Calls.mono (HQ.out _ _ S1) ?_
                    rintro e w8 ⟨rfl, S2⟩
                    clear HQ S1
                    go_wp2
                    go_meet
                    exact ⟨_, hLn, S2⟩
                  · clear hd0 hd6
                    have HH := hasS_any S0.sl S
                    have q1 : w6.cell? ⟨ob, 1, none⟩ = some (.int .i64 S) := S0.c1
                    cases hz : hasZ R S with
                    | false =>
                      rw [hz] at HH
                      replace HH : Hid _ := HH
                      have HD : Hid _ := st_dropno S0 hz
                      go_wp2_with fail
                      refine Calls.mono HH.out ?_
                      rintro e w7 ⟨rfl, rfl⟩
                      clear HH S0
                      go_wp2_with fail
                      refine Calls.mono HD.out ?_
                      rintro e w8 ⟨rfl, S1⟩
                      clear HD q1
                      go_wp2
                      go_meet
                      exact ⟨_, hL, S1⟩
                    | true =>
                      rw [hz] at HH
                      replace HH : Hid _ := HH
                      obtain ⟨s, rfl, hs⟩ := hasZ_is hz
                      have hLn : Hid _ := hL.out.drop s
                      obtain ⟨r7, c7, hc7, hlc7, hcm7, hr7, -, hA7, ⟨u7, hu7⟩, hf7, hset7⟩ := S0.sl.set (rc_lt hs)
                      have S1 : Hid _ := (S0.row hr7 hA7 (hset7 _ _ (.inl ⟨rfl, rfl⟩))).drew
                      have hls := rc_lt hs
                      have HC : Hid (∀ R1 R' w', St W g q xt xb ob (K, (s : Int), Z, X) bs R1 R' w' → _) := fun R1 R' w' h => st_cut h
                      have HD : Hid (∀ R' w', St W g q xt xb ob (K, (s : Int), Z, X) bs R R' w' → _) := fun R' w' h => st_drop h hs
                      obtain ⟨l, hle⟩ : ∃ l, R.length = l := ⟨_, rfl⟩
                      rw [hle] at hc7 hlc7 hls
                      have hls2 : (s : Int) < (l : Int) := by omega
                      clear hset7 hA7 hle hz
                      go_wp2_with fail
                      refine Calls.mono HH.out ?_
                      rintro e w7 ⟨rfl, rfl⟩
                      clear HH S0
                      go_wp2
                      go_region
                      obtain ⟨w8, hw8⟩ : ∃ w8, (w7.setCell ⟨r7, s, none⟩ (.slice none 0 0)).drew = w8 := ⟨_, rfl⟩
                      rw [hw8] at S1 ⊢
                      have q2 : w8.cell? ⟨ob, 1, none⟩ = some (.int .i64 (s : Int)) := S1.out.c1
                      clear hw8 hc7 hu7 hf7 q1
                      go_wp2_with fail
                      refine Calls.mono (HC.out _ _ _ S1.out) ?_
                      rintro e w9 ⟨rfl, S3⟩
                      have q3 : w9.cell? ⟨ob, 1, none⟩ = some (.int .i64 (s : Int)) := S3.c1
                      clear HC S1 q2
                      go_wp2_with fail
                      refine Calls.mono (HD.out _ _ S3) ?_
                      rintro e w10 ⟨rfl, S4⟩
                      clear HD S3 q3
                      go_wp2
                      go_meet
                      exact ⟨_, hLn, S4⟩
                  · clear hd0 hd6
                    have HH := hasS_any S0.sl S
                    have q1 : w6.cell? ⟨ob, 1, none⟩ = some (.int .i64 S) := S0.c1
                    cases hz : hasZ R S with
                    | false =>
                      rw [hz] at HH
                      replace HH : Hid _ := HH
                      have HD : Hid _ := st_dropno S0 hz
                      go_wp2_with fail
                      refine Calls.mono HH.out ?_
                      rintro e w7 ⟨rfl, rfl⟩
                      clear HH S0
                      go_wp2_with fail
                      refine Calls.mono HD.out ?_
                      rintro e w8 ⟨rfl, S1⟩
                      clear HD q1
                      go_wp2
                      go_meet
                      exact ⟨_, hL, S1⟩
                    | true =>
                      rw [hz] at HH
                      replace HH : Hid _ := HH
                      obtain ⟨s, rfl, hs⟩ := hasZ_is hz
                      have hLn : Hid _ := hL.out.drop s
                      obtain ⟨r7, c7, hc7, hlc7, hcm7, hr7, -, hA7, ⟨u7, hu7⟩, hf7, hset7⟩ := S0.sl.set (rc_lt hs)
                      have S1 : Hid _ := (S0.row hr7 hA7 (hset7 _ _ (.inl ⟨rfl, rfl⟩))).drew
                      have hls := rc_lt hs
                      have HC : Hid (∀ R1 R' w', St W g q xt xb ob (K, (s : Int), Z, X) bs R1 R' w' → _) := fun R1 R' w' h => st_cut h
                      have HD : Hid (∀ R' w', St W g q xt xb ob (K, (s : Int), Z, X) bs R R' w' → _) := fun R' w' h => st_drop h hs
                      obtain ⟨l, hle⟩ : ∃ l, R.length = l := ⟨_, rfl⟩
                      rw [hle] at hc7 hlc7 hls
                      have hls2 : (s : Int) < (l : Int) := by omega
                      clear hset7 hA7 hle hz
                      go_wp2_with fail
                      refine Calls.mono HH.out ?_
                      rintro e w7 ⟨rfl, rfl⟩
                      clear HH S0
                      go_wp2
                      go_region
                      obtain ⟨w8, hw8⟩ : ∃ w8, (w7.setCell ⟨r7, s, none⟩ (.slice none 0 0)).drew = w8 := ⟨_, rfl⟩
                      rw [hw8] at S1 ⊢
                      have q2 : w8.cell? ⟨ob, 1, none⟩ = some (.int .i64 (s : Int)) := S1.out.c1
                      clear hw8 hc7 hu7 hf7 q1
                      go_wp2_with fail
                      refine Calls.mono (HC.out _ _ _ S1.out) ?_
                      rintro e w9 ⟨rfl, S3⟩
                      have q3 : w9.cell? ⟨ob, 1, none⟩ = some (.int .i64 (s : Int)) := S3.c1
                      clear HC S1 q2
                      go_wp2_with fail
                      refine Calls.mono (HD.out _ _ S3) ?_
                      rintro e w10 ⟨rfl, S4⟩
                      clear HD S3 q3
                      go_wp2
                      go_meet
                      exact ⟨_, hLn, S4⟩
                  · clear hd0 hd6
                    cases hz : hasZ R S with
                    | false =>
                      have hC : St W g q xt xb ob (K, S, Z, X) bs R R w6.drew := S0.drew
                      have HP : Hid (∀ w', St W g q xt xb ob (K, S, Z, X) bs R R w' → _) := fun w' h => st_setno h hz (.slice (some ⟨xt, 0, none⟩) kk (kk + 3))
                      have HQ : Hid (∀ w', St W g q xt xb ob (K, S, Z, X) bs R R w' → _) := fun w' h => st_setnoS h hz (.slice (some ⟨xb, 0, none⟩) kk kk)
                      have HK : Hid (∀ R1 R2 w', St W g q xt xb ob (K, S, Z, X) bs R1 R2 w' → w'.cell? ⟨ob, 1, none⟩ = some (.int .i64 S)) := fun R1 R2 w' h => h.c1
                      clear S0
                      go_upto_region 33 with fail
                      go_region_held3 (fun w' => w'.cell? ⟨ob, 1, none⟩ = some (.int .i64 S)) (exact HK.out _ _ _ hC)
                        (first | (go_at_call 14; with_reducible refine Calls.mono (HP.out _ hC) ?_; rintro e z1 ⟨rfl, hC2⟩; replace hC := hC2) | (go_at_call 15; with_reducible refine Calls.mono (HQ.out _ hC) ?_; rintro e z1 ⟨rfl, hC2⟩; replace hC := hC2))
                      all_goals
                        clear HP HQ HK
                        go_wp2
                        go_meet
                        exact ⟨_, hL, hC⟩
                    | true =>
                      obtain ⟨s, rfl, hs⟩ := hasZ_is hz
                      have hLn : Hid _ := hL.out.lay (Nat.le_of_lt (rc_lt hs)) bs
                      have hC : St W g q xt xb ob (K, (s : Int), Z, X) bs R R w6.drew := S0.drew
                      have HP : Hid (∀ w', St W g q xt xb ob (K, (s : Int), Z, X) bs R R w' → _) := fun w' h => st_set h hl.out hk hby.out hs
                      have HQ : Hid (∀ w', St W g q xt xb ob (K, (s : Int), Z, X) bs (layR R s bs) R w' → _) := fun w' h => st_setS h hl.out hk hR62 hL.out hs
                      have HK : Hid (∀ R1 R2 w', St W g q xt xb ob (K, (s : Int), Z, X) bs R1 R2 w' → w'.cell? ⟨ob, 1, none⟩ = some (.int .i64 (s : Int))) := fun R1 R2 w' h => h.c1
                      obtain ⟨E, hE⟩ : ∃ E, layE R s bs = E := ⟨_, rfl⟩
                      rw [hE] at HP HQ
                      clear S0 hE hz
                      go_upto_region 33 with fail
                      go_region_held3 (fun w' => w'.cell? ⟨ob, 1, none⟩ = some (.int .i64 (s : Int))) (exact HK.out _ _ _ hC)
                        (first | (go_at_call 14; with_reducible refine Calls.mono (HP.out _ hC) ?_; rintro e z1 ⟨rfl, hC2⟩; replace hC := hC2) | (go_at_call 15; with_reducible refine Calls.mono (HQ.out _ hC) ?_; rintro e z1 ⟨rfl, hC2⟩; replace hC := hC2))
                      all_goals
                        clear HP HQ HK
                        go_wp2
                        go_meet
                        exact ⟨_, hLn, hC⟩
                  · clear hd0 hd6
                    go_wp2
                    go_meet
                    exact ⟨_, hL, S0⟩
                case rest =>
                  clear S0
                  obtain ⟨R', hL', S1⟩ := hcut
                  have hK : Hid _ := kept_any S1.bt (S1.bx.rd hl.out (by omega)) (by omega)
                  go_wp2_with fail
                  refine Calls.mono hK.out ?_
                  rintro e w7 ⟨rfl, rfl⟩
                  clear hK
                  have hSP : Hid _ := spoil_any (n := kk) (cap := kk + 3) S1.bt.row (by simp [e5, hl.out]) (by omega) (by omega)
                  go_wp2_with fail
                  refine Calls.mono hSP.out ?_
                  rintro e w8 ⟨rfl, hr8⟩
                  have m8 := S1.my.other hr8 S1.bt.own (S1.my.ne8 S1.bt)
                  have s8 := S1.sl.rest hr8 S1.bt.row ⟨by decide, by decide, fun _ => rfl⟩
                  replace s8 := s8.bar (bad' := noP) (fun y _ e => e.elim)
                  have hSM : Hid _ := same_any m8 s8 hL'.out
                  clear hSP hr8 S1
                  go_wp2_with fail
                  refine Calls.mono hSM.out ?_
                  rintro e w9 ⟨rfl, hb9⟩
                  have m9 := m8.later hb9
                  have s9 := s8.later hb9
                  clear m8 s8 hSM hb9
                  go_wp2
                  go_roundw
                  case rel => exact ⟨j + 1, R', hjl, by go_num, hL', m9, s9⟩
                  case measure => simp [intOf]; omega
      · obtain rfl : j = n := by omega
        clear hx
        go_wp2
        go_ret
        exact ⟨rfl, m2.bel⟩

end Go.Proofs.Ytbnikjjcjjabjaa
