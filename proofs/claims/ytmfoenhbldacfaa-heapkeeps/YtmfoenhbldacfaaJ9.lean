/- HeapKeeps: the walk. -/
import Derived.Test.YtmfoenhbldacfaaJ8
namespace Go.Proofs.Ytmfoenhbldacfaa
open Go.RowKit
set_option linter.unusedVariables false
set_option linter.unusedSimpArgs false

theorem Rd.at {w : World} {ao : Option Addr} {n c : Nat} {xs : List Int} (h : Rd .u8 w ao n c xs) (hy : By xs) {i : Nat} (hi : i < n) : ∃ b o x, ao = some ⟨b, o, none⟩ ∧ nth xs i = ((x : Nat) : Int) ∧ x < 256 ∧ ∀ w', Below w.heap.size w w' → w'.cell? ⟨b, o + i, none⟩ = some (.int .u8 (x : Int)) := by
  obtain ⟨b, o, rfl, hc⟩ := h.cells (by omega)
  have hb := hy.nth i
  refine ⟨b, o, (nth xs i).toNat, rfl, by omega, by omega, fun w' k => ?_⟩
  rw [show (((nth xs i).toNat : Nat) : Int) = nth xs i from by omega]
  exact bcl k (hc i hi)

theorem zcs_set (n : Nat) (x : Int) : (zcs n).setIfInBounds 0 (.int .u8 x) = (((List.replicate n (0 : Int)).set 0 x).map (Value.int .u8)).toArray := by
  unfold zcs
  rw [List.map_set]
  exact List.setIfInBounds_toArray ..
set_option maxRecDepth 100000 in
set_option maxHeartbeats 2000000 in
theorem heapKeeps_any {w : World} {a0 a1 a2 : Option Addr} {n0 c0 n1 c1 n2 c2 : Nat} {I S D : List Int} (h0 : Rd .u8 w a0 n0 c0 I) (u0 : By I) (h1 : Rd .u8 w a1 n1 c1 S) (u1 : By S) (h2 : Rd .u8 w a2 n2 c2 D) (u2 : By D) :
    Calls Try.prog 5 #[.slice a0 n0 c0, .slice a1 n1 c1, .slice a2 n2 c2] w fun e w' => e = .returned (.bool true) ∧ Below w.heap.size w w' := by
  have HB : Hid _ := begun14_any w
  have m0 := h0.max
  have m1 := h1.max
  have m2 := h2.max
  have l0 := h0.cap
  have l1 := h1.cap
  have l2 := h2.cap
  by_cases hbig : n0 ≤ 60 ∧ n1 ≤ 60 ∧ n2 ≤ 30
  · obtain ⟨b0, b1, b2⟩ := hbig
    have g0 : decide ((60 : Int) < (n0 : Int)) = false := by simp; omega
    have g1 : decide ((60 : Int) < (n1 : Int)) = false := by simp; omega
    have g2 : decide ((30 : Int) < (n2 : Int)) = false := by simp; omega
    have HN : Hid (∀ w1, Below w.heap.size w w1 → _) := fun w1 k => hnew_any w1 w.heap.size k.size
    have HI : Hid (∀ i, i < n0 → _) := fun i hi => h0.at u0 hi
    have HS : Hid (∀ i, i < n1 → _) := fun i hi => h1.at u1 hi
    have HD : Hid (∀ i, i < n2 → _) := fun i hi => h2.at u2 hi
    obtain ⟨Z, hZ, hzs, hzz, hzi⟩ := zero_last
    replace hZ : Hid _ := hZ
    clear h0 h1 h2 u0 u1 u2
    go_enter Try.func5, Try.ntmps5
    go_wp2_with fail
    refine Calls.mono HB.out ?_
    rintro e w1 ⟨rfl, hb1⟩
    have K1 : Hid _ := HN.out w1 hb1
    clear HB HN
    go_wp2_with fail
    refine Calls.mono K1.out ?_
    rintro e w2 ⟨hb, rfl, hA2, hb2⟩
    have hB2 : Below w.heap.size w w2 := bthen hb1 hb2
    clear K1 hb1 hb2
    go_wp2_with fail
    have hL0 : La (w2.alloc (.cells Z 50)) w2.heap.size (List.replicate 256 0) := ⟨by rw [← hZ.out]; exact heap_alloc_last w2 _, List.length_replicate⟩
    have hbl : Below w2.heap.size w2 (w2.alloc (.cells Z 50)) := (Below.refl _ _).alloc (Nat.le_refl _) _
    have hA3 := hA2.later hbl
    have hB3 : Below w.heap.size w (w2.alloc (.cells Z 50)) := bthen hB2 hbl
    have hla : w.heap.size ≤ w2.heap.size := hB2.size
    generalize (w2.alloc (.cells Z 50)) = W3 at *
    generalize w2.heap.size = la at *
    have hK0 : Hid _ := KM.zero
    clear hZ hzs hzz hzi hbl hA2 hB2
    go_loopw [9, 10, 11] (fun v9 _ _ wr => ∃ (i : Nat) (T : List Int) (M : Int → Option (List Int)) (N : Nat), i ≤ n0 ∧ v9 = .int .i64 (i : Int) ∧ HA w.heap.size wr hb M N i ∧ Hid (KM T M) ∧ N ≤ i ∧ La wr la T ∧ Below w.heap.size w wr) (fun v9 _ _ _ => n0 - (intOf v9).toNat)
    case atStart => exact ⟨0, _, _, 0, Nat.zero_le _, rfl, hA3, hK0, Nat.le_refl _, hL0, hB3⟩
    case round =>
      obtain ⟨i, T, M, N, hi, rfl, hA, hK, hNi, hLa, hB⟩ := hrel
      clear hA3 hK0 hL0 hB3
      by_cases hlt : i < n0
      · have g3 : decide ((i : Int) < (n0 : Int)) = true := by simpa using hlt
        have hin : (i : Int) < (n0 : Int) := by omega
        obtain ⟨cnd, hcnd⟩ : ∃ cnd, decide (i < n1) = cnd := ⟨_, rfl⟩
        go_upto_if 42 with fail
        go_cut [10] (fun v wd => ∃ n : Nat, v = .int .i64 (n : Int) ∧ 1 ≤ n ∧ n ≤ 200 ∧ wd = wr)
        case first =>
          cases cnd with
          | true =>
            have hi1 : i < n1 := by have := of_decide_eq_true hcnd; omega
            obtain ⟨b, o, x, rfl, -, hx, hc⟩ := HS.out i hi1
            have c1 := hc wr hB
            have hin1 : (i : Int) < (n1 : Int) := by omega
            go_wp2
            go_meet
            exact ⟨1 + x % 200, by go_num, by omega, by omega, rfl⟩
          | false =>
            go_wp2
            go_meet
            exact ⟨1, rfl, by omega, by omega, rfl⟩
        case rest =>
          obtain ⟨n, rfl, hn1, hn2, hwe⟩ := hcut
          subst hwe
          have hQ : (wc.alloc (.cells (zcs n) 5)).heap[wc.heap.size]? = some (.cells (zcs n) 5 (0, 0)) := heap_alloc_last wc _
          have q0 : (wc.alloc (.cells (zcs n) 5)).cell? ⟨wc.heap.size, 0, none⟩ = some (.int .u8 0) := by
            have hnp : 0 < n := by omega
            rw [cell_of_row _ _ _ _ _ _ hQ]; simp [zcs, hnp]
          have q1 : (wc.alloc (.cells (zcs n) 5)).frozen? ⟨wc.heap.size, 0, none⟩ = false := by unfold World.frozen?; rw [hQ]; rfl
          obtain ⟨b, o, x, rfl, -, hx, hc⟩ := HI.out i hlt
          have c0 := hc _ hB
          have HMK := mkb_any n (by omega)
          have hn0 : (0 : Int) < (n : Int) := by omega
          have hPut := put_new hA (x : Int) ((List.replicate n (0 : Int)).set 0 (i : Int)) (fun y hy => by
            rcases List.mem_or_eq_of_mem_set hy with hy | hy
            · rw [List.eq_of_mem_replicate hy]; omega
            · omega) (by intro e; have := congrArg List.length e; simp at this; omega) (by simp; omega) (by omega) (by omega)
          rw [← zcs_set, List.length_set, List.length_replicate] at hPut
          replace hPut : Hid _ := hPut
          have hKn := hK.out.put (n := n) hx (i := i) (by omega) (by omega)
          replace hKn : Hid _ := hKn
          obtain ⟨N', hN'⟩ : ∃ N', (if M (x : Int) = none then N + 1 else N) = N' := ⟨_, rfl⟩
          have hNi' : N' ≤ i + 1 := by rw [← hN']; split <;> omega
          rw [hN'] at hPut
          replace hN' : Hid _ := hN'
          go_upto_region 15 with fail
          have c9 := hc (wc.alloc (.cells ((zcs n).setIfInBounds 0 (.int .u8 (i : Int))) 5)) (hB.alloc hB.size _)
          clear q0 q1 hQ HMK c0
          go_wp2_with fail
          refine Calls.mono hPut.out ?_
          rintro e w5 ⟨rfl, hA5, hf5⟩
          have hL5 := hLa.ft hf5
          have hB5 : Below w.heap.size w w5 := Ft.below hB hf5 hB.size
          have c5 : w5.cell? ⟨b, o + i, none⟩ = some (.int .u8 (x : Int)) := hc w5 hB5
          have d5 := hL5.cell hx
          have f5 := hL5.frozen x
          have hxi : (x : Int) < 256 := by omega
          have hA6 := hA5.setOther hL5 x (.int .i64 ((i : Int) + 1))
          have hL6 := hL5.set x ((i : Int) + 1)
          have hB6 : Below w.heap.size w (w5.setCell ⟨la, x, none⟩ (.int .i64 ((i : Int) + 1))) := hB5.trans (hL5.setFt hla x _)
          clear hPut hf5 hL5 hA5 hA hLa hc c9
          go_wp2
          go_roundw
          case rel => exact ⟨i + 1, _, _, N', hlt, by go_num, hA6, hKn, hNi', hL6, hB6⟩
          case measure => simp [intOf]; omega
      · obtain rfl : i = n0 := by omega
        have g3 : decide ((i : Int) < (i : Int)) = false := by simp
        clear HI HS
        go_wp2_with fail
        go_loopw [12] (fun v wr => ∃ (j : Nat) (T : List Int) (M : Int → Option (List Int)) (N : Nat), j ≤ n2 ∧ v = .int .i64 (j : Int) ∧ HA w.heap.size wr hb M N i ∧ Hid (KM T M) ∧ N ≤ 60 ∧ La wr la T ∧ Below w.heap.size w wr) (fun v _ => n2 - (intOf v).toNat)
        case atStart => exact ⟨0, T, M, N, Nat.zero_le _, rfl, hA, hK, by omega, hLa, hB⟩
        case round =>
          clear hA hK hNi hLa hB
          obtain ⟨j, T, M, N, hj, rfl, hA, hK, hNi, hLa, hB⟩ := hrel
          by_cases hlt : j < n2
          · have g4 : decide ((j : Int) < (n2 : Int)) = true := by simpa using hlt
            have hjn : (j : Int) < (n2 : Int) := by omega
            obtain ⟨b, o, x, rfl, -, hx, hc⟩ := HD.out j hlt
            have hxi : (x : Int) < 256 := by omega
            have hwx : IntKind.u64.wrap (x : Int) = (x : Int) := by simp [IntKind.wrap, IntKind.bits, IntKind.signed]; omega
            have hno := hK.out.no hx
            have ht0 := (hK.out.rng x hx).1
            obtain ⟨t, ht⟩ : ∃ t, nth T x = t := ⟨_, rfl⟩
            rw [ht] at hno ht0
            by_cases hM : M (x : Int) = none
            · have ht1 := hno.1 hM
              have g5 : decide (0 < t) = false := by simpa using ht1
              have g6 : decide (t > 0) = false := by simpa using ht1
              have hKn : Hid _ := hK.out.same hx hM
              have HDr : Hid (∀ w1, Below wr.heap.size wr w1 → _) := fun w1 k => hdropno_any (hA.later k) (x : Int) hM
              have HCs : Hid (∀ w1, Below wr.heap.size wr w1 → w1.cell? ⟨b, o + j, none⟩ = some (.int .u8 (x : Int)) ∧ w1.cell? ⟨la, x, none⟩ = some (.int .i64 t)) := fun w1 k => ⟨hc w1 (bthen hB k), by rw [← ht]; exact (hLa.later k).cell hx⟩
              have hC : Below wr.heap.size wr wr.drew := (Below.refl _ _).drew
              go_upto_region 21 with fail
              obtain ⟨e1, e2⟩ := HCs.out wr (Below.refl _ _)
              have HD3 := HDr.out wr.drew hC
              go_region_with (first | (refine Calls.mono HD3 ?_; rintro e y1 ⟨rfl, hb1⟩; replace hC := bthen hC hb1; obtain ⟨e3, e4⟩ := HCs.out _ hC))
              all_goals
                have hA5 := hA.later hC
                have hL5 := hLa.later hC
                have hB5 := bthen hB hC
                have f5 := hL5.frozen x
                have hA6 := hA5.setOther hL5 x (.int .i64 0)
                have hL6 := hL5.set x 0
                have hB6 := hB5.trans (hL5.setFt hla x (.int .i64 0))
                clear HDr HCs hA5 hL5 hB5 hA hLa hc
                go_wp2
                go_roundw
                case rel => exact ⟨j + 1, _, M, N, hlt, by go_num, hA6, hKn, hNi, hL6, hB6⟩
                case measure => simp [intOf]; omega
            · have ht1 : 0 < t := by
                rcases Int.lt_or_le 0 t with h | h
                · exact h
                · exact absurd (hno.2 (by omega)) hM
              have g5 : decide (0 < t) = true := by simpa using ht1
              have g6 : decide (t > 0) = true := by simpa using ht1
              have hKn : Hid _ := hK.out.drop hx
              have HDr : Hid (∀ w1, Below wr.heap.size wr w1 → _) := fun w1 k => hdropm_any (hA.later k) (x : Int) hM (by omega)
              have HCs : Hid (∀ w1, Below wr.heap.size wr w1 → w1.cell? ⟨b, o + j, none⟩ = some (.int .u8 (x : Int)) ∧ w1.cell? ⟨la, x, none⟩ = some (.int .i64 t)) := fun w1 k => ⟨hc w1 (bthen hB k), by rw [← ht]; exact (hLa.later k).cell hx⟩
              have HFt : Hid (∀ w1 w2, Below wr.heap.size wr w1 → Ft w.heap.size noX w1 w2 → (w2.cell? ⟨b, o + j, none⟩ = some (.int .u8 (x : Int)) ∧ w2.cell? ⟨la, x, none⟩ = some (.int .i64 t)) ∧ La w2 la T ∧ Below w.heap.size w w2) := fun w1 w2 k1 k2 => by
                have hB2 := Ft.below (bthen hB k1) k2 (Nat.le_trans hB.size k1.size)
                have hL2 := (hLa.later k1).ft k2
                exact ⟨⟨hc w2 hB2, by rw [← ht]; exact hL2.cell hx⟩, hL2, hB2⟩
              have hC : Below wr.heap.size wr wr.drew := (Below.refl _ _).drew
              go_upto_region 21 with fail
              go_region_held3 (fun w' => w'.cell? ⟨b, o + j, none⟩ = some (.int .u8 (x : Int)) ∧ w'.cell? ⟨la, x, none⟩ = some (.int .i64 t)) (first | exact hF5.1 | exact HCs.out _ hC)
                (first | (go_at_call 12; refine Calls.mono (HDr.out _ hC) ?_; rintro e y1 ⟨rfl, hA5, hf5⟩; have hF5 := HFt.out _ _ hC hf5))
              all_goals
                obtain ⟨⟨e1, e2⟩, hL5, hB5⟩ := hF5
                have f5 := hL5.frozen x
                have hA6 := hA5.setOther hL5 x (.int .i64 0)
                have hL6 := hL5.set x 0
                have hB6 := hB5.trans (hL5.setFt hla x (.int .i64 0))
                clear HDr HCs HFt hA5 hL5 hB5 hA hLa hc hf5
                go_wp2
                go_roundw
                case rel => exact ⟨j + 1, _, _, N - 1, hlt, by go_num, hA6, hKn, by omega, hL6, hB6⟩
                case measure => simp [intOf]; omega
          · obtain rfl : j = n2 := by omega
            have g4 : decide ((j : Int) < (j : Int)) = false := by simp
            have hcount := hA.count hK.out
            clear HD
            go_wp2_with fail
            go_loopw [13, 14, 15, 16] (fun v13 v14 _ _ wr => ∃ k : Nat, k ≤ 256 ∧ v14 = .int .i64 (k : Int) ∧ v13 = .int .i64 (cntT T k : Int) ∧ HA w.heap.size wr hb M N i ∧ La wr la T ∧ Below w.heap.size w wr) (fun _ v14 _ _ _ => 256 - (intOf v14).toNat)
            case atStart => exact ⟨0, Nat.zero_le _, rfl, rfl, hA, hLa, hB⟩
            case round =>
              clear hA hLa hB
              obtain ⟨k, hk, rfl, rfl, hA, hLa, hB⟩ := hrel
              have hcl := cntT_le T k
              by_cases hkl : k < 256
              · have g5 : decide ((k : Int) < 256) = true := by simp; omega
                have hki : (k : Int) < 256 := by omega
                have hcs := cntT_succ T k
                have hno := hK.out.no hkl
                have hrg := hK.out.rng k hkl
                have hwx : IntKind.u64.wrap (k : Int) = (k : Int) := by simp [IntKind.wrap, IntKind.bits, IntKind.signed]; omega
                by_cases hM : M (k : Int) = none
                · have ht1 := hno.1 hM
                  rw [if_neg ht1] at hcs
                  have HG : Hid _ := hgetno_any hA (k : Int) hM
                  go_wp2_with fail
                  refine Calls.mono HG.out ?_
                  rintro e w5 ⟨rfl, hb5⟩
                  have hA5 := hA.later hb5
                  have hL5 := hLa.later hb5
                  have hB5 := bthen hB hb5
                  have e1 := hL5.cell hkl
                  obtain ⟨t, ht⟩ : ∃ t, nth T k = t := ⟨_, rfl⟩
                  rw [ht] at e1 ht1 hrg
                  have g6 : decide (0 < t) = false := by simpa using ht1
                  have g7 : decide (t > 0) = false := by simpa using ht1
                  generalize cntT T k = ck at *
                  replace ht : Hid _ := ht
                  replace hcs : Hid _ := hcs
                  replace hcount : Hid _ := hcount
                  clear HG hA hLa hB hb5
                  go_upto_region 29 with fail
                  go_region
                  all_goals
                    have hC : Below w5.heap.size w5 w5.drew := (Below.refl _ _).drew
                    go_wp2
                    go_roundw
                    case rel => exact ⟨k + 1, hkl, by go_num, by rw [hcs.out], hA5.later hC, hL5.later hC, bthen hB5 hC⟩
                    case measure => simp [intOf]; omega
                · have ht1 : 0 < nth T k := by
                    rcases Int.lt_or_le 0 (nth T k) with h | h
                    · exact h
                    · exact absurd (hno.2 (by omega)) hM
                  rw [if_pos ht1] at hcs
                  obtain ⟨bs, hbs⟩ : ∃ bs, M (k : Int) = some bs := by
                    cases e : M (k : Int) with
                    | none => exact absurd e hM
                    | some bs => exact ⟨bs, rfl⟩
                  obtain ⟨hbn, hb0⟩ := hK.out.rec0 k bs hkl hbs
                  have hbp : 0 < bs.length := List.length_pos_iff.2 hbn
                  have HG : Hid _ := hget_any hA (k : Int) hbs
                  go_wp2_with fail
                  refine Calls.mono HG.out ?_
                  rintro e w5 ⟨⟨v, rfl, hv⟩, hb5⟩
                  obtain ⟨ao, cc, rfl, hr⟩ := hv.rd
                  obtain ⟨bb, oo, rfl, hcell⟩ := hr.cells hbp
                  have e3 := hcell 0 hbp
                  rw [Nat.add_zero, hb0] at e3
                  have hA5 := hA.later hb5
                  have hL5 := hLa.later hb5
                  have hB5 := bthen hB hb5
                  have e1 := hL5.cell hkl
                  obtain ⟨t, ht⟩ : ∃ t, nth T k = t := ⟨_, rfl⟩
                  rw [ht] at e1 ht1 hrg e3
                  have g6 : decide (0 < t) = true := by simpa using ht1
                  have g7 : decide (t > 0) = true := by simpa using ht1
                  have hrc := hr.cap
                  have hrm := hr.max
                  obtain ⟨L, hL⟩ : ∃ L, bs.length = L := ⟨_, rfl⟩
                  rw [hL] at hrc hbp ⊢
                  have g8 : ((L : Int) == 0) = false := by simp; omega
                  have hLp : (0 : Int) < (L : Int) := by omega
                  have hw8 : IntKind.u8.wrap (t - 1) = t - 1 := by simp [IntKind.wrap, IntKind.bits, IntKind.signed]; omega
                  have g9 : (t - 1 != t - 1) = false := by simp
                  have hwi : IntKind.i64.wrap (t - 1) = t - 1 := by rw [IntKind.wrap_i64]; omega
                  have g10 : (t - 1 != IntKind.u8.wrap (IntKind.i64.wrap (t - 1))) = false := by rw [hwi, hw8]; simp
                  generalize cntT T k = ck at *
                  replace ht : Hid _ := ht
                  replace hcs : Hid _ := hcs
                  replace hcount : Hid _ := hcount
                  replace hL : Hid _ := hL
                  clear HG hA hLa hB hb5 hv hr hcell hb0 hbs hbn hno hM
                  go_upto_region 29 with fail
                  go_region_held3 (fun w' => w'.cell? ⟨la, k, none⟩ = some (.int .i64 t) ∧ w'.cell? ⟨bb, oo, none⟩ = some (.int .u8 (t - 1))) (go_keep) (fail)
                  all_goals
                    have hC : Below w5.heap.size w5 w5.drew := (Below.refl _ _).drew
                    go_wp2
                    go_roundw
                    case rel => exact ⟨k + 1, hkl, by go_num, by rw [hcs.out]; go_num, hA5.later hC, hL5.later hC, bthen hB5 hC⟩
                    case measure => simp [intOf]; omega
              · obtain rfl : k = 256 := by omega
                have g5 : decide ((256 : Int) < 256) = false := by simp
                have KL : Hid _ := hlen_any hA
                have KP : Hid _ := hpages_any hA
                rw [← hcount]
                rw [← hcount] at hcl
                have g6 : ((N : Int) == (N : Int)) = true := by simp
                clear hA hLa hK hcount
                go_wp2_with fail
                refine Calls.mono KL.out ?_
                rintro e x ⟨rfl, hxw⟩
                rw [hxw]
                clear hxw x KL
                go_wp2_with fail
                refine Calls.mono KP.out ?_
                rintro e x ⟨⟨p, rfl, hpn⟩, hxw⟩
                rw [hxw]
                clear hxw x KP
                have g7 : decide ((p : Int) ≤ (N : Int) + 1) = true := by simp; omega
                go_wp2
                go_ret
                exact ⟨rfl, hB⟩
  · go_enter Try.func5, Try.ntmps5
    go_wp2_with fail
    refine Calls.mono HB.out ?_
    rintro e w1 ⟨rfl, hb1⟩
    by_cases e0 : n0 ≤ 60
    · have g0 : decide ((60 : Int) < (n0 : Int)) = false := by simp; omega
      by_cases e1 : n1 ≤ 60
      · have g1 : decide ((60 : Int) < (n1 : Int)) = false := by simp; omega
        have g2 : decide ((30 : Int) < (n2 : Int)) = true := by simp; omega
        go_wp2
        go_ret
        exact ⟨rfl, hb1⟩
      · have g1 : decide ((60 : Int) < (n1 : Int)) = true := by simp; omega
        go_wp2
        go_ret
        exact ⟨rfl, hb1⟩
    · have g0 : decide ((60 : Int) < (n0 : Int)) = true := by simp; omega
      go_wp2
      go_ret
      exact ⟨rfl, hb1⟩

end Go.Proofs.Ytmfoenhbldacfaa
