import Derived.Test.YtnlaaejdianfjaaGreatQsam
import Derived.Test.YtnlaaejdianfjaaGreatQsai
import Derived.Test.YtnlaaejdianfjaaGreatQsal
import Derived.Deep.CutBlock
import Derived.Deep.CutRange
import Derived.Deep.AppendSrc
namespace Go.Proofs.YtnlaaejdianfjaaGreat
open Go.RowKit
set_option linter.unusedVariables false
set_option linter.unusedSimpArgs false

theorem whole_snoc (bi : Int) (L : List (List Vt)) (k : Nat) (hk : k < L.length) : wholeP bi (L.take (k + 1)) = (wholeP bi (L.take k) && decide (bi < (L[k].length : Int))) := by
  unfold wholeP
  rw [List.take_succ_eq_append_getElem hk, List.all_append, Bool.and_assoc]
  simp
/-- Where the next row goes. -/
def plcW (W : Bool) (bn : Nat) (ds : Bool) (x : List Vt) (R : List (List Vt)) : Nat := if W then plcP (behP bn ds x) R R.length else R.length
set_option maxRecDepth 100000 in
set_option maxHeartbeats 4000000 in
theorem refSort_any : SrC 17 500 100 := by
  intro L hN hM hmay hf bi hbi ds Q w a n c h
  obtain ⟨l1, l2, l3⟩ := row_lens h
  have HR : Hid (∀ w', Below w.heap.size w w' → RowIs eRow Q w' (.slice a n c) L) := hid fun w' hb => h.keep (by decide) fun b _ hl => hb.block b hl
  have HF : Hid _ := hid hf
  have HM : Hid _ := hid hM
  have HMay : Hid _ := hid hmay
  clear h hf hM hmay
  obtain ⟨W0, hW0⟩ : ∃ W0, decide (0 ≤ bi) = W0 := ⟨_, rfl⟩
  have HW0 : Hid (W0 = wholeP bi (L.take 0)) := hid (by rw [← hW0]; simp [wholeP])
  go_enter Tryz.func17, Tryz.ntmps17
  go_wp2
  clear hW0
  go_loopw [8, 9] (fun v8 v9 wr => ∃ (k : Nat) (W : Bool), k ≤ n ∧ v8 = .bool W ∧ v9 = .int .i64 k ∧ Below w.heap.size w wr ∧ Hid (W = wholeP bi (L.take k))) (fun _ i _ => n - (intOf i).toNat)
  case atStart => exact ⟨0, W0, Nat.zero_le _, rfl, rfl, Below.refl _ _, HW0⟩
  case round =>
    obtain ⟨k, W, hk, rfl, rfl, hB, HW⟩ := hrel
    clear HW0
    by_cases hlt : k < n
    · obtain ⟨b, o, xa, xn, xc, rfl, -, x0, rx⟩ := row1 (HR.out wr hB) (k := k) (by omega)
      have p1 := (row_lens rx).1
      have hkm : (k : Int) < (n : Int) := by omega
      have hwk := wrapS hlt l2 l3
      have hS := whole_snoc bi L k (by omega)
      rw [← HW.out, p1] at hS
      clear rx p1 HW
      cases W with
      | false =>
        have HN : Hid (false = wholeP bi (L.take (k + 1))) := hid (by rw [hS]; rfl)
        clear hS
        go_wp2
        go_roundw
        case rel => exact ⟨k + 1, false, by omega, rfl, by go_num, hB, HN⟩
        case measure => simp only [intOf]; omega
      | true =>
        obtain ⟨W2, hW2⟩ : ∃ W2, decide (bi < (xn : Int)) = W2 := ⟨_, rfl⟩
        have HN : Hid (W2 = wholeP bi (L.take (k + 1))) := hid (by rw [hS, hW2]; rfl)
        clear hS
        go_wp2
        go_roundw
        case rel => exact ⟨k + 1, W2, by omega, rfl, by go_num, hB, HN⟩
        case measure => simp only [intOf]; omega
    · obtain rfl : n = k := by omega
      rw [← l1, List.take_length] at HW
      clear hk hlt
      obtain ⟨bn, hbn⟩ : ∃ bn, bi.toNat = bn := ⟨_, rfl⟩
      have HE : Hid (srtP bi ds L = if W then L.foldl (insP bn ds) [] else L) := hid (by rw [srtP, ← HW.out, hbn])
      have HWh : Hid (W = true → bi = (bn : Int) ∧ ∀ l ∈ L, bn < l.length) := hid fun hw => by
        have h1 := HW.out.symm.trans hw
        unfold wholeP at h1
        rw [Bool.and_eq_true, List.all_eq_true] at h1
        have h2 := of_decide_eq_true h1.1
        refine ⟨by omega, fun l hl => ?_⟩
        have := of_decide_eq_true (h1.2 l hl)
        omega
      clear HW hbn
      go_wp2
      go_loopw [7, 10] (fun v7 v10 wz => ∃ (k : Nat) (va : Option Addr) (vd : Nat) (R : List (List Vt)), k ≤ n ∧ v7 = .slice va k vd ∧ v10 = .int .i64 k ∧ R.length = k ∧ Hid (RowIs eRow (fun _ => True) wz (.slice va k vd) R) ∧ Below w.heap.size w wz ∧ Hid (∀ r ∈ R, r ∈ L) ∧ Hid (R = if W then (L.take k).foldl (insP bn ds) [] else L.take k)) (fun _ i _ => n - (intOf i).toNat)
      case atStart => exact ⟨0, none, 0, [], Nat.zero_le _, rfl, rfl, rfl, hid (RowIs.nil _ _ _), hB, hid fun r hr => by simp at hr, hid (by cases W <;> simp)⟩
      case round =>
        clear hB
        generalize wr = wz at *
        obtain ⟨k, va, vd, R, hk, rfl, rfl, hRk, HT, hB, HI, HQ⟩ := hrel
        by_cases hlt : k < n
        · obtain ⟨b, o, xa, xn, xc, rfl, -, x0, rx⟩ := row1 (HR.out wz hB) (k := k) (by omega)
          obtain ⟨x, hx⟩ : ∃ x, L[k]'(by omega) = x := ⟨_, rfl⟩
          rw [hx] at rx
          have HX : Hid (x ∈ L ∧ R.length < L.length ∧ L.take (k + 1) = L.take k ++ [x]) := hid ⟨hx ▸ List.getElem_mem _, by omega, by rw [List.take_succ_eq_append_getElem (by omega), hx]⟩
          have HRX : Hid (∀ w', Below wz.heap.size wz w' → RowIs eVal Q w' (.slice xa xn xc) x) := hid fun w' hb => rx.keep (by decide) fun b _ hl => hb.block b hl
          have HT2 : Hid (∀ w', Below wz.heap.size wz w' → RowIs eRow (fun _ => True) w' (.slice va k vd) R) := hid fun w' hb => HT.out.keep (by decide) fun b _ hl => hb.block b hl
          obtain ⟨-, t2, t3⟩ := row_lens HT.out
          obtain ⟨px1, px2, px3⟩ := row_lens rx
          have hkm : (k : Int) < (n : Int) := by omega
          have hwk := wrapS hlt l2 l3
          clear rx hx HT
          obtain ⟨P, hP⟩ : ∃ P, plcW W bn ds x R = P := ⟨_, rfl⟩
          have HP : Hid _ := hid hP
          have HP0 : Hid ((W = true → plcP (behP bn ds x) R k = P) ∧ (W = false → k = P)) := hid (by
            subst hRk
            rw [← hP, plcW]
            exact ⟨fun h => by rw [h]; rfl, fun h => by rw [h]; rfl⟩)
          clear hP
          go_upto_block 4 with fail
          go_cut [11, 12] from 39 to 74 (fun v11 v12 w' => v11 = .int .i64 P ∧ P ≤ k ∧ Below wz.heap.size wz w' ∧ w'.cell? ⟨b, o + k, none⟩ = some (.slice xa xn xc))
          case first =>
            go_wp2_with fail
            go_loopw [11] (fun v11 wy => ∃ j : Nat, j ≤ k ∧ v11 = .int .i64 j ∧ Below wz.heap.size wz wy ∧ Hid ((W = true → plcP (behP bn ds x) R j = P) ∧ (W = false → j = P))) (fun i _ => (intOf i).toNat)
            case atStart => exact ⟨k, Nat.le_refl _, rfl, Below.refl _ _, HP0⟩
            case round =>
              clear HP0
              generalize wr = wy at *
              obtain ⟨j, hj, rfl, hZ, HJ⟩ := hrel
              have x1 := cell_later hZ x0
              by_cases hj0 : 0 < j
              · cases W with
                | false =>
                  obtain rfl : j = P := HJ.out.2 rfl
                  have g1 : decide ((0 : Int) < (j : Int)) = true := by simp; omega
                  clear x0
                  go_wp2
                  go_meet
                  exact ⟨rfl, hj, hZ, x1⟩
                | true =>
                  obtain ⟨j2, rfl⟩ : ∃ q, j = q + 1 := ⟨j - 1, by omega⟩
                  obtain ⟨hbi2, hlen⟩ := HWh.out rfl
                  have hj2R : j2 < R.length := by omega
                  obtain ⟨ob, oo, ya, yn, yc, rfl, -, y0, ry⟩ := row1 (HT2.out wy hZ) (k := j2) hj2R
                  obtain ⟨y, hy⟩ : ∃ y, R[j2] = y := ⟨_, rfl⟩
                  rw [hy] at ry
                  have hyL : y ∈ L := HI.out y (hy ▸ List.getElem_mem _)
                  have hby := hlen y hyL
                  have hbx := hlen x HX.out.1
                  obtain ⟨q1, q2, q3⟩ := row_lens ry
                  obtain ⟨yb, yo, rfl, -, d0, d1, d2⟩ := val1 ry (k := bn) hby
                  obtain ⟨xb, xo, rfl, -, c0, c1, c2⟩ := val1 (HRX.out wy hZ) (k := bn) hbx
                  obtain ⟨Y, hY⟩ : ∃ Y, y[bn] = Y := ⟨_, rfl⟩
                  obtain ⟨X, hX⟩ : ∃ X, x[bn] = X := ⟨_, rfl⟩
                  rw [hY] at d0 d1 d2
                  rw [hX] at c0 c1 c2
                  have hmY := HMay.out y hyL Y (hY ▸ List.getElem_mem _)
                  have hmX := HMay.out x HX.out.1 X (hX ▸ List.getElem_mem _)
                  have hfY := (HF.out y hyL Y (hY ▸ List.getElem_mem _)).2
                  have hfX := (HF.out x HX.out.1 X (hX ▸ List.getElem_mem _)).2
                  obtain ⟨cc, hcc⟩ : ∃ cc, cmpVt Y X = cc := ⟨_, rfl⟩
                  have HC : Hid (∀ w, Calls Tryz.prog 19 #[vV Y, vV X] w fun e w' => e = .returned (.int .i64 cc) ∧ Below w.heap.size w w') := hid fun w' => by
                    have := refCompare_any Y.1 Y.2.1 Y.2.2 X.1 X.2.1 X.2.2 (by simpa [maxLen] using hfY) (by simpa [maxLen] using hfX) w'
                    rw [refC_eq hmY hmX] at this
                    rw [← hcc]
                    exact this
                  have HBe : Hid (plcP (behP bn ds x) R (j2 + 1) = if (if ds then decide (0 ≤ cc) else decide (cc ≤ 0)) then j2 + 1 else plcP (behP bn ds x) R j2) := hid (by
                    have e1 : R.getD j2 [] = y := by rw [List.getD_eq_getElem?_getD, List.getElem?_eq_getElem hj2R, hy]; rfl
                    have e2 : y.getD bn vZ = Y := by rw [List.getD_eq_getElem?_getD, List.getElem?_eq_getElem hby, hY]; rfl
                    have e3 : x.getD bn vZ = X := by rw [List.getD_eq_getElem?_getD, List.getElem?_eq_getElem hbx, hX]; rfl
                    rw [plcP, e1]
                    unfold behP
                    rw [e2, e3, hcc])
                  have HJ1 : Hid _ := hid (HJ.out.1 rfl)
                  have hj2k : (j2 : Int) < (k : Int) := by omega
                  have hwj : IntKind.i64.wrap (j2 : Int) = (j2 : Int) := wrapN (by omega)
                  have g1 : decide ((0 : Int) < (j2 : Int) + 1) = true := by rw [decide_eq_true_eq]; omega
                  have hbnx : (bn : Int) < (xn : Int) := by omega
                  have hbny : (bn : Int) < (yn : Int) := by omega
                  obtain ⟨Y0, Y1, Y2⟩ := Y
                  obtain ⟨X0, X1, X2⟩ := X
                  subst hbi2
                  have hC : Below wy.heap.size wy wy.drew := (Below.refl _ wy).drew
                  dsimp only [vV] at HC c0 c1 c2 d0 d1 d2
                  clear ry hy hyL hby hbx hY hX hmY hmX hfY hfX hcc HJ x0 hlen
                  go_upto_region 12 with fail
                  go_region_held (fun w' => w'.cell? ⟨ob, oo + j2, none⟩ = some (.slice (some ⟨yb, yo, none⟩) yn yc) ∧ w'.cell? ⟨yb, yo + bn * 3, none⟩ = some (.int .i64 Y0) ∧ w'.cell? ⟨yb, yo + bn * 3 + 1, none⟩ = some (.int .i64 Y1) ∧ w'.cell? ⟨yb, yo + bn * 3 + 2, none⟩ = some (.string Y2) ∧ w'.cell? ⟨b, o + k, none⟩ = some (.slice (some ⟨xb, xo, none⟩) xn xc) ∧ w'.cell? ⟨xb, xo + bn * 3, none⟩ = some (.int .i64 X0) ∧ w'.cell? ⟨xb, xo + bn * 3 + 1, none⟩ = some (.int .i64 X1) ∧ w'.cell? ⟨xb, xo + bn * 3 + 2, none⟩ = some (.string X2))
                    (exact ⟨cell_later hC y0, cell_later hC d0, cell_later hC d1, cell_later hC d2, cell_later hC x1, cell_later hC c0, cell_later hC c1, cell_later hC c2⟩)
                    (first | (with_reducible refine Calls.mono (HC.out _) ?_; rintro e z1 ⟨rfl, hb1⟩; replace hC := Below.on hC hb1))
                  all_goals
                    have hZ4 := Below.on hZ hC
                    have x4 := cell_later hC x1
                    clear hC HC y0 d0 d1 d2 x1 c0 c1 c2 hZ
                    cases ds with
                    | true =>
                      by_cases hc0 : 0 ≤ cc
                      · have HPj : Hid (j2 + 1 = P) := hid (by
                          rw [← HJ1.out, HBe.out, if_pos rfl]
                          simp [hc0])
                        have e1 : decide (0 ≤ cc) = true := by simpa using hc0
                        clear HBe HJ1
                        go_wp2
                        go_meet
                        exact ⟨by rw [← HPj.out]; rfl, by rw [← HPj.out]; exact hj, hZ4, x4⟩
                      · have HPj : Hid (plcP (behP bn true x) R j2 = P) := hid (by
                          rw [← HJ1.out, HBe.out, if_pos rfl]
                          simp [hc0])
                        have e1 : decide (0 ≤ cc) = false := by simpa using hc0
                        have e2 : cc < 0 := by omega
                        clear HBe HJ1
                        go_wp2
                        go_roundw
                        case rel => exact ⟨j2, by omega, by go_num, hZ4, hid ⟨fun _ => HPj.out, fun h => by cases h⟩⟩
                        case measure => simp only [intOf]; omega
                    | false =>
                      by_cases hc0 : cc ≤ 0
                      · have HPj : Hid (j2 + 1 = P) := hid (by
                          rw [← HJ1.out, HBe.out]
                          simp [hc0])
                        have e1 : decide (cc ≤ 0) = true := by simpa using hc0
                        clear HBe HJ1
                        go_wp2
                        go_meet
                        exact ⟨by rw [← HPj.out]; rfl, by rw [← HPj.out]; exact hj, hZ4, x4⟩
                      · have HPj : Hid (plcP (behP bn false x) R j2 = P) := hid (by
                          rw [← HJ1.out, HBe.out]
                          simp [hc0])
                        have e1 : decide (cc ≤ 0) = false := by simpa using hc0
                        have e2 : 0 < cc := by omega
                        clear HBe HJ1
                        go_wp2
                        go_roundw
                        case rel => exact ⟨j2, by omega, by go_num, hZ4, hid ⟨fun _ => HPj.out, fun h => by cases h⟩⟩
                        case measure => simp only [intOf]; omega
              · obtain rfl : j = 0 := by omega
                have HP1 : Hid (0 = P) := hid (by
                  cases W with
                  | true => exact HJ.out.1 rfl
                  | false => exact HJ.out.2 rfl)
                have g1 : decide ((0 : Int) < (0 : Int)) = false := by simp
                clear HJ x0
                go_wp2
                go_meet
                exact ⟨by rw [← HP1.out], by rw [← HP1.out]; exact Nat.zero_le _, hZ, x1⟩
          case rest =>
            obtain ⟨rfl, hPk, hC, x1⟩ := hcut
            have hC0 : Below wz.heap.size wz wc.drew := hC.drew
            have x2 : wc.drew.cell? ⟨b, o + k, none⟩ = some (.slice xa xn xc) := cell_later (Below.refl _ _).drew x1
            have HT3 := HT2.out _ hC0
            obtain ⟨Z, hZn, hZm, hZr, hZs⟩ := rowsZ_ex HT3
            have HZs : Hid (∀ w', Below wc.drew.heap.size wc.drew w' → ∀ i z, Z[i]? = some z → ∃ b o, va = some ⟨b, o, none⟩ ∧ w'.cell? ⟨b, o + i, none⟩ = some (slV z.1)) := hid fun w' hb i z hz => by
              obtain ⟨b, o, e, hc⟩ := hZs i z hz
              exact ⟨b, o, e, cell_later hb hc⟩
            have HXs : Hid (∀ w', Below wc.drew.heap.size wc.drew w' → ∀ j u, (x.map cVs).flatten[j]? = some u → ∃ ad, xa = some ad ∧ w'.cell? (ad.add j) = some u) := hid fun w' hb => cVs_src (HRX.out w' (Below.on hC0 hb))
            have HZr : Hid _ := hid hZr
            have HZm : Hid _ := hid hZm
            obtain ⟨a2, m2, d2, hA2, hm2, hS2⟩ := slice_fromX hPk t2 t3 (ao := va)
            have HS2 : Hid _ := hid hS2
            have HM2 : Hid _ := hid hm2
            clear hS2 hm2
            have hPkI : (P : Int) ≤ (k : Int) := by omega
            have hxm := HM.out x HX.out.1
            clear hZr hZm hZs HT3 HT2 HRX HWh HP0 HR x0 x1 hC HF HMay HE HM
            go_upto_region 15 with fail
            refine wp_region_held_drew (S := fun w' => w'.cell? ⟨b, o + k, none⟩ = some (.slice xa xn xc)) (by kernel_rfl) x2 (fun hHeld => ?_)
            generalize wc.drew = y0 at *
            obtain ⟨y, hyy⟩ : ∃ y, y = y0 := ⟨_, rfl⟩
            rw [← hyy] at hHeld ⊢
            have hY : Below y0.heap.size y0 y := by rw [hyy]; exact Below.refl _ _
            clear hyy
            refine wpAnyH_take (i := 1) (v := ?tv2501) rfl (by kernel_rfl) (by kernel_rfl) (by kernel_rfl) (fun _ _ _ h => h) (Or.inl ⟨by rfl, ?hy2501⟩) (by assumption) ?rs2501
            case hy2501 => (intro w9 hSw; (try dsimp only at hSw); go_simp; (try with_reducible rfl))
            (try simp only [Act.put, List.getElem_toArray, List.getElem_cons_zero, List.getElem_cons_succ, List.setIfInBounds_toArray, List.set_cons_zero, List.set_cons_succ])
            refine wpAnyH_take (i := 2) (v := ?tv2502) rfl (by kernel_rfl) (by kernel_rfl) (by kernel_rfl) (fun _ _ _ h => h) (Or.inl ⟨by rfl, ?hy2502⟩) (by assumption) ?rs2502
            case hy2502 => (intro w9 hSw; (try dsimp only at hSw); go_simp; (try with_reducible rfl))
            (try simp only [Act.put, List.getElem_toArray, List.getElem_cons_zero, List.getElem_cons_succ, List.setIfInBounds_toArray, List.set_cons_zero, List.set_cons_succ])
            refine wpAnyH_take (i := 3) (v := ?tv2503) rfl (by kernel_rfl) (by kernel_rfl) (by kernel_rfl) (fun _ _ _ h => h) (Or.inl ⟨by rfl, ?hy2503⟩) (by assumption) ?rs2503
            case hy2503 => (intro w9 hSw; (try dsimp only at hSw); have h9 := value_of (slice_rowsTo (ao := va) hPk t2 t3 w9); exact h9)
            (try simp only [Act.put, List.getElem_toArray, List.getElem_cons_zero, List.getElem_cons_succ, List.setIfInBounds_toArray, List.set_cons_zero, List.set_cons_succ])
            refine wpAnyH_take (i := 6) (v := ?tv2504) rfl (by kernel_rfl) (by kernel_rfl) (by kernel_rfl) (fun _ _ _ h => h) (Or.inl ⟨by rfl, ?hy2504⟩) (by assumption) ?rs2504
            case hy2504 => (intro w9 hSw; (try dsimp only at hSw); go_simp; (try with_reducible rfl))
            (try simp only [Act.put, List.getElem_toArray, List.getElem_cons_zero, List.getElem_cons_succ, List.setIfInBounds_toArray, List.set_cons_zero, List.set_cons_succ])
            refine wpAnyH_take (i := 7) (v := ?tv2505) rfl (by kernel_rfl) (by kernel_rfl) (by kernel_rfl) (fun _ _ _ h => h) (Or.inl ⟨by rfl, ?hy2505⟩) (by assumption) ?rs2505
            case hy2505 => (intro w9 hSw; (try dsimp only at hSw); go_simp; (try with_reducible rfl))
            (try simp only [Act.put, List.getElem_toArray, List.getElem_cons_zero, List.getElem_cons_succ, List.setIfInBounds_toArray, List.set_cons_zero, List.set_cons_succ])
            refine wpAnyH_take (i := 8) (v := ?tv2506) rfl (by kernel_rfl) (by kernel_rfl) (by kernel_rfl) (fun _ _ _ h => h) (Or.inl ⟨by rfl, ?hy2506⟩) (by assumption) ?rs2506
            case hy2506 => (intro w9 hSw; (try dsimp only at hSw); go_simp; (try with_reducible rfl))
            (try simp only [Act.put, List.getElem_toArray, List.getElem_cons_zero, List.getElem_cons_succ, List.setIfInBounds_toArray, List.set_cons_zero, List.set_cons_succ])
            refine wpAnyH_take (i := 9) (v := ?tv2507) rfl (by kernel_rfl) (by kernel_rfl) (by kernel_rfl) (fun _ _ _ h => h) (Or.inl ⟨by rfl, ?hy2507⟩) (by assumption) ?rs2507
            case hy2507 => (intro w9 hSw; (try dsimp only at hSw); go_simp; (try with_reducible rfl))
            (try simp only [Act.put, List.getElem_toArray, List.getElem_cons_zero, List.getElem_cons_succ, List.setIfInBounds_toArray, List.set_cons_zero, List.set_cons_succ])
            refine wpAnyH_take (i := 13) (v := ?tv2508) rfl (by kernel_rfl) (by kernel_rfl) (by kernel_rfl) (fun _ _ _ h => h) (Or.inl ⟨by rfl, ?hy2508⟩) (by assumption) ?rs2508
            case hy2508 => (intro w9 hSw; (try dsimp only at hSw); go_simp; (try with_reducible rfl))
            (try simp only [Act.put, List.getElem_toArray, List.getElem_cons_zero, List.getElem_cons_succ, List.setIfInBounds_toArray, List.set_cons_zero, List.set_cons_succ])
            refine wpAnyH_take (i := 14) (v := ?tv2509) rfl (by kernel_rfl) (by kernel_rfl) (by kernel_rfl) (fun _ _ _ h => h) (Or.inl ⟨by rfl, ?hy2509⟩) (by assumption) ?rs2509
            case hy2509 => (intro w9 hSw; (try dsimp only at hSw); go_simp; (try with_reducible rfl))
            (try simp only [Act.put, List.getElem_toArray, List.getElem_cons_zero, List.getElem_cons_succ, List.setIfInBounds_toArray, List.set_cons_zero, List.set_cons_succ])
            refine wpAnyH_take (i := 15) (v := ?tv2510) rfl (by kernel_rfl) (by kernel_rfl) (by kernel_rfl) (fun _ _ _ h => h) (Or.inl ⟨by rfl, ?hy2510⟩) (by assumption) ?rs2510
            case hy2510 => (intro w9 hSw; have h9 := value_of (HS2.out w9); exact h9)
            (try simp only [Act.put, List.getElem_toArray, List.getElem_cons_zero, List.getElem_cons_succ, List.setIfInBounds_toArray, List.set_cons_zero, List.set_cons_succ])
            -- from here
            refine wpAnyH_ready (rs := [0, 5]) (by kernel_rfl) (by simp) ?_
            refine AllReadyH.cons rfl (fun K hK => ?_) (AllReadyH.cons rfl (fun K hK => ?_) AllReadyH.nil)
            · go_simp
              have oA := OwnR.lit0 42 1 y0.heap.size y hY.size
              replace hY := bal hY (.cells #[] 42)
              refine hK.out _ _ (cell_later hY x2) (fun hHeld => ?_)
              clear hK K
              (try simp only [Act.put, List.getElem_toArray, List.getElem_cons_zero, List.getElem_cons_succ, List.setIfInBounds_toArray, List.set_cons_zero, List.set_cons_succ])
              obtain ⟨bA, hbA⟩ : ∃ bA, y.heap.size = bA := ⟨_, rfl⟩
              rw [hbA] at oA
              (try rw [hbA])
              clear hbA
              generalize y.alloc (.cells #[] 42) = y at *
              refine wpAnyH_ready (rs := [4, 5]) (by kernel_rfl) (by simp) ?_
              refine AllReadyH.cons rfl (fun K hK => ?_) (AllReadyH.cons rfl (fun K hK => ?_) AllReadyH.nil)
              · refine step_appU (B := y0.heap.size) (by rfl) (.tmp 75) (.tmp 78) (by rfl) Tryz.underlying36 Tryz.infoTRow rfl (by decide) (by decide) _ _ _ va P vd _ (zC (Z.take P)) (by rfl) (by rfl) oA (zC_one _) (by rw [zC_len, List.length_take]; omega) (zC_cell _) (zC_src (HZs.out y hY) P) (by have hm9 := HM2.out; simp only [List.length_append, List.length_nil, zC_len, List.length_map, List.length_take, List.length_drop, List.length_cons]; omega) hY.size ?_
                intro bN4 nN4 cN4 yN4 oN4 hgN hbN
                replace hY := below_grows hY hY.size hgN (fun q e => by cases e; exact oA.at0.1)
                refine hK.out _ _ (cell_later hY x2) (fun hHeld => ?_)
                clear hK K
                (try simp only [Act.put, List.getElem_toArray, List.getElem_cons_zero, List.getElem_cons_succ, List.setIfInBounds_toArray, List.set_cons_zero, List.set_cons_succ])
                clear oA hgN hbN
                refine wpAnyH_ready (rs := [5]) (by kernel_rfl) (by simp) ?_
                refine AllReadyH.cons rfl (fun K hK => ?_) AllReadyH.nil
                go_simp
                have oX := OwnR.lit0 44 3 y0.heap.size yN4 hY.size
                replace hY := bal hY (.cells #[] 44)
                have hneN4 : bN4 ≠ yN4.heap.size := Nat.ne_of_lt oN4.at0.2
                replace oN4 := oN4.alloc (.cells #[] 44)
                refine hK.out _ _ (cell_later hY x2) (fun hHeld => ?_)
                clear hK K
                (try simp only [Act.put, List.getElem_toArray, List.getElem_cons_zero, List.getElem_cons_succ, List.setIfInBounds_toArray, List.set_cons_zero, List.set_cons_succ])
                obtain ⟨bX, hbX⟩ : ∃ bX, yN4.heap.size = bX := ⟨_, rfl⟩
                rw [hbX] at oX hneN4
                (try rw [hbX])
                clear hbX
                generalize yN4.alloc (.cells #[] 44) = yN4 at *
                refine wpAnyH_ready (rs := [10]) (by kernel_rfl) (by simp) ?_
                refine AllReadyH.cons rfl (fun K hK => ?_) AllReadyH.nil
                refine step_appU (B := y0.heap.size) (by rfl) (.tmp 80) (.tmp 84) (by rfl) Tryz.underlying42 Tryz.infoTVal rfl (by decide) (by decide) _ _ _ xa xn xc _ (x.map cVs) (by rfl) (by rfl) oX (cVs_one _) (by rw [List.length_map]; exact px1) (cVs_cell _) (HXs.out yN4 hY) (by have hm9 := HM2.out; simp only [List.length_append, List.length_nil, zC_len, List.length_map, List.length_take, List.length_drop, List.length_cons]; omega) hY.size ?_
                intro bN10 nN10 cN10 yN10 oN10 hgN hbN
                replace hY := below_grows hY hY.size hgN (fun q e => by cases e; exact oX.at0.1)
                have hneN10 : bN4 ≠ bN10 := by
                  rcases hbN with h | h
                  · rw [h]; exact hneN4
                  · rw [h]; exact Nat.ne_of_lt oN4.at0.2
                replace oN4 := oN4.keptR hgN hneN4
                refine hK.out _ _ (cell_later hY x2) (fun hHeld => ?_)
                clear hK K
                (try simp only [Act.put, List.getElem_toArray, List.getElem_cons_zero, List.getElem_cons_succ, List.setIfInBounds_toArray, List.set_cons_zero, List.set_cons_succ])
                clear oX hgN hbN hneN4
                refine wpAnyH_ready (rs := [11]) (by kernel_rfl) (by simp) ?_
                refine AllReadyH.cons rfl (fun K hK => ?_) AllReadyH.nil
                go_simp
                have kL := Bk.new yN10 (.cells #[.slice (some ⟨bN10, 0, none⟩) nN10 cN10] 42)
                replace hY := bal hY (.cells #[.slice (some ⟨bN10, 0, none⟩) nN10 cN10] 42)
                obtain ⟨bL, hbL⟩ : ∃ bL, yN10.heap.size = bL := ⟨_, rfl⟩
                rw [hbL] at kL
                have hnlN10 : bN4 ≠ bL := by rw [← hbL]; exact Nat.ne_of_lt oN4.at0.2
                replace oN4 := oN4.alloc (.cells #[.slice (some ⟨bN10, 0, none⟩) nN10 cN10] 42)
                replace oN10 := oN10.alloc (.cells #[.slice (some ⟨bN10, 0, none⟩) nN10 cN10] 42)
                refine hK.out _ _ (cell_later hY x2) (fun hHeld => ?_)
                clear hK K
                (try simp only [Act.put, List.getElem_toArray, List.getElem_cons_zero, List.getElem_cons_succ, List.setIfInBounds_toArray, List.set_cons_zero, List.set_cons_succ])
                (try rw [hbL])
                clear hbL
                generalize yN10.alloc (.cells #[.slice (some ⟨bN10, 0, none⟩) nN10 cN10] 42) = yN10 at *
                refine wpAnyH_ready (rs := [12]) (by kernel_rfl) (by simp) ?_
                refine AllReadyH.cons rfl (fun K hK => ?_) AllReadyH.nil
                refine step_appU (B := y0.heap.size) (by rfl) (.tmp 79) (.tmp 86) (by rfl) Tryz.underlying36 Tryz.infoTRow rfl (by decide) (by decide) _ _ _ (some ⟨bL, 0, none⟩) 1 1 _ (zC [((some ⟨bN10, 0, none⟩, nN10, cN10), x)]) (by rfl) (by rfl) oN4 (zC_one _) rfl (zC_cell _) (lit_src kL) (by have hm9 := HM2.out; simp only [List.length_append, List.length_nil, zC_len, List.length_map, List.length_take, List.length_drop, List.length_cons]; omega) hY.size ?_
                intro bN12 nN12 cN12 yN12 oN12 hgN hbN
                replace hY := below_grows hY hY.size hgN (fun q e => by cases e; exact oN4.at0.1)
                have hneN12 : bN12 ≠ bN10 := by
                  rcases hbN with h | h
                  · rw [h]; exact hneN10
                  · rw [h]; exact Nat.ne_of_gt oN10.at0.2
                replace oN10 := oN10.keptR hgN (Ne.symm hneN10)
                have hnlN12 : bN12 ≠ bL := by
                  rcases hbN with h | h
                  · rw [h]; exact hnlN10
                  · rw [h]; exact Nat.ne_of_gt kL.lt
                replace kL := kL.grown hgN (fun e => hnlN10 (Option.some.inj e).symm)
                refine hK.out _ _ (cell_later hY x2) (fun hHeld => ?_)
                clear hK K
                (try simp only [Act.put, List.getElem_toArray, List.getElem_cons_zero, List.getElem_cons_succ, List.setIfInBounds_toArray, List.set_cons_zero, List.set_cons_succ])
                clear oN4 hgN hbN hneN10 hnlN10
                refine wpAnyH_ready (rs := [16]) (by kernel_rfl) (by simp) ?_
                refine AllReadyH.cons rfl (fun K hK => ?_) AllReadyH.nil
                refine step_appU (B := y0.heap.size) (by rfl) (.tmp 87) (.tmp 90) (by rfl) Tryz.underlying36 Tryz.infoTRow rfl (by decide) (by decide) _ _ _ a2 m2 d2 _ (zC (Z.drop P)) (by rfl) (by rfl) oN12 (zC_one _) (by rw [zC_len, List.length_drop, HM2.out, hZn]) (zC_cell _) (zC_src2 (HZs.out yN12 hY) P (fun h => hA2 (by omega))) (by have hm9 := HM2.out; simp only [List.length_append, List.length_nil, zC_len, List.length_map, List.length_take, List.length_drop, List.length_cons]; omega) hY.size ?_
                intro bN16 nN16 cN16 yN16 oN16 hgN hbN
                replace hY := below_grows hY hY.size hgN (fun q e => by cases e; exact oN12.at0.1)
                have hneN16 : bN16 ≠ bN10 := by
                  rcases hbN with h | h
                  · rw [h]; exact hneN12
                  · rw [h]; exact Nat.ne_of_gt oN10.at0.2
                replace oN10 := oN10.keptR hgN (Ne.symm hneN12)
                refine hK.out _ _ (cell_later hY x2) (fun hHeld => ?_)
                clear hK K
                (try simp only [Act.put, List.getElem_toArray, List.getElem_cons_zero, List.getElem_cons_succ, List.setIfInBounds_toArray, List.set_cons_zero, List.set_cons_succ])
                clear oN12 hgN hbN hneN12
                refine wpAnyH_ready (rs := [17]) (by kernel_rfl) (by simp) ?_
                refine AllReadyH.cons rfl (fun K hK => ?_) AllReadyH.nil
                go_simp
                refine hK.out _ _ (cell_later hY x2) (fun hHeld => ?_)
                clear hK K
                (try simp only [Act.put, List.getElem_toArray, List.getElem_cons_zero, List.getElem_cons_succ, List.setIfInBounds_toArray, List.set_cons_zero, List.set_cons_succ])
                refine wpAnyH_done (by kernel_rfl) ?_ _
                clear hHeld x2
                obtain ⟨rfl, hRow⟩ := rows_put hY HZr.out oN10 oN16 HZm.out
                replace hB := Below.on hB (Below.on hC0 hY)
                replace hRow : Hid _ := hid hRow
                clear oN10 oN16 hY hC0 hneN16
                have HQ2 : Hid (R.take P ++ x :: R.drop P = if W then (L.take (k + 1)).foldl (insP bn ds) [] else L.take (k + 1)) := hid (by
                  rw [HX.out.2.2]
                  have hq := HQ.out
                  have hp := HP.out
                  cases W with
                  | true =>
                    rw [if_pos rfl] at hq ⊢
                    rw [List.foldl_append, ← hq]
                    rw [plcW, if_pos rfl] at hp
                    show _ = insP bn ds R x
                    rw [insP, hp]
                  | false =>
                    rw [if_neg (by simp)] at hq ⊢
                    rw [plcW, if_neg (by simp)] at hp
                    rw [← hp, List.take_length, List.drop_length, hq])
                have HI2 : Hid (∀ r ∈ R.take P ++ x :: R.drop P, r ∈ L) := hid fun r hr => by
                  rcases List.mem_append.1 hr with hr | hr
                  · exact HI.out r (List.mem_of_mem_take hr)
                  · rcases List.mem_cons.1 hr with rfl | hr
                    · exact HX.out.1
                    · exact HI.out r (List.mem_of_mem_drop hr)
                have hlen2 : (R.take P ++ x :: R.drop P).length = R.length + 1 := by simp only [List.length_append, List.length_cons, List.length_take, List.length_drop]; omega
                subst hRk
                clear HQ HP HI HX HZs HXs HZr HZm
                go_wp2
                go_roundw
                case rel => exact ⟨_, _, _, _, by omega, rfl, by go_num, hlen2, hRow, hB, HI2, HQ2⟩
                case measure => simp only [intOf]; omega
              · go_simp
                have oX := OwnR.lit0 44 3 y0.heap.size y hY.size
                replace hY := bal hY (.cells #[] 44)
                have hne : bA ≠ y.heap.size := Nat.ne_of_lt oA.at0.2
                replace oA := oA.alloc (.cells #[] 44)
                refine hK.out _ _ (cell_later hY x2) (fun hHeld => ?_)
                clear hK K
                (try simp only [Act.put, List.getElem_toArray, List.getElem_cons_zero, List.getElem_cons_succ, List.setIfInBounds_toArray, List.set_cons_zero, List.set_cons_succ])
                obtain ⟨bX, hbX⟩ : ∃ bX, y.heap.size = bX := ⟨_, rfl⟩
                rw [hbX] at oX hne
                (try rw [hbX])
                clear hbX
                generalize y.alloc (.cells #[] 44) = y at *
                refine wpAnyH_ready (rs := [4]) (by kernel_rfl) (by simp) ?_
                refine AllReadyH.cons rfl (fun K hK => ?_) AllReadyH.nil
                refine step_appU (B := y0.heap.size) (by rfl) (.tmp 75) (.tmp 78) (by rfl) Tryz.underlying36 Tryz.infoTRow rfl (by decide) (by decide) _ _ _ va P vd _ (zC (Z.take P)) (by rfl) (by rfl) oA (zC_one _) (by rw [zC_len, List.length_take]; omega) (zC_cell _) (zC_src (HZs.out y hY) P) (by have hm9 := HM2.out; simp only [List.length_append, List.length_nil, zC_len, List.length_map, List.length_take, List.length_drop, List.length_cons]; omega) hY.size ?_
                intro bN4 nN4 cN4 yN4 oN4 hgN hbN
                replace hY := below_grows hY hY.size hgN (fun q e => by cases e; exact oA.at0.1)
                have hneN4 : bN4 ≠ bX := by
                  rcases hbN with h | h
                  · rw [h]; exact hne
                  · rw [h]; exact Nat.ne_of_gt oX.at0.2
                replace oX := oX.keptR hgN (Ne.symm hne)
                refine hK.out _ _ (cell_later hY x2) (fun hHeld => ?_)
                clear hK K
                (try simp only [Act.put, List.getElem_toArray, List.getElem_cons_zero, List.getElem_cons_succ, List.setIfInBounds_toArray, List.set_cons_zero, List.set_cons_succ])
                clear oA hgN hbN hne
                refine wpAnyH_ready (rs := [10]) (by kernel_rfl) (by simp) ?_
                refine AllReadyH.cons rfl (fun K hK => ?_) AllReadyH.nil
                refine step_appU (B := y0.heap.size) (by rfl) (.tmp 80) (.tmp 84) (by rfl) Tryz.underlying42 Tryz.infoTVal rfl (by decide) (by decide) _ _ _ xa xn xc _ (x.map cVs) (by rfl) (by rfl) oX (cVs_one _) (by rw [List.length_map]; exact px1) (cVs_cell _) (HXs.out yN4 hY) (by have hm9 := HM2.out; simp only [List.length_append, List.length_nil, zC_len, List.length_map, List.length_take, List.length_drop, List.length_cons]; omega) hY.size ?_
                intro bN10 nN10 cN10 yN10 oN10 hgN hbN
                replace hY := below_grows hY hY.size hgN (fun q e => by cases e; exact oX.at0.1)
                have hneN10 : bN4 ≠ bN10 := by
                  rcases hbN with h | h
                  · rw [h]; exact hneN4
                  · rw [h]; exact Nat.ne_of_lt oN4.at0.2
                replace oN4 := oN4.keptR hgN hneN4
                refine hK.out _ _ (cell_later hY x2) (fun hHeld => ?_)
                clear hK K
                (try simp only [Act.put, List.getElem_toArray, List.getElem_cons_zero, List.getElem_cons_succ, List.setIfInBounds_toArray, List.set_cons_zero, List.set_cons_succ])
                clear oX hgN hbN hneN4
                refine wpAnyH_ready (rs := [11]) (by kernel_rfl) (by simp) ?_
                refine AllReadyH.cons rfl (fun K hK => ?_) AllReadyH.nil
                go_simp
                have kL := Bk.new yN10 (.cells #[.slice (some ⟨bN10, 0, none⟩) nN10 cN10] 42)
                replace hY := bal hY (.cells #[.slice (some ⟨bN10, 0, none⟩) nN10 cN10] 42)
                obtain ⟨bL, hbL⟩ : ∃ bL, yN10.heap.size = bL := ⟨_, rfl⟩
                rw [hbL] at kL
                have hnlN10 : bN4 ≠ bL := by rw [← hbL]; exact Nat.ne_of_lt oN4.at0.2
                replace oN4 := oN4.alloc (.cells #[.slice (some ⟨bN10, 0, none⟩) nN10 cN10] 42)
                replace oN10 := oN10.alloc (.cells #[.slice (some ⟨bN10, 0, none⟩) nN10 cN10] 42)
                refine hK.out _ _ (cell_later hY x2) (fun hHeld => ?_)
                clear hK K
                (try simp only [Act.put, List.getElem_toArray, List.getElem_cons_zero, List.getElem_cons_succ, List.setIfInBounds_toArray, List.set_cons_zero, List.set_cons_succ])
                (try rw [hbL])
                clear hbL
                generalize yN10.alloc (.cells #[.slice (some ⟨bN10, 0, none⟩) nN10 cN10] 42) = yN10 at *
                refine wpAnyH_ready (rs := [12]) (by kernel_rfl) (by simp) ?_
                refine AllReadyH.cons rfl (fun K hK => ?_) AllReadyH.nil
                refine step_appU (B := y0.heap.size) (by rfl) (.tmp 79) (.tmp 86) (by rfl) Tryz.underlying36 Tryz.infoTRow rfl (by decide) (by decide) _ _ _ (some ⟨bL, 0, none⟩) 1 1 _ (zC [((some ⟨bN10, 0, none⟩, nN10, cN10), x)]) (by rfl) (by rfl) oN4 (zC_one _) rfl (zC_cell _) (lit_src kL) (by have hm9 := HM2.out; simp only [List.length_append, List.length_nil, zC_len, List.length_map, List.length_take, List.length_drop, List.length_cons]; omega) hY.size ?_
                intro bN12 nN12 cN12 yN12 oN12 hgN hbN
                replace hY := below_grows hY hY.size hgN (fun q e => by cases e; exact oN4.at0.1)
                have hneN12 : bN12 ≠ bN10 := by
                  rcases hbN with h | h
                  · rw [h]; exact hneN10
                  · rw [h]; exact Nat.ne_of_gt oN10.at0.2
                replace oN10 := oN10.keptR hgN (Ne.symm hneN10)
                have hnlN12 : bN12 ≠ bL := by
                  rcases hbN with h | h
                  · rw [h]; exact hnlN10
                  · rw [h]; exact Nat.ne_of_gt kL.lt
                replace kL := kL.grown hgN (fun e => hnlN10 (Option.some.inj e).symm)
                refine hK.out _ _ (cell_later hY x2) (fun hHeld => ?_)
                clear hK K
                (try simp only [Act.put, List.getElem_toArray, List.getElem_cons_zero, List.getElem_cons_succ, List.setIfInBounds_toArray, List.set_cons_zero, List.set_cons_succ])
                clear oN4 hgN hbN hneN10 hnlN10
                refine wpAnyH_ready (rs := [16]) (by kernel_rfl) (by simp) ?_
                refine AllReadyH.cons rfl (fun K hK => ?_) AllReadyH.nil
                refine step_appU (B := y0.heap.size) (by rfl) (.tmp 87) (.tmp 90) (by rfl) Tryz.underlying36 Tryz.infoTRow rfl (by decide) (by decide) _ _ _ a2 m2 d2 _ (zC (Z.drop P)) (by rfl) (by rfl) oN12 (zC_one _) (by rw [zC_len, List.length_drop, HM2.out, hZn]) (zC_cell _) (zC_src2 (HZs.out yN12 hY) P (fun h => hA2 (by omega))) (by have hm9 := HM2.out; simp only [List.length_append, List.length_nil, zC_len, List.length_map, List.length_take, List.length_drop, List.length_cons]; omega) hY.size ?_
                intro bN16 nN16 cN16 yN16 oN16 hgN hbN
                replace hY := below_grows hY hY.size hgN (fun q e => by cases e; exact oN12.at0.1)
                have hneN16 : bN16 ≠ bN10 := by
                  rcases hbN with h | h
                  · rw [h]; exact hneN12
                  · rw [h]; exact Nat.ne_of_gt oN10.at0.2
                replace oN10 := oN10.keptR hgN (Ne.symm hneN12)
                refine hK.out _ _ (cell_later hY x2) (fun hHeld => ?_)
                clear hK K
                (try simp only [Act.put, List.getElem_toArray, List.getElem_cons_zero, List.getElem_cons_succ, List.setIfInBounds_toArray, List.set_cons_zero, List.set_cons_succ])
                clear oN12 hgN hbN hneN12
                refine wpAnyH_ready (rs := [17]) (by kernel_rfl) (by simp) ?_
                refine AllReadyH.cons rfl (fun K hK => ?_) AllReadyH.nil
                go_simp
                refine hK.out _ _ (cell_later hY x2) (fun hHeld => ?_)
                clear hK K
                (try simp only [Act.put, List.getElem_toArray, List.getElem_cons_zero, List.getElem_cons_succ, List.setIfInBounds_toArray, List.set_cons_zero, List.set_cons_succ])
                refine wpAnyH_done (by kernel_rfl) ?_ _
                clear hHeld x2
                obtain ⟨rfl, hRow⟩ := rows_put hY HZr.out oN10 oN16 HZm.out
                replace hB := Below.on hB (Below.on hC0 hY)
                replace hRow : Hid _ := hid hRow
                clear oN10 oN16 hY hC0 hneN16
                have HQ2 : Hid (R.take P ++ x :: R.drop P = if W then (L.take (k + 1)).foldl (insP bn ds) [] else L.take (k + 1)) := hid (by
                  rw [HX.out.2.2]
                  have hq := HQ.out
                  have hp := HP.out
                  cases W with
                  | true =>
                    rw [if_pos rfl] at hq ⊢
                    rw [List.foldl_append, ← hq]
                    rw [plcW, if_pos rfl] at hp
                    show _ = insP bn ds R x
                    rw [insP, hp]
                  | false =>
                    rw [if_neg (by simp)] at hq ⊢
                    rw [plcW, if_neg (by simp)] at hp
                    rw [← hp, List.take_length, List.drop_length, hq])
                have HI2 : Hid (∀ r ∈ R.take P ++ x :: R.drop P, r ∈ L) := hid fun r hr => by
                  rcases List.mem_append.1 hr with hr | hr
                  · exact HI.out r (List.mem_of_mem_take hr)
                  · rcases List.mem_cons.1 hr with rfl | hr
                    · exact HX.out.1
                    · exact HI.out r (List.mem_of_mem_drop hr)
                have hlen2 : (R.take P ++ x :: R.drop P).length = R.length + 1 := by simp only [List.length_append, List.length_cons, List.length_take, List.length_drop]; omega
                subst hRk
                clear HQ HP HI HX HZs HXs HZr HZm
                go_wp2
                go_roundw
                case rel => exact ⟨_, _, _, _, by omega, rfl, by go_num, hlen2, hRow, hB, HI2, HQ2⟩
                case measure => simp only [intOf]; omega
            · go_simp
              have oX := OwnR.lit0 44 3 y0.heap.size y hY.size
              replace hY := bal hY (.cells #[] 44)
              refine hK.out _ _ (cell_later hY x2) (fun hHeld => ?_)
              clear hK K
              (try simp only [Act.put, List.getElem_toArray, List.getElem_cons_zero, List.getElem_cons_succ, List.setIfInBounds_toArray, List.set_cons_zero, List.set_cons_succ])
              obtain ⟨bX, hbX⟩ : ∃ bX, y.heap.size = bX := ⟨_, rfl⟩
              rw [hbX] at oX
              (try rw [hbX])
              clear hbX
              generalize y.alloc (.cells #[] 44) = y at *
              refine wpAnyH_ready (rs := [0]) (by kernel_rfl) (by simp) ?_
              refine AllReadyH.cons rfl (fun K hK => ?_) AllReadyH.nil
              go_simp
              have oA := OwnR.lit0 42 1 y0.heap.size y hY.size
              replace hY := bal hY (.cells #[] 42)
              have hne : y.heap.size ≠ bX := Nat.ne_of_gt oX.at0.2
              replace oX := oX.alloc (.cells #[] 42)
              refine hK.out _ _ (cell_later hY x2) (fun hHeld => ?_)
              clear hK K
              (try simp only [Act.put, List.getElem_toArray, List.getElem_cons_zero, List.getElem_cons_succ, List.setIfInBounds_toArray, List.set_cons_zero, List.set_cons_succ])
              obtain ⟨bA, hbA⟩ : ∃ bA, y.heap.size = bA := ⟨_, rfl⟩
              rw [hbA] at oA hne
              (try rw [hbA])
              clear hbA
              generalize y.alloc (.cells #[] 42) = y at *
              refine wpAnyH_ready (rs := [4]) (by kernel_rfl) (by simp) ?_
              refine AllReadyH.cons rfl (fun K hK => ?_) AllReadyH.nil
              refine step_appU (B := y0.heap.size) (by rfl) (.tmp 75) (.tmp 78) (by rfl) Tryz.underlying36 Tryz.infoTRow rfl (by decide) (by decide) _ _ _ va P vd _ (zC (Z.take P)) (by rfl) (by rfl) oA (zC_one _) (by rw [zC_len, List.length_take]; omega) (zC_cell _) (zC_src (HZs.out y hY) P) (by have hm9 := HM2.out; simp only [List.length_append, List.length_nil, zC_len, List.length_map, List.length_take, List.length_drop, List.length_cons]; omega) hY.size ?_
              intro bN4 nN4 cN4 yN4 oN4 hgN hbN
              replace hY := below_grows hY hY.size hgN (fun q e => by cases e; exact oA.at0.1)
              have hneN4 : bN4 ≠ bX := by
                rcases hbN with h | h
                · rw [h]; exact hne
                · rw [h]; exact Nat.ne_of_gt oX.at0.2
              replace oX := oX.keptR hgN (Ne.symm hne)
              refine hK.out _ _ (cell_later hY x2) (fun hHeld => ?_)
              clear hK K
              (try simp only [Act.put, List.getElem_toArray, List.getElem_cons_zero, List.getElem_cons_succ, List.setIfInBounds_toArray, List.set_cons_zero, List.set_cons_succ])
              clear oA hgN hbN hne
              refine wpAnyH_ready (rs := [10]) (by kernel_rfl) (by simp) ?_
              refine AllReadyH.cons rfl (fun K hK => ?_) AllReadyH.nil
              refine step_appU (B := y0.heap.size) (by rfl) (.tmp 80) (.tmp 84) (by rfl) Tryz.underlying42 Tryz.infoTVal rfl (by decide) (by decide) _ _ _ xa xn xc _ (x.map cVs) (by rfl) (by rfl) oX (cVs_one _) (by rw [List.length_map]; exact px1) (cVs_cell _) (HXs.out yN4 hY) (by have hm9 := HM2.out; simp only [List.length_append, List.length_nil, zC_len, List.length_map, List.length_take, List.length_drop, List.length_cons]; omega) hY.size ?_
              intro bN10 nN10 cN10 yN10 oN10 hgN hbN
              replace hY := below_grows hY hY.size hgN (fun q e => by cases e; exact oX.at0.1)
              have hneN10 : bN4 ≠ bN10 := by
                rcases hbN with h | h
                · rw [h]; exact hneN4
                · rw [h]; exact Nat.ne_of_lt oN4.at0.2
              replace oN4 := oN4.keptR hgN hneN4
              refine hK.out _ _ (cell_later hY x2) (fun hHeld => ?_)
              clear hK K
              (try simp only [Act.put, List.getElem_toArray, List.getElem_cons_zero, List.getElem_cons_succ, List.setIfInBounds_toArray, List.set_cons_zero, List.set_cons_succ])
              clear oX hgN hbN hneN4
              refine wpAnyH_ready (rs := [11]) (by kernel_rfl) (by simp) ?_
              refine AllReadyH.cons rfl (fun K hK => ?_) AllReadyH.nil
              go_simp
              have kL := Bk.new yN10 (.cells #[.slice (some ⟨bN10, 0, none⟩) nN10 cN10] 42)
              replace hY := bal hY (.cells #[.slice (some ⟨bN10, 0, none⟩) nN10 cN10] 42)
              obtain ⟨bL, hbL⟩ : ∃ bL, yN10.heap.size = bL := ⟨_, rfl⟩
              rw [hbL] at kL
              have hnlN10 : bN4 ≠ bL := by rw [← hbL]; exact Nat.ne_of_lt oN4.at0.2
              replace oN4 := oN4.alloc (.cells #[.slice (some ⟨bN10, 0, none⟩) nN10 cN10] 42)
              replace oN10 := oN10.alloc (.cells #[.slice (some ⟨bN10, 0, none⟩) nN10 cN10] 42)
              refine hK.out _ _ (cell_later hY x2) (fun hHeld => ?_)
              clear hK K
              (try simp only [Act.put, List.getElem_toArray, List.getElem_cons_zero, List.getElem_cons_succ, List.setIfInBounds_toArray, List.set_cons_zero, List.set_cons_succ])
              (try rw [hbL])
              clear hbL
              generalize yN10.alloc (.cells #[.slice (some ⟨bN10, 0, none⟩) nN10 cN10] 42) = yN10 at *
              refine wpAnyH_ready (rs := [12]) (by kernel_rfl) (by simp) ?_
              refine AllReadyH.cons rfl (fun K hK => ?_) AllReadyH.nil
              refine step_appU (B := y0.heap.size) (by rfl) (.tmp 79) (.tmp 86) (by rfl) Tryz.underlying36 Tryz.infoTRow rfl (by decide) (by decide) _ _ _ (some ⟨bL, 0, none⟩) 1 1 _ (zC [((some ⟨bN10, 0, none⟩, nN10, cN10), x)]) (by rfl) (by rfl) oN4 (zC_one _) rfl (zC_cell _) (lit_src kL) (by have hm9 := HM2.out; simp only [List.length_append, List.length_nil, zC_len, List.length_map, List.length_take, List.length_drop, List.length_cons]; omega) hY.size ?_
              intro bN12 nN12 cN12 yN12 oN12 hgN hbN
              replace hY := below_grows hY hY.size hgN (fun q e => by cases e; exact oN4.at0.1)
              have hneN12 : bN12 ≠ bN10 := by
                rcases hbN with h | h
                · rw [h]; exact hneN10
                · rw [h]; exact Nat.ne_of_gt oN10.at0.2
              replace oN10 := oN10.keptR hgN (Ne.symm hneN10)
              have hnlN12 : bN12 ≠ bL := by
                rcases hbN with h | h
                · rw [h]; exact hnlN10
                · rw [h]; exact Nat.ne_of_gt kL.lt
              replace kL := kL.grown hgN (fun e => hnlN10 (Option.some.inj e).symm)
              refine hK.out _ _ (cell_later hY x2) (fun hHeld => ?_)
              clear hK K
              (try simp only [Act.put, List.getElem_toArray, List.getElem_cons_zero, List.getElem_cons_succ, List.setIfInBounds_toArray, List.set_cons_zero, List.set_cons_succ])
              clear oN4 hgN hbN hneN10 hnlN10
              refine wpAnyH_ready (rs := [16]) (by kernel_rfl) (by simp) ?_
              refine AllReadyH.cons rfl (fun K hK => ?_) AllReadyH.nil
              refine step_appU (B := y0.heap.size) (by rfl) (.tmp 87) (.tmp 90) (by rfl) Tryz.underlying36 Tryz.infoTRow rfl (by decide) (by decide) _ _ _ a2 m2 d2 _ (zC (Z.drop P)) (by rfl) (by rfl) oN12 (zC_one _) (by rw [zC_len, List.length_drop, HM2.out, hZn]) (zC_cell _) (zC_src2 (HZs.out yN12 hY) P (fun h => hA2 (by omega))) (by have hm9 := HM2.out; simp only [List.length_append, List.length_nil, zC_len, List.length_map, List.length_take, List.length_drop, List.length_cons]; omega) hY.size ?_
              intro bN16 nN16 cN16 yN16 oN16 hgN hbN
              replace hY := below_grows hY hY.size hgN (fun q e => by cases e; exact oN12.at0.1)
              have hneN16 : bN16 ≠ bN10 := by
                rcases hbN with h | h
                · rw [h]; exact hneN12
                · rw [h]; exact Nat.ne_of_gt oN10.at0.2
              replace oN10 := oN10.keptR hgN (Ne.symm hneN12)
              refine hK.out _ _ (cell_later hY x2) (fun hHeld => ?_)
              clear hK K
              (try simp only [Act.put, List.getElem_toArray, List.getElem_cons_zero, List.getElem_cons_succ, List.setIfInBounds_toArray, List.set_cons_zero, List.set_cons_succ])
              clear oN12 hgN hbN hneN12
              refine wpAnyH_ready (rs := [17]) (by kernel_rfl) (by simp) ?_
              refine AllReadyH.cons rfl (fun K hK => ?_) AllReadyH.nil
              go_simp
              refine hK.out _ _ (cell_later hY x2) (fun hHeld => ?_)
              clear hK K
              (try simp only [Act.put, List.getElem_toArray, List.getElem_cons_zero, List.getElem_cons_succ, List.setIfInBounds_toArray, List.set_cons_zero, List.set_cons_succ])
              refine wpAnyH_done (by kernel_rfl) ?_ _
              clear hHeld x2
              obtain ⟨rfl, hRow⟩ := rows_put hY HZr.out oN10 oN16 HZm.out
              replace hB := Below.on hB (Below.on hC0 hY)
              replace hRow : Hid _ := hid hRow
              clear oN10 oN16 hY hC0 hneN16
              have HQ2 : Hid (R.take P ++ x :: R.drop P = if W then (L.take (k + 1)).foldl (insP bn ds) [] else L.take (k + 1)) := hid (by
                rw [HX.out.2.2]
                have hq := HQ.out
                have hp := HP.out
                cases W with
                | true =>
                  rw [if_pos rfl] at hq ⊢
                  rw [List.foldl_append, ← hq]
                  rw [plcW, if_pos rfl] at hp
                  show _ = insP bn ds R x
                  rw [insP, hp]
                | false =>
                  rw [if_neg (by simp)] at hq ⊢
                  rw [plcW, if_neg (by simp)] at hp
                  rw [← hp, List.take_length, List.drop_length, hq])
              have HI2 : Hid (∀ r ∈ R.take P ++ x :: R.drop P, r ∈ L) := hid fun r hr => by
                rcases List.mem_append.1 hr with hr | hr
                · exact HI.out r (List.mem_of_mem_take hr)
                · rcases List.mem_cons.1 hr with rfl | hr
                  · exact HX.out.1
                  · exact HI.out r (List.mem_of_mem_drop hr)
              have hlen2 : (R.take P ++ x :: R.drop P).length = R.length + 1 := by simp only [List.length_append, List.length_cons, List.length_take, List.length_drop]; omega
              subst hRk
              clear HQ HP HI HX HZs HXs HZr HZm
              go_wp2
              go_roundw
              case rel => exact ⟨_, _, _, _, by omega, rfl, by go_num, hlen2, hRow, hB, HI2, HQ2⟩
              case measure => simp only [intOf]; omega
        · obtain rfl : n = k := by omega
          have HL : Hid (R = srtP bi ds L) := hid (by rw [HQ.out, HE.out, ← l1, List.take_length])
          go_wp2
          go_ret
          exact ⟨_, _, _, rfl, by rw [← HL.out]; exact HT.out, hB⟩

end Go.Proofs.YtnlaaejdianfjaaGreat
