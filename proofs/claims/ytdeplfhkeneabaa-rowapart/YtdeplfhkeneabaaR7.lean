/- The walk of the document's TakeRow. -/
import Derived.Test.YtdeplfhkeneabaaR6
namespace Go.Proofs.Ytdeplfhkeneabaa
open Go.RowKit
set_option linter.unusedVariables false

set_option maxRecDepth 100000 in
set_option maxHeartbeats 1000000 in
theorem refTakeRow_any (ao : Option Addr) (n c : Nat) (bs : List Int) (w : World) (h : Rd .u8 w ao n c bs) (hu : U8 bs) :
    Calls Try.prog 9 #[.slice ao n c] w fun e w' => ∃ oo p q, e = .returned (.tuple #[.slice oo p q, .int .i64 (rowE bs)]) ∧ RdV w' oo p q (rowV bs) ∧ Below w.heap.size w w' := by
  have hlen := h.len
  have hcap := h.cap
  have hmax := h.max
  cases bs with
  | nil =>
    obtain rfl : n = 0 := by simpa using hlen.symm
    clear h
    go_enter Try.func9, Try.ntmps9
    go_wp2
    refine bodyPost_ret (v := .tuple #[.slice none 0 0, .int .i64 2]) (by simp [results, Try.results9]) rfl ⟨none, 0, 0, rfl, RdV.nil _, Below.refl _ _⟩
  | cons x r =>
    have hx := hu x (by simp)
    have hur : U8 r := fun z hz => hu z (by simp [hz])
    obtain ⟨b, o, rfl, hc⟩ := h.cells (by rw [← hlen]; simp)
    have hc0 := hc 0 (by rw [← hlen]; simp)
    rw [nth_zero, Nat.add_zero] at hc0
    have hn1 : 1 ≤ n := by rw [← hlen]; simp
    have hwx : IntKind.i64.wrap x = x := by rw [IntKind.wrap_i64]; omega
    by_cases hno : x < 1 ∨ 6 < x
    · have e : rowE (x :: r) = 3 := by rw [rowE, if_pos hno]
      have e2 : rowV (x :: r) = [] := by rw [rowV, e]; rfl
      rw [e, e2]
      clear h hc hu hur e e2 hlen
      by_cases h1 : x < 1
      · have g1 : decide (x < 1) = true := by simpa using h1
        go_enter Try.func9, Try.ntmps9
        go_wp2
        refine bodyPost_ret (v := .tuple #[.slice none 0 0, .int .i64 3]) (by simp [results, Try.results9]) rfl ⟨none, 0, 0, rfl, RdV.nil _, Below.refl _ _⟩
      · have g1 : decide (x < 1) = false := by simpa using h1
        have g2 : decide (6 < x) = true := by simp; omega
        go_enter Try.func9, Try.ntmps9
        go_wp2
        refine bodyPost_ret (v := .tuple #[.slice none 0 0, .int .i64 3]) (by simp [results, Try.results9]) rfl ⟨none, 0, 0, rfl, RdV.nil _, Below.refl _ _⟩
    · obtain ⟨m, rfl⟩ : ∃ m : Nat, x = (m : Int) := ⟨x.toNat, by omega⟩
      have hm1 : 1 ≤ m := by omega
      have hm6 : m ≤ 6 := by omega
      have g1 : decide ((m : Int) < 1) = false := by simp; omega
      have g2 : decide (6 < (m : Int)) = false := by simp; omega
      obtain ⟨ao', p, d, hsl, hsr⟩ := slice_off (m := 1) h (by omega)
      rw [List.drop_succ_cons, List.drop_zero] at hsr
      replace hsl : ∀ w', (Instr.slice 23 (.slice (some ⟨b, o, none⟩) n c) (some (.int .i64 1)) none none).run Try.prog w' = .ok (.slice ao' p d) w' := hsl
      have HR : Hid (∀ w', Below w.heap.size w w' → Rd .u8 w' ao' p d r) := fun w' hb => hsr w' (h.later hb)
      have HE : Hid (rowE ((m : Int) :: r) = if tkS m r = 0 then (if tkM m r < r.length then 3 else 0) else tkS m r) := by rw [Hid, rowE, if_neg hno]; rfl
      have HV : Hid (rowV ((m : Int) :: r) = if rowE ((m : Int) :: r) = 0 then tkL m r else []) := rfl
      have HU : Hid (U8 r) := hur
      generalize rowE ((m : Int) :: r) = E at *
      generalize rowV ((m : Int) :: r) = V at *
      clear h hc hu hur hlen hno hsr
      go_enter Try.func9, Try.ntmps9
      go_wp2
      go_loopw [0, 5, 6] (fun v0 v5 v6 wr => ∃ (j : Nat) (ao : Option Addr) (p d : Nat), j ≤ m ∧ v6 = .int .i64 j ∧ v0 = .slice ao p d ∧ Hid (∀ w', Below w.heap.size w w' → Rd .u8 w' ao p d (r.drop (tkM j r))) ∧ Hid (tkS j r = 0) ∧ Hid (OwnV w.heap.size wr v5 (tkL j r)) ∧ Hid (Below w.heap.size w wr)) (fun _ _ i _ => m - (intOf i).toNat)
      case atStart => exact ⟨0, ao', p, d, by omega, rfl, rfl, HR.out, rfl, OwnV.nil _ _, Below.refl _ _⟩
      case round =>
        obtain ⟨j, ao, p, d, hj, rfl, rfl, HRd, HS, HO, HB⟩ := hrel
        clear HR hsl hc0
        have hpd := (HRd.out wr HB.out).cap
        have hdm := (HRd.out wr HB.out).max
        have HLr : Hid ((r.drop (tkM j r)).length = p) := (HRd.out wr HB.out).len
        by_cases hlt : j < m
        · have HT := refTake_any ao p d (r.drop (tkM j r)) wr (HRd.out wr HB.out) (fun x hx => HU.out x (List.mem_of_mem_drop hx))
          unfold tkR tkA at HT
          replace HT : Hid _ := HT
          obtain ⟨K, hK⟩ : ∃ K : Nat, tkN (r.drop (tkM j r)) = (K : Int) := ⟨(tkN (r.drop (tkM j r))).toNat, by have := tkN_nn (r.drop (tkM j r)); omega⟩
          have HM : Hid (r.drop (tkM (j + 1) r) = (r.drop (tkM j r)).drop K) := by
            rw [Hid, tkM, hK, Int.toNat_natCast, List.drop_drop]
          have HL : Hid (tkL (j + 1) r = tkL j r ++ [(tkK (r.drop (tkM j r)), tkI (r.drop (tkM j r)), strOfNums (tkT (r.drop (tkM j r))))]) := rfl
          have HE1 : Hid (tkE (r.drop (tkM j r)) ≠ 0 → tkS m r = tkE (r.drop (tkM j r))) := fun he => tkS_at HS.out hlt he
          have HE0 : Hid (tkE (r.drop (tkM j r)) = 0 → tkS (j + 1) r = 0) := fun he => by rw [tkS, if_pos HS.out, he]
          have HN : Hid (tkE (r.drop (tkM j r)) = 0 → K ≤ p) := fun he => by
            have := (read_one he (fun x hx => HU.out x (List.mem_of_mem_drop hx))).2.2.1
            rw [hK, Int.toNat_natCast, HLr.out] at this
            exact this
          rw [hK] at HT
          clear hK
          generalize r.drop (tkM j r) = B at *
          generalize tkK B = kk at *
          generalize tkI B = ii at *
          generalize strOfNums (tkT B) = ss at *
          generalize tkE B = ee at *
          go_wp2_with fail
          refine Calls.mono HT.out ?_
          rintro e w1 ⟨rfl, hb1⟩
          have hC := Cv.new w1 (kk, ii, ss)
          have hbX : Below wr.heap.size wr (w1.alloc (.cells #[.int .i64 kk, .int .i64 ii, .string ss] 35)) := hb1.alloc hb1.size _
          have hB2 := Below.on HB.out hbX
          have hO2 := HO.out.later hbX
          obtain ⟨g, hg⟩ : ∃ g, g = w1.heap.size := ⟨_, rfl⟩
          rw [← hg] at hC
          have hgne : Hid (some g ≠ u5.ownBlock) := HO.out.apart (by rw [hg]; exact hb1.size)
          clear HT HO HB hb1 hbX
          go_upto_region 12 with fail
          rw [← hg]
          clear hg
          replace hC : Cv (w1.alloc (.cells #[.int .i64 kk, .int .i64 ii, .string ss] 35)) g 0 (kk, ii, ss) := hC
          generalize w1.alloc (.cells #[.int .i64 kk, .int .i64 ii, .string ss] 35) = X at *
          by_cases he : ee = 0
          · subst he
            have hKp := HN.out rfl
            have hS1 : Hid _ := HE0.out rfl
            obtain ⟨ao2, p2, d2, hsl, hsr⟩ := slice_off (HRd.out X hB2) hKp
            have HR2 : Hid (∀ w', Below w.heap.size w w' → Rd .u8 w' ao2 p2 d2 (r.drop (tkM (j + 1) r))) := fun w' hb => by rw [HM.out]; exact hsr w' (HRd.out w' hb)
            clear hsr HM HE1 HE0 HN HRd HLr
            obtain ⟨c0, c1, c2⟩ := hC
            go_wp2_with fail
            have hD : Below X.heap.size X X.drew := (Below.refl _ _).drew
            have hDa : Below X.heap.size X (X.drew.alloc (.cells #[.int .i64 kk, .int .i64 ii, .string ss] 35)) := hD.alloc (Nat.le_refl _) _
            have hOd : OwnV w.heap.size (X.drew.alloc (.cells #[.int .i64 kk, .int .i64 ii, .string ss] 35)) u5 (tkL j r) := hO2.drew.alloc _
            have hBd : Below w.heap.size w (X.drew.alloc (.cells #[.int .i64 kk, .int .i64 ii, .string ss] 35)) := Below.on hB2 hDa
            go_region_held3 (fun w' => w'.cell? ⟨g, 0, none⟩ = some (.int .i64 kk) ∧ w'.cell? ⟨g, 1, none⟩ = some (.int .i64 ii) ∧ w'.cell? ⟨g, 2, none⟩ = some (.string ss)) (first | exact ⟨c0, c1, c2⟩ | exact ⟨cell_later hDa c0, cell_later hDa c1, cell_later hDa c2⟩ | exact ⟨k0, k1, k2⟩ | go_keep)
              ((refine step_appV (by rfl) (.tmp 39) (.tmp 41) (by rfl) w.heap.size u5 (tkL j r) X.heap.size (kk, ii, ss) (by rfl) (by rfl) hOd (Cv.new X.drew (kk, ii, ss)) (by rw [tkL_len]; omega) hBd.size ?_; intro v' w4 hO4 hb4 hk4; have k0 := hk4 _ _ _ (cell_later hDa c0) hgne.out; have k1 := hk4 _ _ _ (cell_later hDa c1) hgne.out; have k2 := hk4 _ _ _ (cell_later hDa c2) hgne.out))
            all_goals
              go_wp2
              go_roundw
            case rel =>
              rw [← HL.out] at hO4
              exact ⟨j + 1, ao2, p2, d2, by omega, by go_num, rfl, HR2, hS1, hO4, hBd.trans hb4⟩
            case measure => simp only [intOf]; omega
          · have g0 : (ee == 0) = false := by simpa using he
            have hm0 := HE1.out he
            rw [hm0, if_neg he] at HE
            have e := HE.out
            subst e
            rw [if_neg he] at HV
            have e := HV.out
            subst e
            clear HE HV hm0 HE1 HE0 HN HM HL hO2 HRd HLr HS
            go_wp2
            refine bodyPost_ret (v := .tuple #[.slice none 0 0, .int .i64 E]) (by simp [results, Try.results9]) rfl ⟨none, 0, 0, rfl, RdV.nil _, hB2⟩
        · obtain rfl : j = m := by omega
          rw [HS.out, if_pos rfl] at HE
          have HLl := HLr.out
          rw [List.length_drop] at HLl
          obtain ⟨oo, q, hv, hr⟩ := HO.out.rd
          by_cases hp : p = 0
          · subst hp
            rw [if_neg (by omega)] at HE
            have e := HE.out
            subst e
            rw [if_pos rfl] at HV
            have e := HV.out
            subst e
            subst hv
            clear HE HV HLl HLr HO HRd HS
            replace hr : Hid _ := hr
            generalize (tkL j r).length = LN at *
            go_wp2
            refine bodyPost_ret (v := .tuple #[.slice oo LN q, .int .i64 0]) (by simp [results, Try.results9]) rfl ⟨oo, LN, q, rfl, hr.out, HB.out⟩
          · rw [if_pos (by omega)] at HE
            have e := HE.out
            subst e
            rw [if_neg (by omega)] at HV
            have e := HV.out
            subst e
            clear HE HV HLl HLr HO HRd HS hr hv
            have g0 : decide ((0 : Int) < (p : Int)) = true := by simp; omega
            go_wp2
            refine bodyPost_ret (v := .tuple #[.slice none 0 0, .int .i64 3]) (by simp [results, Try.results9]) rfl ⟨none, 0, 0, rfl, RdV.nil _, HB.out⟩

end Go.Proofs.Ytdeplfhkeneabaa
