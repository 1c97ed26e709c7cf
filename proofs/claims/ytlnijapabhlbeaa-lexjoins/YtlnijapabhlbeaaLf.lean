/- The walk of LexNumbers. -/
import Derived.Test.YtlnijapabhlbeaaLe
import Derived.Test.YtlnijapabhlbeaaLd
namespace Go.Proofs.Ytlnijapabhlbeaa
open Go.RowKit
set_option linter.unusedVariables false

/-- A fact kept from the walk. -/
theorem hid {p : Prop} (h : p) : Hid p := h
theorem cat_lists (l m : List UInt8) : (⟨l.toArray⟩ : ByteArray) ++ ⟨m.toArray⟩ = ⟨(l ++ m).toArray⟩ := by
  apply ByteArray.ext
  simp [ByteArray.data_append]
theorem rep_dig (m : Nat) (l : List UInt8) (h : l.all isDig = true) : (List.replicate m 48 ++ l).all isDig = true := by
  rw [List.all_append, h, Bool.and_true, List.all_eq_true]
  intro x hx
  rw [(List.mem_replicate.1 hx).2]
  decide
theorem rep_val (m : Nat) (l : List UInt8) : val (List.replicate m 48 ++ l) = val l := by
  induction m with
  | zero => rfl
  | succ m ih => rw [List.replicate_succ, List.cons_append, val_nought, ih]

set_option maxRecDepth 100000 in
set_option maxHeartbeats 2000000 in
theorem numbers_pos (a : Int) (u : Nat) (hu : u ≤ 9223372036854775807) (x : Int) (hx : Fits x) (hxa : (x < 0 ∧ a = -(x + 1)) ∨ (0 ≤ x ∧ a = x)) (hau : a = u) (n c : UInt8) (w : World) : Calls Try.prog 6 #[.int .i64 x, .int .u8 (n.toNat : Int), .int .u8 (c.toNat : Int)] w fun e w' => e = .returned (.bool true) ∧ Below w.heap.size w w' := by
  have HB : Hid _ := begun_any w
  have HS : Hid (∀ w, _) := fun w => refShow_any a (by unfold Fits; omega) w
  rw [itoa_pos' (m := u) (by omega) (by omega)] at HS
  have hD1 := dec_isDig u
  have hD2 := dec_val u
  have hD3 := dec_len (m := u) (by omega)
  have hD4 := dec_ne u
  generalize Lib.decDigits u = D at *
  have HS2 : Hid (∀ w, _) := fun w => refShow_any (4611686018427387904 + a / 4) (by unfold Fits; omega) w
  rw [itoa_pos' (m := 4611686018427387904 + u / 4) (by omega) (by omega)] at HS2
  have hE1 := dec_isDig (4611686018427387904 + u / 4)
  have hE2 := val_over (4611686018427387904 + u / 4) (by omega)
  have hE3 := dec_len (m := 4611686018427387904 + u / 4) (by omega)
  generalize Lib.decDigits (4611686018427387904 + u / 4) = E at *
  replace hau : Hid _ := hau
  go_enter Try.func6, Try.ntmps6
  go_wp2_with fail
  refine Calls.mono HB.out ?_
  rintro e w1 ⟨rfl, hb1⟩
  clear HB
  go_upto_if 22 with fail
  go_cut [0] (fun v0 w' => v0 = .int .i64 a ∧ w' = w1)
  case first =>
    rcases hxa with ⟨h0, rfl⟩ | ⟨h0, rfl⟩
    · have g1 : decide (x < 0) = true := by simpa using h0
      obtain ⟨x1, x2⟩ := hx
      have e1 : IntKind.i64.wrap (x + 1) = x + 1 := by rw [IntKind.wrap_i64]; omega
      have e2 : IntKind.i64.wrap (-(x + 1)) = -(x + 1) := by rw [IntKind.wrap_i64]; omega
      clear HS HS2
      go_wp2_with fail
      go_meet
      exact ⟨rfl, rfl⟩
    · have g1 : decide (a < 0) = false := by simp; omega
      clear HS HS2
      go_wp2_with fail
      go_meet
      exact ⟨rfl, rfl⟩
  case rest =>
    obtain ⟨rfl, rfl⟩ := hcut
    clear hxa hx
    go_wp2_with fail
    refine Calls.mono (HS.out _) ?_
    rintro e w2 ⟨rfl, hb2⟩
    have hB2 := Below.on hb1 hb2
    clear HS hb1 hb2
    have hn := UInt8.toNat_lt n
    have hmod : ((n.toNat : Int)).tmod 30 = ((n.toNat % 30 : Nat) : Int) := by rw [Int.tmod_eq_emod_of_nonneg (by omega)]; omega
    have hm30 : n.toNat % 30 < 30 := Nat.mod_lt _ (by omega)
    generalize n.toNat % 30 = m at *
    have hw3 : IntKind.i64.wrap (m : Int) = m := by rw [IntKind.wrap_i64]; omega
    go_wp2
    go_loopw [7, 8] (fun s i wr => ∃ k : Nat, k ≤ m ∧ i = .int .i64 k ∧ s = .string ⟨(List.replicate k 48 ++ D).toArray⟩ ∧ wr = w2) (fun _ i _ => m - (intOf i).toNat)
    case atStart => exact ⟨0, by omega, rfl, rfl, rfl⟩
    case round =>
      obtain ⟨k, hk, rfl, rfl, rfl⟩ := hrel
      by_cases hlt : k < m
      · have hcat : (⟨#[48]⟩ : ByteArray) ++ ⟨(List.replicate k 48 ++ D).toArray⟩ = ⟨(List.replicate (k + 1) 48 ++ D).toArray⟩ := by rw [cat_str, List.replicate_succ]; rfl
        have hz : (⟨(List.replicate k 48 ++ D).toArray⟩ : ByteArray).size ≤ 60 := by simp [ByteArray.size]; omega
        generalize (⟨(List.replicate k 48 ++ D).toArray⟩ : ByteArray) = S at *
        generalize hS' : (⟨(List.replicate (k + 1) 48 ++ D).toArray⟩ : ByteArray) = S' at *
        replace hS' : Hid _ := hS'
        clear HS2
        go_wp2
        go_roundw
        case rel => exact ⟨k + 1, by omega, by go_num, by rw [hS'.out], trivial⟩
        case measure => simp only [intOf]; omega
      · obtain rfl : k = m := by omega
        have hL1 := rep_dig k D hD1
        have hL2 := rep_val k D
        rw [hD2] at hL2
        have hL3 : 0 < (List.replicate k 48 ++ D).length ∧ (List.replicate k 48 ++ D).length ≤ 60 := by
          have : 0 < D.length := List.length_pos_iff.2 hD4
          simp; omega
        generalize List.replicate k 48 ++ D = L at *
        have hz1 : (⟨L.toArray⟩ : ByteArray).size = L.length := by simp [ByteArray.size]
        have hx1 : LexR ⟨L.toArray⟩ _ 0 0 := lex_dig (by rw [bs_mk]; exact hL1) (by rw [hz1]; exact hL3.1) (by rw [hz1]; omega) (by rw [bs_mk, hL2]; unfold Fits; omega)
        rw [bs_mk, hL2, hz1] at hx1
        have hc2 : (⟨L.toArray⟩ : ByteArray) ++ ⟨#[c]⟩ = ⟨(L ++ [c]).toArray⟩ := cat_lists L [c]
        have hz2 : (⟨(L ++ [c]).toArray⟩ : ByteArray).size = L.length + 1 := by simp [ByteArray.size]
        have hx2 : isL c = true → LexR ⟨(L ++ [c]).toArray⟩ [] L.length 4 := fun hc => lex_let (bs_mk _) hL1 hL3.1 (by rw [hz2]; omega) hc
        have hc3 : (⟨#[57]⟩ : ByteArray) ++ ⟨E.toArray⟩ = ⟨(57 :: E).toArray⟩ := cat_str 57 E
        have hc4 : (⟨(57 :: E).toArray⟩ : ByteArray) ++ ⟨#[48, 48]⟩ = ⟨(57 :: (E ++ [48, 48])).toArray⟩ := cat_lists (57 :: E) [48, 48]
        have hz4 : (⟨(57 :: (E ++ [48, 48])).toArray⟩ : ByteArray).size = E.length + 3 := by simp [ByteArray.size]
        have hx3 : LexR ⟨(57 :: (E ++ [48, 48])).toArray⟩ [] 0 8 := lex_over (by rw [bs_mk]; simp [hE1]; decide) (by rw [hz4]; omega) (by rw [hz4]; omega) (by rw [bs_mk]; exact hE2)
        have HX1 : Hid (∀ w, _) := fun w => lex_any ⟨L.toArray⟩ (by rw [hz1]; omega) w
        have HX2 : Hid (∀ w, _) := fun w => lex_any ⟨(L ++ [c]).toArray⟩ (by rw [hz2]; omega) w
        have HX3 : Hid (∀ w, _) := fun w => lex_any ⟨(57 :: (E ++ [48, 48])).toArray⟩ (by rw [hz4]; omega) w
        have hz3 : (⟨E.toArray⟩ : ByteArray).size ≤ 21 := by simp [ByteArray.size]; omega
        have hz5 : (⟨(57 :: E).toArray⟩ : ByteArray).size ≤ 22 := by simp [ByteArray.size]; omega
        rw [show (u : Int) = a from hau.out.symm] at hx1
        have hdiv : a.tdiv 4 = a / 4 := by have := hau.out; rw [Int.tdiv_eq_ediv_of_nonneg (by omega)]
        have hwd : IntKind.i64.wrap (a / 4) = a / 4 := by have := hau.out; rw [IntKind.wrap_i64]; omega
        have hws : IntKind.i64.wrap (4611686018427387904 + a / 4) = 4611686018427387904 + a / 4 := by have := hau.out; rw [IntKind.wrap_i64]; omega
        generalize (⟨L.toArray⟩ : ByteArray) = S1 at *
        generalize (⟨(L ++ [c]).toArray⟩ : ByteArray) = S2 at *
        generalize (⟨(57 :: (E ++ [48, 48])).toArray⟩ : ByteArray) = S4 at *
        generalize (⟨(57 :: E).toArray⟩ : ByteArray) = S3 at *
        generalize (⟨E.toArray⟩ : ByteArray) = S0 at *
        generalize L.length = nl at *
        replace hx1 := hid hx1
        replace hx2 := hid hx2
        replace hx3 := hid hx3
        have hz1' : S1.size ≤ 60 := by omega
        have hz2' : S2.size ≤ 61 := by omega
        have hz4' : S4.size ≤ 24 := by omega
        have hnl : (nl : Int) = (S1.size : Int) := by omega
        replace hz1 : Hid _ := hz1
        replace hz2 : Hid _ := hz2
        replace hz4 : Hid _ := hz4
        clear hlt hk hL1 hL2 hL3 hD1 hD2 hD3 hD4 hE1 hE2 hE3
        go_wp2_with fail
        refine Calls.mono (HX1.out _) ?_
        rintro e w3 ⟨ao, n1, c1, ts, p1, f1, rfl, hr, hl, hb⟩
        obtain ⟨rfl, rfl, rfl⟩ := hx1.out.det hl
        have hlen := hr.len
        have hcap := hr.cap
        have hmax := hr.max
        obtain rfl : n1 = 2 := hlen.symm
        have hB3 := Below.on hB2 hb
        have hcv := conv_one w3 c
        clear HX1 hx1 hl hlen hb hB2 hmod hw3 hn hm30
        go_wp2_with fail
        refine Calls.mono (HX2.out _) ?_
        rintro e w4 ⟨ao2, n2, c2, ts2, p2, f2, rfl, hr2, hl2, hb2⟩
        have hB4 := Below.on (hB3.alloc hB3.size (.cells #[.int .u8 (c.toNat : Int)] 5)) hb2
        have hr4 := hr.later (Below.on ((Below.refl _ _).alloc (Nat.le_refl _) (.cells #[.int .u8 (c.toNat : Int)] 5)) hb2)
        have hF : Hid (isL c = true → p2 = (nl : Int) ∧ f2 = 4) := fun hc => by
          obtain ⟨_, h1, h2⟩ := hl2.det (hx2.out hc)
          exact ⟨h1, h2⟩
        clear HX2 hx2 hl2 hb2 hB3 hr2 hcv hr
        by_cases h97 : 97 ≤ c.toNat
        · by_cases h122 : c.toNat ≤ 122
          · have g1 : decide ((97 : Int) ≤ (c.toNat : Int)) = true := by simp; omega
            have g2 : decide ((c.toNat : Int) ≤ 122) = true := by simp; omega
            have hc : isL c = true := by simp [isL]; omega
            obtain ⟨rfl, rfl⟩ := hF.out hc
            clear hF h97 h122
            go_wp2_with fail
            refine Calls.mono (HS2.out _) ?_
            rintro e w5 ⟨rfl, hb5⟩
            have hB5 := Below.on hB4 hb5
            have hr5 := hr4.later hb5
            clear HS2 hr4 hB4 hb5
            go_wp2_with fail
            refine Calls.mono (HX3.out _) ?_
            rintro e w6 ⟨ao3, n3, c3, ts3, p3, f3, rfl, hr3, hl3, hb6⟩
            obtain ⟨rfl, rfl, rfl⟩ := hx3.out.det hl3
            have hB6 := Below.on hB5 hb6
            obtain ⟨b, o, rfl, hc5⟩ := (hr5.later hb6).cells (by omega)
            have k0 := (hc5 0 (by omega)).1
            have k2 := (hc5 0 (by omega)).2.2.1
            simp only [tth, List.getElem?_cons_zero, Option.getD_some] at k0 k2
            rw [Nat.zero_mul, Nat.add_zero] at k0 k2
            clear HX3 hx3 hl3 hr3 hr5 hB5 hb6 hc5
            go_wp2
            all_goals
              go_ret
              exact ⟨rfl, hB6⟩
          · have g1 : decide ((97 : Int) ≤ (c.toNat : Int)) = true := by simp; omega
            have g2 : decide ((c.toNat : Int) ≤ 122) = false := by simp; omega
            have g3 : ((c.toNat : Int) == 95) = false := by simp; omega
            clear hF h97 h122
            go_wp2_with fail
            refine Calls.mono (HS2.out _) ?_
            rintro e w5 ⟨rfl, hb5⟩
            have hB5 := Below.on hB4 hb5
            have hr5 := hr4.later hb5
            clear HS2 hr4 hB4 hb5
            go_wp2_with fail
            refine Calls.mono (HX3.out _) ?_
            rintro e w6 ⟨ao3, n3, c3, ts3, p3, f3, rfl, hr3, hl3, hb6⟩
            obtain ⟨rfl, rfl, rfl⟩ := hx3.out.det hl3
            have hB6 := Below.on hB5 hb6
            obtain ⟨b, o, rfl, hc5⟩ := (hr5.later hb6).cells (by omega)
            have k0 := (hc5 0 (by omega)).1
            have k2 := (hc5 0 (by omega)).2.2.1
            simp only [tth, List.getElem?_cons_zero, Option.getD_some] at k0 k2
            rw [Nat.zero_mul, Nat.add_zero] at k0 k2
            clear HX3 hx3 hl3 hr3 hr5 hB5 hb6 hc5
            go_wp2
            all_goals
              go_ret
              exact ⟨rfl, hB6⟩
        · by_cases h95 : c.toNat = 95
          · have g1 : decide ((97 : Int) ≤ (c.toNat : Int)) = false := by simp; omega
            have g3 : ((c.toNat : Int) == 95) = true := by simp; omega
            have hc : isL c = true := by simp [isL]; omega
            obtain ⟨rfl, rfl⟩ := hF.out hc
            clear hF h97 h95
            go_wp2_with fail
            refine Calls.mono (HS2.out _) ?_
            rintro e w5 ⟨rfl, hb5⟩
            have hB5 := Below.on hB4 hb5
            have hr5 := hr4.later hb5
            clear HS2 hr4 hB4 hb5
            go_wp2_with fail
            refine Calls.mono (HX3.out _) ?_
            rintro e w6 ⟨ao3, n3, c3, ts3, p3, f3, rfl, hr3, hl3, hb6⟩
            obtain ⟨rfl, rfl, rfl⟩ := hx3.out.det hl3
            have hB6 := Below.on hB5 hb6
            obtain ⟨b, o, rfl, hc5⟩ := (hr5.later hb6).cells (by omega)
            have k0 := (hc5 0 (by omega)).1
            have k2 := (hc5 0 (by omega)).2.2.1
            simp only [tth, List.getElem?_cons_zero, Option.getD_some] at k0 k2
            rw [Nat.zero_mul, Nat.add_zero] at k0 k2
            clear HX3 hx3 hl3 hr3 hr5 hB5 hb6 hc5
            go_wp2
            all_goals
              go_ret
              exact ⟨rfl, hB6⟩
          · have g1 : decide ((97 : Int) ≤ (c.toNat : Int)) = false := by simp; omega
            have g3 : ((c.toNat : Int) == 95) = false := by simp; omega
            clear hF h97 h95
            go_wp2_with fail
            refine Calls.mono (HS2.out _) ?_
            rintro e w5 ⟨rfl, hb5⟩
            have hB5 := Below.on hB4 hb5
            have hr5 := hr4.later hb5
            clear HS2 hr4 hB4 hb5
            go_wp2_with fail
            refine Calls.mono (HX3.out _) ?_
            rintro e w6 ⟨ao3, n3, c3, ts3, p3, f3, rfl, hr3, hl3, hb6⟩
            obtain ⟨rfl, rfl, rfl⟩ := hx3.out.det hl3
            have hB6 := Below.on hB5 hb6
            obtain ⟨b, o, rfl, hc5⟩ := (hr5.later hb6).cells (by omega)
            have k0 := (hc5 0 (by omega)).1
            have k2 := (hc5 0 (by omega)).2.2.1
            simp only [tth, List.getElem?_cons_zero, Option.getD_some] at k0 k2
            rw [Nat.zero_mul, Nat.add_zero] at k0 k2
            clear HX3 hx3 hl3 hr3 hr5 hB5 hb6 hc5
            go_wp2
            all_goals
              go_ret
              exact ⟨rfl, hB6⟩

theorem numbers_any (a : Int) (hf : Fits a) (n c : UInt8) (w : World) : Calls Try.prog 6 #[.int .i64 a, .int .u8 (n.toNat : Int), .int .u8 (c.toNat : Int)] w fun e w' => e = .returned (.bool true) ∧ Below w.heap.size w w' := by
  by_cases h : a < 0
  · exact numbers_pos (-(a + 1)) (-(a + 1)).toNat (by unfold Fits at hf; omega) a hf (.inl ⟨h, rfl⟩) (by omega) n c w
  · exact numbers_pos a a.toNat (by unfold Fits at hf; omega) a hf (.inr ⟨by omega, rfl⟩) (by omega) n c w

end Go.Proofs.Ytlnijapabhlbeaa
