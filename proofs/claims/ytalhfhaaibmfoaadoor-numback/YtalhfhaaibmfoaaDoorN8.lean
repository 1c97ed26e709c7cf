/- The walk of NumBack. -/
import Derived.Test.YtalhfhaaibmfoaaDoorN6
import Derived.Deep.CutBlock
import Derived.Deep.DeepCutAuto
namespace Go.Proofs.YtalhfhaaibmfoaaDoor
open Go.RowKit
set_option linter.unusedVariables false

/-- What digits are told as is what they say. -/
theorem dec_isDig (u : Nat) : (Lib.decDigits u).all isDig = true := by
  have hd : ∀ k : Nat, k < 10 → isDig (UInt8.ofNat (48 + k)) = true := by decide
  induction u using Nat.strongRecOn with
  | _ u ih =>
    by_cases h : u < 10
    · rw [dec_one h]; simp [-UInt8.ofNat_add, hd u h]
    · rw [dec_more h, List.all_append, ih (u / 10) (by omega)]
      simp [-UInt8.ofNat_add, hd (u % 10) (by omega)]
theorem dec_val (u : Nat) : val (Lib.decDigits u) = u := by
  have hd : ∀ k : Nat, k < 10 → (UInt8.ofNat (48 + k)).toNat - 48 = k := by decide
  induction u using Nat.strongRecOn with
  | _ u ih =>
    by_cases h : u < 10
    · rw [dec_one h]
      have := hd u h
      simp [-UInt8.ofNat_add, -UInt8.toNat_ofNat', val, this]
    · rw [dec_more h, val_snoc, ih (u / 10) (by omega), hd (u % 10) (by omega)]
      omega
theorem pA_dec (u : Nat) : pA (Lib.decDigits u) = nA u := by
  have hn : isNum (Lib.decDigits u) = true := by
    rw [isNum, dec_isDig, Bool.and_true]
    have := dec_ne u
    cases e : Lib.decDigits u with
    | nil => exact absurd e this
    | cons x t => simp
  rw [pA, hn, dec_val]; rfl
theorem bs_mk (l : List UInt8) : bs ⟨l.toArray⟩ = l := by simp [bs]
theorem tail_str (x : UInt8) (d : List UInt8) (n : Nat) (hn : n = d.length + 1) : (⟨(x :: d).toArray⟩ : ByteArray).extract 1 n = ⟨d.toArray⟩ := by
  subst hn
  apply ByteArray.ext
  simp [ByteArray.data_extract]

theorem itoa_len (a : Int) : (Lib.itoa a).length ≠ 0 := by
  have h : Lib.itoa a ≠ [] := by
    unfold Lib.itoa
    split
    · simp
    · exact dec_ne _
  simpa using h

/-- What is told of a number: itself and no fault, or nothing and a fault. -/
theorem nA_two (z : Int) : ∃ x y : Int, nA z = .tuple #[.int .i64 x, .int .i64 y] ∧ ((Fits z ∧ x = z ∧ y = 0) ∨ (¬ Fits z ∧ x = 0 ∧ y = 8)) := by
  by_cases h : Fits z
  · exact ⟨z, 0, nA_in h, .inl ⟨h, rfl, rfl⟩⟩
  · exact ⟨0, 8, nA_out h, .inr ⟨h, rfl, rfl⟩⟩

set_option maxRecDepth 100000 in
set_option maxHeartbeats 1000000 in
theorem numBack_any (B : Nat) (a b : Int) (ha : Fits a) (hb : Fits b) (w : World) (hB : B ≤ w.heap.size) (ht : Tab B w) : Calls Tryd.prog 5 #[.int .i64 a, .int .i64 b] w fun e w' => e = .returned (.bool true) ∧ Below B w w' := by
  have H0 : Hid _ := begun_any B w hB ht
  have HShow : Hid (∀ w1, Below B w w1 → _) := fun w1 hb1 => Show_any B a ha w1 (Nat.le_trans hB hb1.size) (ht.on hb1)
  obtain ⟨m, hm⟩ : ∃ m, a.natAbs = m := ⟨_, rfl⟩
  have HP : Hid (∀ w, _) := fun w => Parse_any ⟨(Lib.decDigits m).toArray⟩ (by have := dec_len (m := m) (by unfold Fits at ha; omega); simp [ByteArray.size]; omega) w
  rw [bs_mk, pA_dec] at HP
  obtain ⟨x, y, exy, hxy⟩ := nA_two (m : Int)
  rw [exy] at HP
  have hback : (a = -9223372036854775808 ∧ y = 8) ∨ (a ≠ -9223372036854775808 ∧ y = 0 ∧ (x = a ∨ x = -a)) := by unfold Fits at *; omega
  replace hback : Hid _ := hback
  clear exy hxy
  obtain ⟨c, f, ecf, hcf⟩ := nA_two (a + b)
  have HAdd : Hid (∀ w, _) := fun w => Add_any a b ha hb w
  have HAdd' : Hid (∀ w, _) := fun w => Add_any b a hb ha w
  rw [ecf] at HAdd
  rw [Int.add_comm b a, ecf] at HAdd'
  have HSub : Hid (Fits (a + b) → ∀ w, _) := fun h w => Sub_any (a + b) b h hb w
  rw [show a + b - b = a from by omega, nA_in ha] at HSub
  replace hcf : Hid _ := hcf
  clear ecf
  obtain ⟨p, h, eph, hph⟩ := nA_two (a * b)
  have HMul : Hid (∀ w, _) := fun w => Mul_any a b ha hb w
  have HMul' : Hid (∀ w, _) := fun w => Mul_any b a hb ha w
  rw [eph] at HMul
  rw [Int.mul_comm b a, eph] at HMul'
  replace hph : Hid _ := hph
  clear eph
  have HA : Hid _ := ha
  have HBb : Hid _ := hb
  have hlen := dec_len (m := m) (by unfold Fits at ha; omega)
  have HM : Hid _ := hm
  clear ha hb ht hm
  go_enter Tryd.func5, Tryd.ntmps5
  go_wp2_with fail
  refine Calls.mono H0.out ?_
  rintro e w1 ⟨rfl, hb1⟩
  clear H0
  go_wp2_with fail
  refine Calls.mono (HShow.out _ hb1) ?_
  rintro e w2 ⟨rfl, hb2⟩
  have hb3 := hb1.trans hb2
  clear hb1 hb2 HShow
  have hsz : ¬ (Lib.itoa a).length = 0 := itoa_len a
  have hsz' : (((Lib.itoa a).length : Int) == 0) = false := by simp; exact fun h => hsz (by simp [h])
  have hT : Hid (a < 0 → Lib.itoa a = 45 :: Lib.decDigits m) := fun h => itoa_neg' HM.out h
  have hT' : Hid (¬ a < 0 → Lib.itoa a = Lib.decDigits m) := fun h => itoa_pos' HM.out h
  generalize Lib.itoa a = T at *
  go_upto_if 27 with fail
  go_cut [5] (fun v5 w' => v5 = .string ⟨(Lib.decDigits m).toArray⟩ ∧ w' = w2)
  case first =>
    by_cases h0 : a < 0
    · have e := hT.out h0
      subst e
      have g1 : decide (a < 0) = true := by simpa using h0
      clear hsz hsz' hT hT'
      go_wp2_with fail
      go_meet
      exact ⟨by rw [tail_str _ _ _ rfl], rfl⟩
    · have e := hT'.out (by omega)
      subst e
      have g1 : decide (a < 0) = false := by simpa using h0
      clear hsz hsz' hT hT'
      go_wp2_with fail
      go_meet
      exact ⟨rfl, rfl⟩
  case rest =>
    obtain ⟨rfl, rfl⟩ := hcut
    clear hsz hsz' hT hT'
    go_wp2_with fail
    refine Calls.mono (HP.out _) ?_
    rintro e w3 ⟨rfl, rfl⟩
    clear HP
    go_upto_region 9 with fail
    go_cut [8] (fun v8 w' => v8 = .bool true ∧ w' = w3)
    case first =>
      obtain ⟨a1, a2⟩ := HA.out
      rcases hback.out with ⟨rfl, rfl⟩ | ⟨hne, rfl, rfl | rfl⟩
      · clear HAdd HAdd' HSub HMul HMul'
        go_wp2_with fail
        go_meet
        exact ⟨rfl, rfl⟩
      · have g : (x == -9223372036854775808) = false := by simpa using hne
        clear HAdd HAdd' HSub HMul HMul'
        go_wp2_with fail
        go_meet
        exact ⟨rfl, rfl⟩
      · have g : (a == -9223372036854775808) = false := by simpa using hne
        clear HAdd HAdd' HSub HMul HMul'
        by_cases h0 : a = 0
        · subst h0
          go_wp2_with fail
          go_meet
          exact ⟨rfl, rfl⟩
        · have g2 : (-a == a) = false := by simp; omega
          go_wp2_with fail
          go_meet
          exact ⟨rfl, rfl⟩
    case rest =>
      obtain ⟨rfl, rfl⟩ := hcut
      clear hback
      go_wp2_with fail
      refine Calls.mono (HAdd.out _) ?_
      rintro e w4 ⟨rfl, rfl⟩
      clear HAdd
      go_upto_if 63 with fail
      go_cut [8, 11, 12] (fun v8 v11 v12 w' => v8 = .bool true ∧ w' = w4)
      case first =>
        rcases hcf.out with ⟨hf, rfl, rfl⟩ | ⟨hf, rfl, rfl⟩
        · replace HSub := Hid.out HSub hf
          replace HSub : Hid _ := HSub
          clear hf hcf HAdd' HMul HMul'
          go_wp2_with fail
          refine Calls.mono (HSub.out _) ?_
          rintro e w5 ⟨rfl, rfl⟩
          go_wp2_with fail
          go_meet
          exact ⟨rfl, rfl⟩
        · clear HAdd' HSub HMul HMul' hf hcf
          go_wp2_with fail
          go_meet
          exact ⟨rfl, rfl⟩
      case rest =>
        obtain ⟨rfl, rfl⟩ := hcut
        clear hcf HSub
        go_wp2_with fail
        refine Calls.mono (HMul.out _) ?_
        rintro e w5 ⟨rfl, rfl⟩
        go_wp2_with fail
        refine Calls.mono (HMul'.out _) ?_
        rintro e w5 ⟨rfl, rfl⟩
        go_wp2_with fail
        refine Calls.mono (HAdd'.out _) ?_
        rintro e w5 ⟨rfl, rfl⟩
        clear HMul HMul' HAdd'
        rcases hph.out with ⟨hf, rfl, rfl⟩ | ⟨hf, rfl, rfl⟩
        · by_cases h0 : a = 0
          · subst h0
            clear hf hph
            go_wp2
            go_ret
            exact ⟨rfl, hb3⟩
          · have g : (a == 0) = false := by simpa using h0
            obtain ⟨a1, a2⟩ := HA.out
            obtain ⟨b1, b2⟩ := HBb.out
            clear hf hph
            go_wp2
            go_ret
            exact ⟨rfl, hb3⟩
        · clear hf hph
          go_wp2
          go_ret
          exact ⟨rfl, hb3⟩
end Go.Proofs.YtalhfhaaibmfoaaDoor
