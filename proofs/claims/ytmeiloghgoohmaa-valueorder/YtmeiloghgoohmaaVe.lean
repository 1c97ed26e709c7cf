/- The walk of ValueInts. -/
import Derived.Test.YtmeiloghgoohmaaVd
namespace Go.Proofs.Ytmeiloghgoohmaa
open Go.RowKit
set_option linter.unusedVariables false

theorem str_size (xs : List Int) : (strOfNums xs).size = xs.length := by
  have := congrArg List.length (strOfNums_data xs)
  rw [List.length_map] at this
  rw [← this]; rfl

theorem key_int (a : Int) : keyL 1 a [] = 1 :: be 8 (turn a) := by rw [keyL, if_pos rfl]
theorem may_int (a : Int) : mayV 1 a [] = true := by simp [mayV]
theorem cmpV_int (a b : Int) : cmpV 1 a [] 1 b [] = cmpI a b := by
  rw [cmpV, cmpI_eq, lexI_self, orI, if_pos rfl, orI]; split <;> omega

set_option maxRecDepth 100000 in
set_option maxHeartbeats 2000000 in
theorem ints_any (a b : Int) (ha : Fits a) (hb : Fits b) (w : World) : Calls Try.prog 6 #[.int .i64 a, .int .i64 b] w fun e w' => e = .returned (.bool true) ∧ Below w.heap.size w w' := by
  have H0 : Hid _ := begun_any w
  have HKa : Hid (∀ w, _) := fun w => key_rd none 0 0 [] 1 a ⟨#[]⟩ w (Rd.nil _ _) (by omega) (by decide) ha (.inl rfl)
  have HKb : Hid (∀ w, _) := fun w => key_rd none 0 0 [] 1 b ⟨#[]⟩ w (Rd.nil _ _) (by omega) (by decide) hb (.inl rfl)
  rw [show nums ⟨#[]⟩ = [] from rfl, List.nil_append] at HKa HKb
  obtain ⟨X, hX⟩ : ∃ X, X = keyL 1 a [] := ⟨_, rfl⟩
  obtain ⟨Y, hY⟩ : ∃ Y, Y = keyL 1 b [] := ⟨_, rfl⟩
  have hXl : X.length = 9 := by rw [hX, key_int, List.length_cons, be_len]
  have hYl : Y.length = 9 := by rw [hY, key_int, List.length_cons, be_len]
  rw [← hX, hXl] at HKa
  rw [← hY, hYl] at HKb
  have HTx : Hid (∀ w, _) := fun w => text_any (strOfNums X) (strOfNums Y) w (by rw [str_size]; omega) (by rw [str_size]; omega)
  rw [nums_str (by rw [hX]; exact keyL_u8 (may_int a)), nums_str (by rw [hY]; exact keyL_u8 (may_int b)), hX, hY, key_lex (may_int a) (may_int b) ha hb, cmpV_int, ← hX, ← hY] at HTx
  have HC : Hid (∀ w, _) := fun w => compare_any 1 a ⟨#[]⟩ 1 b ⟨#[]⟩ w
  rw [show nums ⟨#[]⟩ = [] from rfl, cmpV_int] at HC
  have hsX : (strOfNums X).size = 9 := by rw [str_size, hXl]
  clear hX hY hXl hYl ha hb
  go_enter Try.func6, Try.ntmps6
  go_wp2_with fail
  refine Calls.mono H0.out ?_
  rintro e w1 ⟨rfl, hb1⟩
  clear H0
  go_upto_region 3 with fail
  go_cut [5, 6] (fun v5 v6 w' => v5 = .string (strOfNums X) ∧ v6 = .string (strOfNums Y) ∧ Below w1.heap.size w1 w')
  case first =>
    have hd : Below w1.heap.size w1 w1.drew := (Below.refl _ _).drew
    go_region_with (first
      | (go_at_call_of 12 (Value.int IntKind.i64 a); refine Calls.mono (HKa.out _) ?_; rintro e yA ⟨oA, qA, rfl, hrA, hbA⟩; have cA := conv_all hrA; try (have cB2 := conv_all (hrB.later hbA)))
      | (go_at_call_of 12 (Value.int IntKind.i64 b); refine Calls.mono (HKb.out _) ?_; rintro e yB ⟨oB, qB, rfl, hrB, hbB⟩; have cB := conv_all hrB; try (have cA2 := conv_all (hrA.later hbB))))
    all_goals
      go_wp2_with fail
      go_meet
      exact ⟨rfl, rfl, by first | exact Below.on (Below.on hd hbA) hbB | exact Below.on (Below.on hd hbB) hbA⟩
  case rest =>
    obtain ⟨rfl, rfl, hbc⟩ := hcut
    have hB := Below.on hb1 hbc
    clear hb1 hbc HKa HKb
    rcases (by omega : a < b ∨ a = b ∨ b < a) with h | h | h
    · have h1 : decide (a < b) = true := by simpa using h
      rw [cmpI_lt h] at HTx HC
      go_wp2_with fail
      refine Calls.mono (HTx.out _) ?_
      rintro e w2 ⟨rfl, hb2⟩
      replace hB := Below.on hB hb2
      go_wp2_with fail
      refine Calls.mono (HC.out _) ?_
      rintro e w3 ⟨rfl, hb3⟩
      replace hB := Below.on hB hb3
      go_wp2
      go_ret
      exact ⟨rfl, hB⟩
    · subst h
      rw [cmpI_eq] at HTx HC
      go_wp2_with fail
      refine Calls.mono (HTx.out _) ?_
      rintro e w2 ⟨rfl, hb2⟩
      replace hB := Below.on hB hb2
      go_wp2_with fail
      refine Calls.mono (HC.out _) ?_
      rintro e w3 ⟨rfl, hb3⟩
      replace hB := Below.on hB hb3
      go_wp2
      go_ret
      exact ⟨rfl, hB⟩
    · have h1 : decide (a < b) = false := by simp; omega
      have h2 : decide (b < a) = true := by simpa using h
      rw [cmpI_gt h] at HTx HC
      go_wp2_with fail
      refine Calls.mono (HTx.out _) ?_
      rintro e w2 ⟨rfl, hb2⟩
      replace hB := Below.on hB hb2
      go_wp2_with fail
      refine Calls.mono (HC.out _) ?_
      rintro e w3 ⟨rfl, hb3⟩
      replace hB := Below.on hB hb3
      go_wp2
      go_ret
      exact ⟨rfl, hB⟩

end Go.Proofs.Ytmeiloghgoohmaa
