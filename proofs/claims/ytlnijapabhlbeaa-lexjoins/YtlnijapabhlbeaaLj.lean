/- The walks of the document's one: a name, a number. -/
import Derived.Test.YtlnijapabhlbeaaLi
import Derived.Test.YtlnijapabhlbeaaN4
namespace Go.Proofs.Ytlnijapabhlbeaa
open Go.RowKit
set_option linter.unusedVariables false

/-- The two blocks that one makes. -/
theorem two_z (w : World) (t : Tk) : Zr ((w.alloc (.cells #[.int .i64 0, .string ⟨#[]⟩, .int .i64 0, .int .i64 0] 30)).alloc (.cells #[.int .i64 t.1, .string t.2.1, .int .i64 t.2.2.1, .int .i64 t.2.2.2] 30)) w.heap.size := (Zr.new w).later ((Below.refl _ _).alloc (Nat.le_refl _) _)
theorem two_t (w : World) (t : Tk) : Tb ((w.alloc (.cells #[.int .i64 0, .string ⟨#[]⟩, .int .i64 0, .int .i64 0] 30)).alloc (.cells #[.int .i64 t.1, .string t.2.1, .int .i64 t.2.2.1, .int .i64 t.2.2.2] 30)) (w.heap.size + 1) t := by
  have := Tb.new (w.alloc (.cells #[.int .i64 0, .string ⟨#[]⟩, .int .i64 0, .int .i64 0] 30)) t
  simpa using this
theorem two_b (w : World) (t : Tk) : Below w.heap.size w ((w.alloc (.cells #[.int .i64 0, .string ⟨#[]⟩, .int .i64 0, .int .i64 0] 30)).alloc (.cells #[.int .i64 t.1, .string t.2.1, .int .i64 t.2.2.1, .int .i64 t.2.2.2] 30)) := ((Below.refl _ _).alloc (Nat.le_refl _) _).alloc (by simp) _

set_option maxRecDepth 100000 in
set_option maxHeartbeats 2000000 in
theorem one_name (s : ByteArray) (hs : s.size ≤ 400) (j : Nat) (hj : j < s.size) (hg : got isL s j = true) (w : World) : Calls Try.prog 16 #[.string s, .int .i64 (j : Int)] w fun e w' => Ones (nameW s j) e ∧ Below w.heap.size w w' := by
  have hge := till_ge isN s j
  have hle := till_le (p := isN) (Nat.le_of_lt hj)
  have HL : Hid (∀ c w, _) := fun c w => refLetter_any c w
  have HD : Hid (∀ c w, _) := fun c w => refDigit_any c w
  have HW : Hid (∀ w, _) := fun w => word_any (s.extract j (till isN s j)) w
  have HS := hid (fun h => wl_short _ (isW_iff.1 h) : isW (s.extract j (till isN s j)) = true → (s.extract j (till isN s j)).size ≤ 8)
  rw [got_at hj] at hg
  have HA : Hid (16 < till isN s j - j → nameW s j = flt j 7) := fun h => by rw [nameW, if_pos h]
  have HB : Hid (¬ 16 < till isN s j - j → nameW s j = wrd (if isW (s.extract j (till isN s j)) then 2 else 1, s.extract j (till isN s j), 0, j) (till isN s j)) := fun h => by rw [nameW, if_neg h]
  have HT : Hid (till isN s j = till isN s j) := rfl
  have HZ : Hid ((s.extract j (till isN s j)).size = till isN s j - j) := by rw [Hid, ByteArray.size_extract]; omega
  generalize nameW s j = RR at *
  generalize hm : till isN s j = m at *
  replace hm := hid hm
  have hL := HL.out s[j] ((w.alloc (.cells #[.int .i64 0, .string ⟨#[]⟩, .int .i64 0, .int .i64 0] 30)).alloc (.cells #[.int .i64 0, .string ⟨#[]⟩, .int .i64 0, .int .i64 (j : Int)] 30))
  rw [hg] at hL
  replace hL := hid hL
  have z0 := two_z w (0, ⟨#[]⟩, 0, (j : Int))
  have t0 := two_t w (0, ⟨#[]⟩, 0, (j : Int))
  have b0 := two_b w (0, ⟨#[]⟩, 0, (j : Int))
  go_enter Try.func16, Try.ntmps16
  go_wp2_with fail
  refine Calls.mono hL.out ?_
  rintro e w1 ⟨rfl, rfl⟩
  clear hL
  go_wp2_with fail
  go_loopw [8] (fun i wr => ∃ k : Nat, j ≤ k ∧ k ≤ s.size ∧ i = .int .i64 k ∧ Hid (till isN s k = m) ∧ wr = (w.alloc (.cells #[.int .i64 0, .string ⟨#[]⟩, .int .i64 0, .int .i64 0] 30)).alloc (.cells #[.int .i64 0, .string ⟨#[]⟩, .int .i64 0, .int .i64 (j : Int)] 30)) (fun i _ => s.size - (intOf i).toNat)
  case atStart => exact ⟨j, Nat.le_refl _, by omega, rfl, hm.out, rfl⟩
  case round =>
    obtain ⟨k, hk1, hk, rfl, HK, rfl⟩ := hrel
    by_cases hlt : k < s.size
    · have hL := HL.out s[k] ((w.alloc (.cells #[.int .i64 0, .string ⟨#[]⟩, .int .i64 0, .int .i64 0] 30)).alloc (.cells #[.int .i64 0, .string ⟨#[]⟩, .int .i64 0, .int .i64 (j : Int)] 30))
      have hD := HD.out s[k] ((w.alloc (.cells #[.int .i64 0, .string ⟨#[]⟩, .int .i64 0, .int .i64 0] 30)).alloc (.cells #[.int .i64 0, .string ⟨#[]⟩, .int .i64 0, .int .i64 (j : Int)] 30))
      cases e1 : isL s[k] with
      | true =>
        have HN := hid ((till_step (p := isN) (by rw [got_at hlt, isN, e1]; rfl)).symm.trans HK.out)
        rw [e1] at hL
        replace hL := hid hL
        clear hD HL HD HW HS HA HB HZ hg e1 z0 t0 b0
        go_wp2_with fail
        refine Calls.mono hL.out ?_
        rintro e w2 ⟨rfl, rfl⟩
        clear hL
        go_wp2
        go_roundw
        case rel => exact ⟨k + 1, by omega, by omega, by go_num, HN, by first | trivial | rfl⟩
        case measure => simp only [intOf]; omega
      | false =>
        rw [e1] at hL
        replace hL := hid hL
        cases e2 : isDig s[k] with
        | true =>
          have HN := hid ((till_step (p := isN) (by rw [got_at hlt, isN, e1, e2]; rfl)).symm.trans HK.out)
          rw [e2] at hD
          replace hD := hid hD
          clear HL HD HW HS HA HB HZ hg e1 e2 z0 t0 b0
          go_wp2_with fail
          refine Calls.mono hL.out ?_
          rintro e w2 ⟨rfl, rfl⟩
          clear hL
          go_wp2_with fail
          refine Calls.mono hD.out ?_
          rintro e w2 ⟨rfl, rfl⟩
          clear hD
          go_wp2
          go_roundw
          case rel => exact ⟨k + 1, by omega, by omega, by go_num, HN, by first | trivial | rfl⟩
          case measure => simp only [intOf]; omega
        | false =>
          have hkm : k = m := (till_stop (p := isN) (by rw [got_at hlt, isN, e1, e2]; rfl)).symm.trans HK.out
          subst hkm
          rw [e2] at hD
          replace hD := hid hD
          clear HL HD hg e1 e2 HK
          go_wp2_with fail
          refine Calls.mono hL.out ?_
          rintro e w2 ⟨rfl, rfl⟩
          clear hL
          go_wp2_with fail
          refine Calls.mono hD.out ?_
          rintro e w2 ⟨rfl, rfl⟩
          clear hD
          go_wp2_with fail
          go_region
          all_goals
            go_wp2_with fail
            refine Calls.mono (HW.out _) ?_
            rintro e w3 ⟨rfl, hb3⟩
          have z3 : Zr w3 w.heap.size := (two_z w (1, s.extract j k, 0, (j : Int))).drew.later hb3
          have t3 : Tb w3 (w.heap.size + 1) (1, s.extract j k, 0, (j : Int)) := (two_t w (1, s.extract j k, 0, (j : Int))).drew.later hb3
          have b3 : Below w.heap.size w w3 := Below.on (two_b w (1, s.extract j k, 0, (j : Int))).drew hb3
          clear HW hb3 z0 t0 b0
          obtain ⟨c0, c1, c2, c3⟩ := z3.cells
          obtain ⟨f0, f1, f2, f3⟩ := z3.free
          obtain ⟨d0, d1, d2, d3⟩ := t3.cells
          obtain ⟨e0, e1, e2, e3⟩ := t3.free
          cases hw : isW (s.extract j k) with
          | true =>
            have hsz := HS.out hw
            have hR := HB.out (by have := HZ.out; omega)
            rw [hw, if_pos rfl] at hR
            subst hR
            clear HA HB HS HZ hw
            go_wp2
            all_goals refine bodyPost_ret (v := .tuple #[tkA (2, s.extract j k, 0, j), .int .i64 k, .int .i64 0, .int .i64 0]) (by simp [results, Try.results16, go_sem, c0, c1, c2, c3, tkA]) rfl ⟨ones_ok _ _ _, below4 (b3.setCell (by show w.heap.size ≤ w.heap.size + 1; omega) _) _ _ _ _⟩
          | false =>
            by_cases h16 : 16 < k - j
            · have hR := HA.out h16
              subst hR
              have g16 : decide ((16 : Int) < (k : Int) - (j : Int)) = true := by simp; omega
              clear HA HB HS HZ hw
              go_wp2
              all_goals refine bodyPost_ret (v := .tuple #[tkA (1, s.extract j k, 0, j), .int .i64 0, .int .i64 j, .int .i64 7]) (by simp [results, Try.results16, go_sem, c0, c1, c2, c3, tkA]) rfl ⟨ones_flt _ _ _ _ (by decide), below4 b3 _ _ _ _⟩
            · have hR := HB.out h16
              rw [hw, if_neg (by simp)] at hR
              subst hR
              have g16 : decide ((16 : Int) < (k : Int) - (j : Int)) = false := by simp; omega
              clear HA HB HS HZ hw
              go_wp2
              all_goals refine bodyPost_ret (v := .tuple #[tkA (1, s.extract j k, 0, j), .int .i64 k, .int .i64 0, .int .i64 0]) (by simp [results, Try.results16, go_sem, c0, c1, c2, c3, tkA]) rfl ⟨ones_ok _ _ _, below4 b3 _ _ _ _⟩
    · have hkm : k = m := (till_stop (p := isN) (got_end (by omega))).symm.trans HK.out
      subst hkm
      clear HL HD hg HK
      go_wp2_with fail
      go_region
      all_goals
        go_wp2_with fail
        refine Calls.mono (HW.out _) ?_
        rintro e w3 ⟨rfl, hb3⟩
      have z3 : Zr w3 w.heap.size := (two_z w (1, s.extract j k, 0, (j : Int))).drew.later hb3
      have t3 : Tb w3 (w.heap.size + 1) (1, s.extract j k, 0, (j : Int)) := (two_t w (1, s.extract j k, 0, (j : Int))).drew.later hb3
      have b3 : Below w.heap.size w w3 := Below.on (two_b w (1, s.extract j k, 0, (j : Int))).drew hb3
      clear HW hb3 z0 t0 b0
      obtain ⟨c0, c1, c2, c3⟩ := z3.cells
      obtain ⟨f0, f1, f2, f3⟩ := z3.free
      obtain ⟨d0, d1, d2, d3⟩ := t3.cells
      obtain ⟨e0, e1, e2, e3⟩ := t3.free
      cases hw : isW (s.extract j k) with
      | true =>
        have hsz := HS.out hw
        have hR := HB.out (by have := HZ.out; omega)
        rw [hw, if_pos rfl] at hR
        subst hR
        clear HA HB HS HZ hw
        go_wp2
        all_goals refine bodyPost_ret (v := .tuple #[tkA (2, s.extract j k, 0, j), .int .i64 k, .int .i64 0, .int .i64 0]) (by simp [results, Try.results16, go_sem, c0, c1, c2, c3, tkA]) rfl ⟨ones_ok _ _ _, below4 (b3.setCell (by show w.heap.size ≤ w.heap.size + 1; omega) _) _ _ _ _⟩
      | false =>
        by_cases h16 : 16 < k - j
        · have hR := HA.out h16
          subst hR
          have g16 : decide ((16 : Int) < (k : Int) - (j : Int)) = true := by simp; omega
          clear HA HB HS HZ hw
          go_wp2
          all_goals refine bodyPost_ret (v := .tuple #[tkA (1, s.extract j k, 0, j), .int .i64 0, .int .i64 j, .int .i64 7]) (by simp [results, Try.results16, go_sem, c0, c1, c2, c3, tkA]) rfl ⟨ones_flt _ _ _ _ (by decide), below4 b3 _ _ _ _⟩
        · have hR := HB.out h16
          rw [hw, if_neg (by simp)] at hR
          subst hR
          have g16 : decide ((16 : Int) < (k : Int) - (j : Int)) = false := by simp; omega
          clear HA HB HS HZ hw
          go_wp2
          all_goals refine bodyPost_ret (v := .tuple #[tkA (1, s.extract j k, 0, j), .int .i64 k, .int .i64 0, .int .i64 0]) (by simp [results, Try.results16, go_sem, c0, c1, c2, c3, tkA]) rfl ⟨ones_ok _ _ _, below4 b3 _ _ _ _⟩

set_option maxRecDepth 100000 in
set_option maxHeartbeats 2000000 in
theorem one_num (s : ByteArray) (hs : s.size ≤ 400) (j : Nat) (hj : j < s.size) (hg1 : got isL s j = false) (hg : got isDig s j = true) (w : World) : Calls Try.prog 16 #[.string s, .int .i64 (j : Int)] w fun e w' => Ones (numW s j) e ∧ Below w.heap.size w w' := by
  have hge := till_ge isDig s j
  have hle := till_le (p := isDig) (Nat.le_of_lt hj)
  have HL : Hid (∀ c w, _) := fun c w => refLetter_any c w
  have HD : Hid (∀ c w, _) := fun c w => refDigit_any c w
  have HP : Hid (∀ w, _) := fun w => refParse_any (s.extract j (till isDig s j)) (by have := extract_size s j (till isDig s j); omega) w
  rw [pA_till hg] at HP
  have HA : Hid (got isL s (till isDig s j) = true → numW s j = flt (till isDig s j) 4) := fun k => by rw [numW, if_pos k]
  have HB : Hid (got isL s (till isDig s j) = false → Fits (numV s j (till isDig s j)) → numW s j = wrd (3, ⟨#[]⟩, numV s j (till isDig s j), j) (till isDig s j)) := fun k f => by rw [numW, if_neg (by rw [k]; simp), if_pos f]
  have HC : Hid (got isL s (till isDig s j) = false → ¬ Fits (numV s j (till isDig s j)) → numW s j = flt j 8) := fun k f => by rw [numW, if_neg (by rw [k]; simp), if_neg f]
  rw [got_at hj] at hg hg1
  have hwj : IntKind.i64.wrap (j : Int) = j := by rw [IntKind.wrap_i64]; omega
  generalize numW s j = RR at *
  generalize hm : till isDig s j = m at *
  generalize numV s j m = V at *
  replace hm := hid hm
  have hL := HL.out s[j] ((w.alloc (.cells #[.int .i64 0, .string ⟨#[]⟩, .int .i64 0, .int .i64 0] 30)).alloc (.cells #[.int .i64 0, .string ⟨#[]⟩, .int .i64 0, .int .i64 (j : Int)] 30))
  rw [hg1] at hL
  replace hL := hid hL
  have hD := HD.out s[j] ((w.alloc (.cells #[.int .i64 0, .string ⟨#[]⟩, .int .i64 0, .int .i64 0] 30)).alloc (.cells #[.int .i64 0, .string ⟨#[]⟩, .int .i64 0, .int .i64 (j : Int)] 30))
  rw [hg] at hD
  replace hD := hid hD
  go_enter Try.func16, Try.ntmps16
  go_wp2_with fail
  refine Calls.mono hL.out ?_
  rintro e w1 ⟨rfl, rfl⟩
  clear hL
  go_wp2_with fail
  refine Calls.mono hD.out ?_
  rintro e w1 ⟨rfl, rfl⟩
  clear hD
  go_wp2_with fail
  go_loopw [8] (fun i wr => ∃ k : Nat, j ≤ k ∧ k ≤ s.size ∧ i = .int .i64 k ∧ Hid (till isDig s k = m) ∧ wr = (w.alloc (.cells #[.int .i64 0, .string ⟨#[]⟩, .int .i64 0, .int .i64 0] 30)).alloc (.cells #[.int .i64 0, .string ⟨#[]⟩, .int .i64 0, .int .i64 (j : Int)] 30)) (fun i _ => s.size - (intOf i).toNat)
  case atStart => exact ⟨j, Nat.le_refl _, by omega, rfl, hm.out, rfl⟩
  case round =>
    obtain ⟨k, hk1, hk, rfl, HK, rfl⟩ := hrel
    by_cases hlt : k < s.size
    · have hD := HD.out s[k] ((w.alloc (.cells #[.int .i64 0, .string ⟨#[]⟩, .int .i64 0, .int .i64 0] 30)).alloc (.cells #[.int .i64 0, .string ⟨#[]⟩, .int .i64 0, .int .i64 (j : Int)] 30))
      cases e2 : isDig s[k] with
      | true =>
        have HN := hid ((till_step (p := isDig) (by rw [got_at hlt, e2])).symm.trans HK.out)
        rw [e2] at hD
        replace hD := hid hD
        clear HL HD HP HA HB HC hg hg1 e2
        go_wp2_with fail
        refine Calls.mono hD.out ?_
        rintro e w2 ⟨rfl, rfl⟩
        clear hD
        go_wp2
        go_roundw
        case rel => exact ⟨k + 1, by omega, by omega, by go_num, HN, by first | trivial | rfl⟩
        case measure => simp only [intOf]; omega
      | false =>
        have hkm : k = m := (till_stop (p := isDig) (by rw [got_at hlt, e2])).symm.trans HK.out
        subst hkm
        rw [e2] at hD
        replace hD := hid hD
        have hL := HL.out s[k] ((w.alloc (.cells #[.int .i64 0, .string ⟨#[]⟩, .int .i64 0, .int .i64 0] 30)).alloc (.cells #[.int .i64 0, .string ⟨#[]⟩, .int .i64 0, .int .i64 (j : Int)] 30))
        rw [got_at hlt] at HA HB HC
        cases e1 : isL s[k] with
        | true =>
          rw [e1] at hL
          replace hL := hid hL
          have hR := HA.out e1
          subst hR
          clear HL HD HP HA HB HC hg hg1 e1 e2 HK
          go_wp2_with fail
          refine Calls.mono hD.out ?_
          rintro e w2 ⟨rfl, rfl⟩
          clear hD
          go_wp2_with fail
          refine Calls.mono hL.out ?_
          rintro e w2 ⟨rfl, rfl⟩
          clear hL
          go_wp2
          all_goals refine bodyPost_ret (v := .tuple #[tkA (0, ⟨#[]⟩, 0, j), .int .i64 0, .int .i64 k, .int .i64 4]) (by simp [results, Try.results16, go_sem, tkA]) rfl ⟨ones_flt _ _ _ _ (by decide), ((Below.refl _ _).alloc (Nat.le_refl _) _).alloc (by simp) _⟩
        | false =>
          rw [e1] at hL
          replace hL := hid hL
          replace HB := hid (HB.out e1)
          replace HC := hid (HC.out e1)
          clear HL HD HA hg hg1 e1 e2 HK
          by_cases hf : Fits (V : Int)
          · have hR := HB.out hf
            subst hR
            rw [nA_in hf] at HP
            clear HB HC hf
            go_wp2_with fail
            refine Calls.mono hD.out ?_
            rintro e w2 ⟨rfl, rfl⟩
            clear hD
            go_wp2_with fail
            refine Calls.mono hL.out ?_
            rintro e w2 ⟨rfl, rfl⟩
            clear hL
            go_wp2_with fail
            refine Calls.mono (HP.out _) ?_
            rintro e w2 ⟨rfl, rfl⟩
            clear HP
            go_wp2
            all_goals refine bodyPost_ret (v := .tuple #[tkA (3, ⟨#[]⟩, V, j), .int .i64 k, .int .i64 j, .int .i64 0]) (by simp [results, Try.results16, go_sem, tkA]) rfl ⟨ones_ok _ _ _, ((Below.refl _ _).alloc (Nat.le_refl _) _).alloc (by simp) _⟩
          · have hR := HC.out hf
            subst hR
            rw [nA_out hf] at HP
            clear HB HC hf
            go_wp2_with fail
            refine Calls.mono hD.out ?_
            rintro e w2 ⟨rfl, rfl⟩
            clear hD
            go_wp2_with fail
            refine Calls.mono hL.out ?_
            rintro e w2 ⟨rfl, rfl⟩
            clear hL
            go_wp2_with fail
            refine Calls.mono (HP.out _) ?_
            rintro e w2 ⟨rfl, rfl⟩
            clear HP
            go_wp2
            all_goals refine bodyPost_ret (v := .tuple #[tkA (3, ⟨#[]⟩, 0, j), .int .i64 k, .int .i64 j, .int .i64 8]) (by simp [results, Try.results16, go_sem, tkA]) rfl ⟨ones_flt _ _ _ _ (by decide), ((Below.refl _ _).alloc (Nat.le_refl _) _).alloc (by simp) _⟩
    · have hkm : k = m := (till_stop (p := isDig) (got_end (by omega))).symm.trans HK.out
      subst hkm
      replace HB := hid (HB.out (got_end (by omega)))
      replace HC := hid (HC.out (got_end (by omega)))
      clear HL HD HA hg hg1 HK
      by_cases hf : Fits (V : Int)
      · have hR := HB.out hf
        subst hR
        rw [nA_in hf] at HP
        clear HB HC hf
      
        go_wp2_with fail
        refine Calls.mono (HP.out _) ?_
        rintro e w2 ⟨rfl, rfl⟩
        clear HP
        go_wp2
        all_goals refine bodyPost_ret (v := .tuple #[tkA (3, ⟨#[]⟩, V, j), .int .i64 k, .int .i64 j, .int .i64 0]) (by simp [results, Try.results16, go_sem, tkA]) rfl ⟨ones_ok _ _ _, ((Below.refl _ _).alloc (Nat.le_refl _) _).alloc (by simp) _⟩
      · have hR := HC.out hf
        subst hR
        rw [nA_out hf] at HP
        clear HB HC hf
      
        go_wp2_with fail
        refine Calls.mono (HP.out _) ?_
        rintro e w2 ⟨rfl, rfl⟩
        clear HP
        go_wp2
        all_goals refine bodyPost_ret (v := .tuple #[tkA (3, ⟨#[]⟩, 0, j), .int .i64 k, .int .i64 j, .int .i64 8]) (by simp [results, Try.results16, go_sem, tkA]) rfl ⟨ones_flt _ _ _ _ (by decide), ((Below.refl _ _).alloc (Nat.le_refl _) _).alloc (by simp) _⟩

end Go.Proofs.Ytlnijapabhlbeaa
