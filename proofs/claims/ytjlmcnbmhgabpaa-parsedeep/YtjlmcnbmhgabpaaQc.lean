/- The walk of ParseDeep. -/
import Derived.Test.YtjlmcnbmhgabpaaQb
namespace Go.Proofs.Ytjlmcnbmhgabpaa
open Go.RowKit
set_option linter.unusedVariables false

theorem bs_app (s t : ByteArray) : bs (s ++ t) = bs s ++ bs t := by
  show (s ++ t).data.toList = s.data.toList ++ t.data.toList
  rw [ByteArray.data_append, Array.toList_append]

set_option maxRecDepth 100000 in
set_option maxHeartbeats 4000000 in
theorem deep0_any (x0 x1 : UInt8) (h1 : x1.toNat % 3 = 0) (w : World) : Calls Try.prog 3 #[.int .u8 (x0.toNat : Int), .int .u8 (x1.toNat : Int)] w fun e w' => e = .returned (.bool true) ∧ Below w.heap.size w w' := by
  have HB : Hid _ := hid (begun_any w)
  have HP : Hid (∀ (s : ByteArray) (w : World), s.size ≤ 9223372036854775807 → _) := hid fun s w hs => parseStmt_any s hs w
  obtain ⟨k, hk, hk'⟩ : ∃ r : Nat, r < 100 ∧ x0.toNat % 100 = r := ⟨_, Nat.mod_lt _ (by decide), rfl⟩
  have hx0 : x0.toNat < 256 := x0.toNat_lt
  have hx1 : x1.toNat < 256 := x1.toNat_lt
  have g0 : (x0.toNat : Int) % 100 = (k : Int) := by omega
  have g1 : (x1.toNat : Int) % 3 = 0 := by omega
  have t0 : (x0.toNat : Int).tmod 100 = (k : Int) := by rw [Int.tmod_eq_emod_of_nonneg (by omega)]; exact g0
  have t1 : (x1.toNat : Int).tmod 3 = 0 := by rw [Int.tmod_eq_emod_of_nonneg (by omega)]; exact g1
  go_enter Try.func3, Try.ntmps3
  go_wp2_with fail
  refine Calls.mono HB.out ?_
  rintro e w1 ⟨rfl, hb1⟩
  clear HB h1 hk'
  go_wp2_with fail
  generalize hW : w1.alloc _ = W at *
  have hbW : Below w.heap.size w W := hW ▸ bal hb1 _
  clear hW hb1
  go_loopw [7, 9] (fun v7 v9 wr => ∃ (j : Nat) (S : ByteArray), j ≤ k ∧ v9 = .int .i64 j ∧ v7 = .string S ∧ S.size ≤ 1000 ∧ Hid (bs S = preD ++ repB (deepO 0) j) ∧ Hid (wr = W)) (fun _ v9 _ => k - (intOf v9).toNat)
  case atStart => exact ⟨0, _, Nat.zero_le _, rfl, rfl, by decide, hid (by decide), hid rfl⟩
  case round =>
    obtain ⟨j, S, hj, rfl, rfl, hS, HS, HW⟩ := hrel
    have hwr := HW.out
    subst hwr
    clear HW
    by_cases hlt : j < k
    · have HN : Hid (bs (S ++ ⟨#[40]⟩) = preD ++ repB (deepO 0) (j + 1)) := hid (by rw [bs_app, HS.out, List.append_assoc, ← repB_more]; rfl)
      have hS' : (S ++ ⟨#[40]⟩ : ByteArray).size ≤ 1000 := by
        have := congrArg List.length HN.out
        rw [bs_length, List.length_append, repB_len] at this
        have e1 : preD.length = 20 := rfl
        have e2 : (deepO 0).length = 1 := rfl
        rw [e1, e2] at this
        omega
      clear HS
      go_wp2_with fail
      go_roundw
      case rel => exact ⟨j + 1, S ++ ⟨#[40]⟩, by omega, by go_num, rfl, hS', HN, hid trivial⟩
      case measure => simp only [intOf]; omega
    · obtain rfl : j = k := by omega
      have HN : Hid (bs (S ++ ⟨#[97]⟩) = preD ++ (repB (deepO 0) j ++ (97 :: repB [41] 0))) := hid (by rw [bs_app, HS.out, List.append_assoc]; rfl)
      have hS' : (S ++ ⟨#[97]⟩ : ByteArray).size ≤ 1001 := by
        have := congrArg List.length (bs_app S ⟨#[97]⟩)
        rw [bs_length, List.length_append, bs_length] at this
        have e1 : (bs ⟨#[97]⟩).length = 1 := rfl
        omega
      clear HS
      go_wp2_with fail
      generalize S ++ ⟨#[97]⟩ = S1 at *
      go_loopw [7, 10] (fun v7 v10 w2 => ∃ (i : Nat) (S : ByteArray), i ≤ j ∧ v10 = .int .i64 i ∧ v7 = .string S ∧ S.size ≤ 2000 ∧ Hid (bs S = preD ++ (repB (deepO 0) j ++ (97 :: repB [41] i))) ∧ Hid (w2 = wr)) (fun _ v10 _ => j - (intOf v10).toNat)
      case atStart => exact ⟨0, S1, Nat.zero_le _, rfl, rfl, by omega, HN, hid rfl⟩
      case round =>
        obtain ⟨i, Z, hi, rfl, rfl, hZ, HZ, HW⟩ := hrel
        have hwr := HW.out
        clear HW HN hS' hlt
        subst hwr
        by_cases hlt : i < j
        · have HN : Hid (bs (Z ++ ⟨#[41]⟩) = preD ++ (repB (deepO 0) j ++ (97 :: repB [41] (i + 1)))) := hid (by rw [bs_app, HZ.out, ← repB_more]; simp [bs])
          have hZ' : (Z ++ ⟨#[41]⟩ : ByteArray).size ≤ 2000 := by
            have := congrArg List.length HN.out
            rw [bs_length, List.length_append, List.length_append, List.length_cons, repB_len, repB_len] at this
            have e1 : preD.length = 20 := rfl
            have e2 : (deepO 0).length = 1 := rfl
            have e3 : [(41 : UInt8)].length = 1 := rfl
            rw [e1, e2, e3] at this
            omega
          clear HZ
          go_wp2_with fail
          go_roundw
          case rel => exact ⟨i + 1, Z ++ ⟨#[41]⟩, by omega, by go_num, rfl, hZ', HN, hid trivial⟩
          case measure => simp only [intOf]; omega
        · obtain rfl : i = j := by omega
          have HD : Hid (bs Z = deepL i 0) := hid (by rw [HZ.out]; rfl)
          clear HZ
          have hZ9 : Z.size ≤ 9223372036854775807 := by omega
          go_wp2_with fail
          refine Calls.mono (HP.out Z _ hZ9) ?_
          rintro e w3 ⟨sv, X, a, f, rfl, hb3, hp, -, -⟩
          obtain ⟨d1, d2⟩ := deep_told (k := i) (h := 0) (by decide) (by omega) HD.out hp
          have hB3 := Below.on hbW hb3
          clear hp hb3 hbW HP
          unfold stV
          by_cases hz : 400 < Z.size
          · obtain ⟨rfl, rfl⟩ := d1 hz
            clear d1 d2
            go_wp2
            go_ret
            exact ⟨rfl, bal hB3 _⟩
          · obtain ⟨d3, d4⟩ := d2 (by omega)
            by_cases h64 : 64 < i
            · obtain ⟨rfl, rfl⟩ := d3 h64
              clear d1 d2 d3 d4
              have e2 : (deepO 0).length = 1 := rfl
              rw [e2]
              go_wp2
              go_ret
              exact ⟨rfl, bal hB3 _⟩
            · obtain rfl := d4 (by omega)
              clear d1 d2 d3 d4
              go_wp2
              go_ret
              exact ⟨rfl, bal hB3 _⟩


set_option maxRecDepth 100000 in
set_option maxHeartbeats 4000000 in
theorem deep1_any (x0 x1 : UInt8) (h1 : x1.toNat % 3 = 1) (w : World) : Calls Try.prog 3 #[.int .u8 (x0.toNat : Int), .int .u8 (x1.toNat : Int)] w fun e w' => e = .returned (.bool true) ∧ Below w.heap.size w w' := by
  have HB : Hid _ := hid (begun_any w)
  have HP : Hid (∀ (s : ByteArray) (w : World), s.size ≤ 9223372036854775807 → _) := hid fun s w hs => parseStmt_any s hs w
  obtain ⟨k, hk, hk'⟩ : ∃ r : Nat, r < 100 ∧ x0.toNat % 100 = r := ⟨_, Nat.mod_lt _ (by decide), rfl⟩
  have hx0 : x0.toNat < 256 := x0.toNat_lt
  have hx1 : x1.toNat < 256 := x1.toNat_lt
  have g0 : (x0.toNat : Int) % 100 = (k : Int) := by omega
  have g1 : (x1.toNat : Int) % 3 = 1 := by omega
  have t0 : (x0.toNat : Int).tmod 100 = (k : Int) := by rw [Int.tmod_eq_emod_of_nonneg (by omega)]; exact g0
  have t1 : (x1.toNat : Int).tmod 3 = 1 := by rw [Int.tmod_eq_emod_of_nonneg (by omega)]; exact g1
  go_enter Try.func3, Try.ntmps3
  go_wp2_with fail
  refine Calls.mono HB.out ?_
  rintro e w1 ⟨rfl, hb1⟩
  clear HB h1 hk'
  go_wp2_with fail
  generalize hW : w1.alloc _ = W at *
  have hbW : Below w.heap.size w W := hW ▸ bal hb1 _
  clear hW hb1
  go_loopw [7, 9] (fun v7 v9 wr => ∃ (j : Nat) (S : ByteArray), j ≤ k ∧ v9 = .int .i64 j ∧ v7 = .string S ∧ S.size ≤ 1000 ∧ Hid (bs S = preD ++ repB (deepO 1) j) ∧ Hid (wr = W)) (fun _ v9 _ => k - (intOf v9).toNat)
  case atStart => exact ⟨0, _, Nat.zero_le _, rfl, rfl, by decide, hid (by decide), hid rfl⟩
  case round =>
    obtain ⟨j, S, hj, rfl, rfl, hS, HS, HW⟩ := hrel
    have hwr := HW.out
    subst hwr
    clear HW
    by_cases hlt : j < k
    · have HN : Hid (bs (S ++ ⟨#[45]⟩) = preD ++ repB (deepO 1) (j + 1)) := hid (by rw [bs_app, HS.out, List.append_assoc, ← repB_more]; rfl)
      have hS' : (S ++ ⟨#[45]⟩ : ByteArray).size ≤ 1000 := by
        have := congrArg List.length HN.out
        rw [bs_length, List.length_append, repB_len] at this
        have e1 : preD.length = 20 := rfl
        have e2 : (deepO 1).length = 1 := rfl
        rw [e1, e2] at this
        omega
      clear HS
      go_wp2_with fail
      go_roundw
      case rel => exact ⟨j + 1, S ++ ⟨#[45]⟩, by omega, by go_num, rfl, hS', HN, hid trivial⟩
      case measure => simp only [intOf]; omega
    · obtain rfl : j = k := by omega
      have HN : Hid (bs (S ++ ⟨#[97]⟩) = preD ++ (repB (deepO 1) j ++ (97 :: repB [41] 0))) := hid (by rw [bs_app, HS.out, List.append_assoc]; rfl)
      have hS' : (S ++ ⟨#[97]⟩ : ByteArray).size ≤ 1001 := by
        have := congrArg List.length (bs_app S ⟨#[97]⟩)
        rw [bs_length, List.length_append, bs_length] at this
        have e1 : (bs ⟨#[97]⟩).length = 1 := rfl
        omega
      clear HS
      go_wp2_with fail
      generalize S ++ ⟨#[97]⟩ = S1 at *
      go_loopw [7, 10] (fun v7 v10 w2 => ∃ (i : Nat) (S : ByteArray), i ≤ 0 ∧ v10 = .int .i64 i ∧ v7 = .string S ∧ S.size ≤ 2000 ∧ Hid (bs S = preD ++ (repB (deepO 1) j ++ (97 :: repB [41] i))) ∧ Hid (w2 = wr)) (fun _ v10 _ => j - (intOf v10).toNat)
      case atStart => exact ⟨0, S1, Nat.zero_le _, rfl, rfl, by omega, HN, hid rfl⟩
      case round =>
        obtain ⟨i, Z, hi, rfl, rfl, hZ, HZ, HW⟩ := hrel
        have hwr := HW.out
        clear HW HN hS' hlt
        subst hwr
        obtain rfl : i = 0 := by omega
        have HD : Hid (bs Z = deepL j 1) := hid (by rw [HZ.out]; rfl)
        clear HZ
        rcases Nat.eq_zero_or_pos j with hj0 | hj0
        · subst hj0
          have hZ9 : Z.size ≤ 9223372036854775807 := by omega
          go_wp2_with fail
          refine Calls.mono (HP.out Z _ hZ9) ?_
          rintro e w3 ⟨sv, X, a, f, rfl, hb3, hp, -, -⟩
          obtain ⟨d1, d2⟩ := deep_told (k := 0) (h := 1) (by decide) (by omega) HD.out hp
          have hB3 := Below.on hbW hb3
          clear hp hb3 hbW HP
          unfold stV
          by_cases hz : 400 < Z.size
          · obtain ⟨rfl, rfl⟩ := d1 hz
            clear d1 d2
            go_wp2
            go_ret
            exact ⟨rfl, bal hB3 _⟩
          · obtain ⟨d3, d4⟩ := d2 (by omega)
            by_cases h64 : 64 < 0
            · exact absurd h64 (by decide)
            · obtain rfl := d4 (by omega)
              clear d1 d2 d3 d4
              go_wp2
              go_ret
              exact ⟨rfl, bal hB3 _⟩
        · have hj1 : decide ((0 : Int) < (j : Int)) = true := by simp; omega
          have hZ9 : Z.size ≤ 9223372036854775807 := by omega
          go_wp2_with fail
          refine Calls.mono (HP.out Z _ hZ9) ?_
          rintro e w3 ⟨sv, X, a, f, rfl, hb3, hp, -, -⟩
          obtain ⟨d1, d2⟩ := deep_told (k := j) (h := 1) (by decide) (by omega) HD.out hp
          have hB3 := Below.on hbW hb3
          clear hp hb3 hbW HP
          unfold stV
          by_cases hz : 400 < Z.size
          · obtain ⟨rfl, rfl⟩ := d1 hz
            clear d1 d2
            go_wp2
            go_ret
            exact ⟨rfl, bal hB3 _⟩
          · obtain ⟨d3, d4⟩ := d2 (by omega)
            by_cases h64 : 64 < j
            · obtain ⟨rfl, rfl⟩ := d3 h64
              clear d1 d2 d3 d4
              have e2 : (deepO 1).length = 1 := rfl
              rw [e2]
              go_wp2
              go_ret
              exact ⟨rfl, bal hB3 _⟩
            · obtain rfl := d4 (by omega)
              clear d1 d2 d3 d4
              go_wp2
              go_ret
              exact ⟨rfl, bal hB3 _⟩


set_option maxRecDepth 100000 in
set_option maxHeartbeats 4000000 in
theorem deep2_any (x0 x1 : UInt8) (h1 : x1.toNat % 3 = 2) (w : World) : Calls Try.prog 3 #[.int .u8 (x0.toNat : Int), .int .u8 (x1.toNat : Int)] w fun e w' => e = .returned (.bool true) ∧ Below w.heap.size w w' := by
  have HB : Hid _ := hid (begun_any w)
  have HP : Hid (∀ (s : ByteArray) (w : World), s.size ≤ 9223372036854775807 → _) := hid fun s w hs => parseStmt_any s hs w
  obtain ⟨k, hk, hk'⟩ : ∃ r : Nat, r < 100 ∧ x0.toNat % 100 = r := ⟨_, Nat.mod_lt _ (by decide), rfl⟩
  have hx0 : x0.toNat < 256 := x0.toNat_lt
  have hx1 : x1.toNat < 256 := x1.toNat_lt
  have g0 : (x0.toNat : Int) % 100 = (k : Int) := by omega
  have g1 : (x1.toNat : Int) % 3 = 2 := by omega
  have t0 : (x0.toNat : Int).tmod 100 = (k : Int) := by rw [Int.tmod_eq_emod_of_nonneg (by omega)]; exact g0
  have t1 : (x1.toNat : Int).tmod 3 = 2 := by rw [Int.tmod_eq_emod_of_nonneg (by omega)]; exact g1
  go_enter Try.func3, Try.ntmps3
  go_wp2_with fail
  refine Calls.mono HB.out ?_
  rintro e w1 ⟨rfl, hb1⟩
  clear HB h1 hk'
  go_wp2_with fail
  generalize hW : w1.alloc _ = W at *
  have hbW : Below w.heap.size w W := hW ▸ bal hb1 _
  clear hW hb1
  go_loopw [7, 9] (fun v7 v9 wr => ∃ (j : Nat) (S : ByteArray), j ≤ k ∧ v9 = .int .i64 j ∧ v7 = .string S ∧ S.size ≤ 1000 ∧ Hid (bs S = preD ++ repB (deepO 2) j) ∧ Hid (wr = W)) (fun _ v9 _ => k - (intOf v9).toNat)
  case atStart => exact ⟨0, _, Nat.zero_le _, rfl, rfl, by decide, hid (by decide), hid rfl⟩
  case round =>
    obtain ⟨j, S, hj, rfl, rfl, hS, HS, HW⟩ := hrel
    have hwr := HW.out
    subst hwr
    clear HW
    by_cases hlt : j < k
    · have HN : Hid (bs (S ++ ⟨#[110, 111, 116, 32]⟩) = preD ++ repB (deepO 2) (j + 1)) := hid (by rw [bs_app, HS.out, List.append_assoc, ← repB_more]; rfl)
      have hS' : (S ++ ⟨#[110, 111, 116, 32]⟩ : ByteArray).size ≤ 1000 := by
        have := congrArg List.length HN.out
        rw [bs_length, List.length_append, repB_len] at this
        have e1 : preD.length = 20 := rfl
        have e2 : (deepO 2).length = 4 := rfl
        rw [e1, e2] at this
        omega
      clear HS
      go_wp2_with fail
      go_roundw
      case rel => exact ⟨j + 1, S ++ ⟨#[110, 111, 116, 32]⟩, by omega, by go_num, rfl, hS', HN, hid trivial⟩
      case measure => simp only [intOf]; omega
    · obtain rfl : j = k := by omega
      have HN : Hid (bs (S ++ ⟨#[97]⟩) = preD ++ (repB (deepO 2) j ++ (97 :: repB [41] 0))) := hid (by rw [bs_app, HS.out, List.append_assoc]; rfl)
      have hS' : (S ++ ⟨#[97]⟩ : ByteArray).size ≤ 1001 := by
        have := congrArg List.length (bs_app S ⟨#[97]⟩)
        rw [bs_length, List.length_append, bs_length] at this
        have e1 : (bs ⟨#[97]⟩).length = 1 := rfl
        omega
      clear HS
      go_wp2_with fail
      generalize S ++ ⟨#[97]⟩ = S1 at *
      go_loopw [7, 10] (fun v7 v10 w2 => ∃ (i : Nat) (S : ByteArray), i ≤ 0 ∧ v10 = .int .i64 i ∧ v7 = .string S ∧ S.size ≤ 2000 ∧ Hid (bs S = preD ++ (repB (deepO 2) j ++ (97 :: repB [41] i))) ∧ Hid (w2 = wr)) (fun _ v10 _ => j - (intOf v10).toNat)
      case atStart => exact ⟨0, S1, Nat.zero_le _, rfl, rfl, by omega, HN, hid rfl⟩
      case round =>
        obtain ⟨i, Z, hi, rfl, rfl, hZ, HZ, HW⟩ := hrel
        have hwr := HW.out
        clear HW HN hS' hlt
        subst hwr
        obtain rfl : i = 0 := by omega
        have HD : Hid (bs Z = deepL j 2) := hid (by rw [HZ.out]; rfl)
        clear HZ
        rcases Nat.eq_zero_or_pos j with hj0 | hj0
        · subst hj0
          have hZ9 : Z.size ≤ 9223372036854775807 := by omega
          go_wp2_with fail
          refine Calls.mono (HP.out Z _ hZ9) ?_
          rintro e w3 ⟨sv, X, a, f, rfl, hb3, hp, -, -⟩
          obtain ⟨d1, d2⟩ := deep_told (k := 0) (h := 2) (by decide) (by omega) HD.out hp
          have hB3 := Below.on hbW hb3
          clear hp hb3 hbW HP
          unfold stV
          by_cases hz : 400 < Z.size
          · obtain ⟨rfl, rfl⟩ := d1 hz
            clear d1 d2
            go_wp2
            go_ret
            exact ⟨rfl, bal hB3 _⟩
          · obtain ⟨d3, d4⟩ := d2 (by omega)
            by_cases h64 : 64 < 0
            · exact absurd h64 (by decide)
            · obtain rfl := d4 (by omega)
              clear d1 d2 d3 d4
              go_wp2
              go_ret
              exact ⟨rfl, bal hB3 _⟩
        · have hj1 : decide ((0 : Int) < (j : Int)) = true := by simp; omega
          have hZ9 : Z.size ≤ 9223372036854775807 := by omega
          go_wp2_with fail
          refine Calls.mono (HP.out Z _ hZ9) ?_
          rintro e w3 ⟨sv, X, a, f, rfl, hb3, hp, -, -⟩
          obtain ⟨d1, d2⟩ := deep_told (k := j) (h := 2) (by decide) (by omega) HD.out hp
          have hB3 := Below.on hbW hb3
          clear hp hb3 hbW HP
          unfold stV
          by_cases hz : 400 < Z.size
          · obtain ⟨rfl, rfl⟩ := d1 hz
            clear d1 d2
            go_wp2
            go_ret
            exact ⟨rfl, bal hB3 _⟩
          · obtain ⟨d3, d4⟩ := d2 (by omega)
            by_cases h64 : 64 < j
            · obtain ⟨rfl, rfl⟩ := d3 h64
              clear d1 d2 d3 d4
              have e2 : (deepO 2).length = 4 := rfl
              rw [e2]
              go_wp2
              go_ret
              exact ⟨rfl, bal hB3 _⟩
            · obtain rfl := d4 (by omega)
              clear d1 d2 d3 d4
              go_wp2
              go_ret
              exact ⟨rfl, bal hB3 _⟩


theorem deep_any (x0 x1 : UInt8) (w : World) : Calls Try.prog 3 #[.int .u8 (x0.toNat : Int), .int .u8 (x1.toNat : Int)] w fun e w' => e = .returned (.bool true) ∧ Below w.heap.size w w' := by
  have h : x1.toNat % 3 = 0 ∨ x1.toNat % 3 = 1 ∨ x1.toNat % 3 = 2 := by omega
  rcases h with h | h | h
  · exact deep0_any x0 x1 h w
  · exact deep1_any x0 x1 h w
  · exact deep2_any x0 x1 h w

end Go.Proofs.Ytjlmcnbmhgabpaa
