/- The walk of ParseGroups: two comparisons. -/
import Derived.Test.YtjlmcnbmhgabpaaQh
namespace Go.Proofs.Ytjlmcnbmhgabpaa
open Go.RowKit
set_option linter.unusedVariables false

set_option maxRecDepth 100000 in
set_option maxHeartbeats 8000000 in
theorem groupsB_any (x0 x1 x2 x3 x4 : UInt8) (h3 : x3.toNat % 6 = 2) (h4 : x4.toNat % 6 = 2) (w : World) : Calls Try.prog 4 #[.int .u8 (x0.toNat : Int), .int .u8 (x1.toNat : Int), .int .u8 (x2.toNat : Int), .int .u8 (x3.toNat : Int), .int .u8 (x4.toNat : Int)] w fun e w' => e = .returned (.bool true) ∧ Below w.heap.size w w' := by
  have HB : Hid _ := hid (begun_any w)
  obtain ⟨d1, hd1, hd1'⟩ : ∃ r : Nat, r < 10 ∧ x0.toNat % 10 = r := ⟨_, Nat.mod_lt _ (by decide), rfl⟩
  obtain ⟨d2, hd2, hd2'⟩ : ∃ r : Nat, r < 10 ∧ x1.toNat % 10 = r := ⟨_, Nat.mod_lt _ (by decide), rfl⟩
  obtain ⟨d3, hd3, hd3'⟩ : ∃ r : Nat, r < 10 ∧ x2.toNat % 10 = r := ⟨_, Nat.mod_lt _ (by decide), rfl⟩
  have b0 : x0.toNat < 256 := x0.toNat_lt
  have b1 : x1.toNat < 256 := x1.toNat_lt
  have b2 : x2.toNat < 256 := x2.toNat_lt
  have b3 : x3.toNat < 256 := x3.toNat_lt
  have b4 : x4.toNat < 256 := x4.toNat_lt
  have t0 : (x0.toNat : Int).tmod 10 = (d1 : Int) := by rw [Int.tmod_eq_emod_of_nonneg (by omega)]; omega
  have t1 : (x1.toNat : Int).tmod 10 = (d2 : Int) := by rw [Int.tmod_eq_emod_of_nonneg (by omega)]; omega
  have t2 : (x2.toNat : Int).tmod 10 = (d3 : Int) := by rw [Int.tmod_eq_emod_of_nonneg (by omega)]; omega
  have t3 : (x3.toNat : Int).tmod 6 = 2 := by rw [Int.tmod_eq_emod_of_nonneg (by omega)]; omega
  have t4 : (x4.toNat : Int).tmod 6 = 2 := by rw [Int.tmod_eq_emod_of_nonneg (by omega)]; omega
  have g0 : (x0.toNat : Int) % 10 = (d1 : Int) := by omega
  have g1 : (x1.toNat : Int) % 10 = (d2 : Int) := by omega
  have g2 : (x2.toNat : Int) % 10 = (d3 : Int) := by omega
  have g3 : (x3.toNat : Int) % 6 = 2 := by omega
  have g4 : (x4.toNat : Int) % 6 = 2 := by omega
  have HCV : Hid (∀ (U : World) (b d : Nat) (c : UInt8), d < 10 → _ → _ → _) := hid conv2
  go_enter Try.func4, Try.ntmps4
  go_wp2_with fail
  refine Calls.mono HB.out ?_
  rintro e w1 ⟨rfl, hb1⟩
  have cp := cell_later (bal (Below.refl _ _) (.cells #[.int .i64 0, .int .i64 1, .int .i64 2, .int .i64 3, .int .i64 3, .int .i64 4] 3)) (ops_cell w1 2 (by decide))
  have hbW := bal (bal hb1 (.cells #[.string ⟨#[111, 114]⟩, .string ⟨#[97, 110, 100]⟩, .string ⟨#[61]⟩, .string ⟨#[43]⟩, .string ⟨#[45]⟩, .string ⟨#[42]⟩] 9)) (.cells #[.int .i64 0, .int .i64 1, .int .i64 2, .int .i64 3, .int .i64 3, .int .i64 4] 3)
  clear HB hb1 hd1' hd2' hd3' h3 h4
  go_upto_region 5 with fail
  generalize hW : (w1.alloc _).alloc _ = W at *
  generalize w1.heap.size = B at *
  clear hW
  have hBl : B < W.heap.size := World.block_lt_of_cell? _ _ cp
  go_cut [13, 14, 15] (fun v13 v14 v15 w' => v13 = .string (vB 97 d1) ∧ v14 = .string (vB 98 d2) ∧ v15 = .string (vB 99 d3) ∧ Below W.heap.size W w')
  case first =>
    have cv1 : (convert 36 9 (.slice (some ⟨W.heap.size, 0, none⟩) 2 2)).run Try.prog (W.alloc (.cells #[.int .u8 97, .int .u8 ((48 : Int) + (d1 : Int))] 5)).drew = .ok (.string (vB 97 d1)) (W.alloc (.cells #[.int .u8 97, .int .u8 ((48 : Int) + (d1 : Int))] 5)).drew := conv2 _ _ d1 97 hd1 (by simp [go_sem]) (by simp [go_sem])
    have cv2 : (convert 36 9 (.slice (some ⟨W.heap.size, 0, none⟩) 2 2)).run Try.prog (W.alloc (.cells #[.int .u8 98, .int .u8 ((48 : Int) + (d2 : Int))] 5)).drew = .ok (.string (vB 98 d2)) (W.alloc (.cells #[.int .u8 98, .int .u8 ((48 : Int) + (d2 : Int))] 5)).drew := conv2 _ _ d2 98 hd2 (by simp [go_sem]) (by simp [go_sem])
    have cv3 : (convert 36 9 (.slice (some ⟨W.heap.size, 0, none⟩) 2 2)).run Try.prog (W.alloc (.cells #[.int .u8 99, .int .u8 ((48 : Int) + (d3 : Int))] 5)).drew = .ok (.string (vB 99 d3)) (W.alloc (.cells #[.int .u8 99, .int .u8 ((48 : Int) + (d3 : Int))] 5)).drew := conv2 _ _ d3 99 hd3 (by simp [go_sem]) (by simp [go_sem])
    have cv4 : (convert 36 9 (.slice (some ⟨W.heap.size, 0, none⟩) 2 2)).run Try.prog ((W.alloc (.cells #[.int .u8 97, .int .u8 ((48 : Int) + (d1 : Int))] 5)).alloc (.cells #[.int .u8 98, .int .u8 ((48 : Int) + (d2 : Int))] 5)).drew = .ok (.string (vB 97 d1)) ((W.alloc (.cells #[.int .u8 97, .int .u8 ((48 : Int) + (d1 : Int))] 5)).alloc (.cells #[.int .u8 98, .int .u8 ((48 : Int) + (d2 : Int))] 5)).drew := conv2 _ _ d1 97 hd1 (by simp [go_sem]) (by simp [go_sem])
    have cv5 : (convert 36 9 (.slice (some ⟨W.heap.size + 1, 0, none⟩) 2 2)).run Try.prog ((W.alloc (.cells #[.int .u8 97, .int .u8 ((48 : Int) + (d1 : Int))] 5)).alloc (.cells #[.int .u8 98, .int .u8 ((48 : Int) + (d2 : Int))] 5)).drew = .ok (.string (vB 98 d2)) ((W.alloc (.cells #[.int .u8 97, .int .u8 ((48 : Int) + (d1 : Int))] 5)).alloc (.cells #[.int .u8 98, .int .u8 ((48 : Int) + (d2 : Int))] 5)).drew := conv2 _ _ d2 98 hd2 (by simp [go_sem]) (by simp [go_sem])
    have cv6 : (convert 36 9 (.slice (some ⟨W.heap.size, 0, none⟩) 2 2)).run Try.prog ((W.alloc (.cells #[.int .u8 97, .int .u8 ((48 : Int) + (d1 : Int))] 5)).alloc (.cells #[.int .u8 99, .int .u8 ((48 : Int) + (d3 : Int))] 5)).drew = .ok (.string (vB 97 d1)) ((W.alloc (.cells #[.int .u8 97, .int .u8 ((48 : Int) + (d1 : Int))] 5)).alloc (.cells #[.int .u8 99, .int .u8 ((48 : Int) + (d3 : Int))] 5)).drew := conv2 _ _ d1 97 hd1 (by simp [go_sem]) (by simp [go_sem])
    have cv7 : (convert 36 9 (.slice (some ⟨W.heap.size + 1, 0, none⟩) 2 2)).run Try.prog ((W.alloc (.cells #[.int .u8 97, .int .u8 ((48 : Int) + (d1 : Int))] 5)).alloc (.cells #[.int .u8 99, .int .u8 ((48 : Int) + (d3 : Int))] 5)).drew = .ok (.string (vB 99 d3)) ((W.alloc (.cells #[.int .u8 97, .int .u8 ((48 : Int) + (d1 : Int))] 5)).alloc (.cells #[.int .u8 99, .int .u8 ((48 : Int) + (d3 : Int))] 5)).drew := conv2 _ _ d3 99 hd3 (by simp [go_sem]) (by simp [go_sem])
    have cv8 : (convert 36 9 (.slice (some ⟨W.heap.size, 0, none⟩) 2 2)).run Try.prog ((W.alloc (.cells #[.int .u8 98, .int .u8 ((48 : Int) + (d2 : Int))] 5)).alloc (.cells #[.int .u8 97, .int .u8 ((48 : Int) + (d1 : Int))] 5)).drew = .ok (.string (vB 98 d2)) ((W.alloc (.cells #[.int .u8 98, .int .u8 ((48 : Int) + (d2 : Int))] 5)).alloc (.cells #[.int .u8 97, .int .u8 ((48 : Int) + (d1 : Int))] 5)).drew := conv2 _ _ d2 98 hd2 (by simp [go_sem]) (by simp [go_sem])
    have cv9 : (convert 36 9 (.slice (some ⟨W.heap.size + 1, 0, none⟩) 2 2)).run Try.prog ((W.alloc (.cells #[.int .u8 98, .int .u8 ((48 : Int) + (d2 : Int))] 5)).alloc (.cells #[.int .u8 97, .int .u8 ((48 : Int) + (d1 : Int))] 5)).drew = .ok (.string (vB 97 d1)) ((W.alloc (.cells #[.int .u8 98, .int .u8 ((48 : Int) + (d2 : Int))] 5)).alloc (.cells #[.int .u8 97, .int .u8 ((48 : Int) + (d1 : Int))] 5)).drew := conv2 _ _ d1 97 hd1 (by simp [go_sem]) (by simp [go_sem])
    have cv10 : (convert 36 9 (.slice (some ⟨W.heap.size, 0, none⟩) 2 2)).run Try.prog ((W.alloc (.cells #[.int .u8 98, .int .u8 ((48 : Int) + (d2 : Int))] 5)).alloc (.cells #[.int .u8 99, .int .u8 ((48 : Int) + (d3 : Int))] 5)).drew = .ok (.string (vB 98 d2)) ((W.alloc (.cells #[.int .u8 98, .int .u8 ((48 : Int) + (d2 : Int))] 5)).alloc (.cells #[.int .u8 99, .int .u8 ((48 : Int) + (d3 : Int))] 5)).drew := conv2 _ _ d2 98 hd2 (by simp [go_sem]) (by simp [go_sem])
    have cv11 : (convert 36 9 (.slice (some ⟨W.heap.size + 1, 0, none⟩) 2 2)).run Try.prog ((W.alloc (.cells #[.int .u8 98, .int .u8 ((48 : Int) + (d2 : Int))] 5)).alloc (.cells #[.int .u8 99, .int .u8 ((48 : Int) + (d3 : Int))] 5)).drew = .ok (.string (vB 99 d3)) ((W.alloc (.cells #[.int .u8 98, .int .u8 ((48 : Int) + (d2 : Int))] 5)).alloc (.cells #[.int .u8 99, .int .u8 ((48 : Int) + (d3 : Int))] 5)).drew := conv2 _ _ d3 99 hd3 (by simp [go_sem]) (by simp [go_sem])
    have cv12 : (convert 36 9 (.slice (some ⟨W.heap.size, 0, none⟩) 2 2)).run Try.prog ((W.alloc (.cells #[.int .u8 99, .int .u8 ((48 : Int) + (d3 : Int))] 5)).alloc (.cells #[.int .u8 97, .int .u8 ((48 : Int) + (d1 : Int))] 5)).drew = .ok (.string (vB 99 d3)) ((W.alloc (.cells #[.int .u8 99, .int .u8 ((48 : Int) + (d3 : Int))] 5)).alloc (.cells #[.int .u8 97, .int .u8 ((48 : Int) + (d1 : Int))] 5)).drew := conv2 _ _ d3 99 hd3 (by simp [go_sem]) (by simp [go_sem])
    have cv13 : (convert 36 9 (.slice (some ⟨W.heap.size + 1, 0, none⟩) 2 2)).run Try.prog ((W.alloc (.cells #[.int .u8 99, .int .u8 ((48 : Int) + (d3 : Int))] 5)).alloc (.cells #[.int .u8 97, .int .u8 ((48 : Int) + (d1 : Int))] 5)).drew = .ok (.string (vB 97 d1)) ((W.alloc (.cells #[.int .u8 99, .int .u8 ((48 : Int) + (d3 : Int))] 5)).alloc (.cells #[.int .u8 97, .int .u8 ((48 : Int) + (d1 : Int))] 5)).drew := conv2 _ _ d1 97 hd1 (by simp [go_sem]) (by simp [go_sem])
    have cv14 : (convert 36 9 (.slice (some ⟨W.heap.size, 0, none⟩) 2 2)).run Try.prog ((W.alloc (.cells #[.int .u8 99, .int .u8 ((48 : Int) + (d3 : Int))] 5)).alloc (.cells #[.int .u8 98, .int .u8 ((48 : Int) + (d2 : Int))] 5)).drew = .ok (.string (vB 99 d3)) ((W.alloc (.cells #[.int .u8 99, .int .u8 ((48 : Int) + (d3 : Int))] 5)).alloc (.cells #[.int .u8 98, .int .u8 ((48 : Int) + (d2 : Int))] 5)).drew := conv2 _ _ d3 99 hd3 (by simp [go_sem]) (by simp [go_sem])
    have cv15 : (convert 36 9 (.slice (some ⟨W.heap.size + 1, 0, none⟩) 2 2)).run Try.prog ((W.alloc (.cells #[.int .u8 99, .int .u8 ((48 : Int) + (d3 : Int))] 5)).alloc (.cells #[.int .u8 98, .int .u8 ((48 : Int) + (d2 : Int))] 5)).drew = .ok (.string (vB 98 d2)) ((W.alloc (.cells #[.int .u8 99, .int .u8 ((48 : Int) + (d3 : Int))] 5)).alloc (.cells #[.int .u8 98, .int .u8 ((48 : Int) + (d2 : Int))] 5)).drew := conv2 _ _ d2 98 hd2 (by simp [go_sem]) (by simp [go_sem])
    have cv16 : (convert 36 9 (.slice (some ⟨W.heap.size, 0, none⟩) 2 2)).run Try.prog (((W.alloc (.cells #[.int .u8 97, .int .u8 ((48 : Int) + (d1 : Int))] 5)).alloc (.cells #[.int .u8 98, .int .u8 ((48 : Int) + (d2 : Int))] 5)).alloc (.cells #[.int .u8 99, .int .u8 ((48 : Int) + (d3 : Int))] 5)).drew = .ok (.string (vB 97 d1)) (((W.alloc (.cells #[.int .u8 97, .int .u8 ((48 : Int) + (d1 : Int))] 5)).alloc (.cells #[.int .u8 98, .int .u8 ((48 : Int) + (d2 : Int))] 5)).alloc (.cells #[.int .u8 99, .int .u8 ((48 : Int) + (d3 : Int))] 5)).drew := conv2 _ _ d1 97 hd1 (by simp [go_sem]) (by simp [go_sem])
    have cv17 : (convert 36 9 (.slice (some ⟨W.heap.size + 1, 0, none⟩) 2 2)).run Try.prog (((W.alloc (.cells #[.int .u8 97, .int .u8 ((48 : Int) + (d1 : Int))] 5)).alloc (.cells #[.int .u8 98, .int .u8 ((48 : Int) + (d2 : Int))] 5)).alloc (.cells #[.int .u8 99, .int .u8 ((48 : Int) + (d3 : Int))] 5)).drew = .ok (.string (vB 98 d2)) (((W.alloc (.cells #[.int .u8 97, .int .u8 ((48 : Int) + (d1 : Int))] 5)).alloc (.cells #[.int .u8 98, .int .u8 ((48 : Int) + (d2 : Int))] 5)).alloc (.cells #[.int .u8 99, .int .u8 ((48 : Int) + (d3 : Int))] 5)).drew := conv2 _ _ d2 98 hd2 (by simp [go_sem]) (by simp [go_sem])
    have cv18 : (convert 36 9 (.slice (some ⟨W.heap.size + 1 + 1, 0, none⟩) 2 2)).run Try.prog (((W.alloc (.cells #[.int .u8 97, .int .u8 ((48 : Int) + (d1 : Int))] 5)).alloc (.cells #[.int .u8 98, .int .u8 ((48 : Int) + (d2 : Int))] 5)).alloc (.cells #[.int .u8 99, .int .u8 ((48 : Int) + (d3 : Int))] 5)).drew = .ok (.string (vB 99 d3)) (((W.alloc (.cells #[.int .u8 97, .int .u8 ((48 : Int) + (d1 : Int))] 5)).alloc (.cells #[.int .u8 98, .int .u8 ((48 : Int) + (d2 : Int))] 5)).alloc (.cells #[.int .u8 99, .int .u8 ((48 : Int) + (d3 : Int))] 5)).drew := conv2 _ _ d3 99 hd3 (by simp [go_sem]) (by simp [go_sem])
    have cv19 : (convert 36 9 (.slice (some ⟨W.heap.size, 0, none⟩) 2 2)).run Try.prog (((W.alloc (.cells #[.int .u8 97, .int .u8 ((48 : Int) + (d1 : Int))] 5)).alloc (.cells #[.int .u8 99, .int .u8 ((48 : Int) + (d3 : Int))] 5)).alloc (.cells #[.int .u8 98, .int .u8 ((48 : Int) + (d2 : Int))] 5)).drew = .ok (.string (vB 97 d1)) (((W.alloc (.cells #[.int .u8 97, .int .u8 ((48 : Int) + (d1 : Int))] 5)).alloc (.cells #[.int .u8 99, .int .u8 ((48 : Int) + (d3 : Int))] 5)).alloc (.cells #[.int .u8 98, .int .u8 ((48 : Int) + (d2 : Int))] 5)).drew := conv2 _ _ d1 97 hd1 (by simp [go_sem]) (by simp [go_sem])
    have cv20 : (convert 36 9 (.slice (some ⟨W.heap.size + 1, 0, none⟩) 2 2)).run Try.prog (((W.alloc (.cells #[.int .u8 97, .int .u8 ((48 : Int) + (d1 : Int))] 5)).alloc (.cells #[.int .u8 99, .int .u8 ((48 : Int) + (d3 : Int))] 5)).alloc (.cells #[.int .u8 98, .int .u8 ((48 : Int) + (d2 : Int))] 5)).drew = .ok (.string (vB 99 d3)) (((W.alloc (.cells #[.int .u8 97, .int .u8 ((48 : Int) + (d1 : Int))] 5)).alloc (.cells #[.int .u8 99, .int .u8 ((48 : Int) + (d3 : Int))] 5)).alloc (.cells #[.int .u8 98, .int .u8 ((48 : Int) + (d2 : Int))] 5)).drew := conv2 _ _ d3 99 hd3 (by simp [go_sem]) (by simp [go_sem])
    have cv21 : (convert 36 9 (.slice (some ⟨W.heap.size + 1 + 1, 0, none⟩) 2 2)).run Try.prog (((W.alloc (.cells #[.int .u8 97, .int .u8 ((48 : Int) + (d1 : Int))] 5)).alloc (.cells #[.int .u8 99, .int .u8 ((48 : Int) + (d3 : Int))] 5)).alloc (.cells #[.int .u8 98, .int .u8 ((48 : Int) + (d2 : Int))] 5)).drew = .ok (.string (vB 98 d2)) (((W.alloc (.cells #[.int .u8 97, .int .u8 ((48 : Int) + (d1 : Int))] 5)).alloc (.cells #[.int .u8 99, .int .u8 ((48 : Int) + (d3 : Int))] 5)).alloc (.cells #[.int .u8 98, .int .u8 ((48 : Int) + (d2 : Int))] 5)).drew := conv2 _ _ d2 98 hd2 (by simp [go_sem]) (by simp [go_sem])
    have cv22 : (convert 36 9 (.slice (some ⟨W.heap.size, 0, none⟩) 2 2)).run Try.prog (((W.alloc (.cells #[.int .u8 98, .int .u8 ((48 : Int) + (d2 : Int))] 5)).alloc (.cells #[.int .u8 97, .int .u8 ((48 : Int) + (d1 : Int))] 5)).alloc (.cells #[.int .u8 99, .int .u8 ((48 : Int) + (d3 : Int))] 5)).drew = .ok (.string (vB 98 d2)) (((W.alloc (.cells #[.int .u8 98, .int .u8 ((48 : Int) + (d2 : Int))] 5)).alloc (.cells #[.int .u8 97, .int .u8 ((48 : Int) + (d1 : Int))] 5)).alloc (.cells #[.int .u8 99, .int .u8 ((48 : Int) + (d3 : Int))] 5)).drew := conv2 _ _ d2 98 hd2 (by simp [go_sem]) (by simp [go_sem])
    have cv23 : (convert 36 9 (.slice (some ⟨W.heap.size + 1, 0, none⟩) 2 2)).run Try.prog (((W.alloc (.cells #[.int .u8 98, .int .u8 ((48 : Int) + (d2 : Int))] 5)).alloc (.cells #[.int .u8 97, .int .u8 ((48 : Int) + (d1 : Int))] 5)).alloc (.cells #[.int .u8 99, .int .u8 ((48 : Int) + (d3 : Int))] 5)).drew = .ok (.string (vB 97 d1)) (((W.alloc (.cells #[.int .u8 98, .int .u8 ((48 : Int) + (d2 : Int))] 5)).alloc (.cells #[.int .u8 97, .int .u8 ((48 : Int) + (d1 : Int))] 5)).alloc (.cells #[.int .u8 99, .int .u8 ((48 : Int) + (d3 : Int))] 5)).drew := conv2 _ _ d1 97 hd1 (by simp [go_sem]) (by simp [go_sem])
    have cv24 : (convert 36 9 (.slice (some ⟨W.heap.size + 1 + 1, 0, none⟩) 2 2)).run Try.prog (((W.alloc (.cells #[.int .u8 98, .int .u8 ((48 : Int) + (d2 : Int))] 5)).alloc (.cells #[.int .u8 97, .int .u8 ((48 : Int) + (d1 : Int))] 5)).alloc (.cells #[.int .u8 99, .int .u8 ((48 : Int) + (d3 : Int))] 5)).drew = .ok (.string (vB 99 d3)) (((W.alloc (.cells #[.int .u8 98, .int .u8 ((48 : Int) + (d2 : Int))] 5)).alloc (.cells #[.int .u8 97, .int .u8 ((48 : Int) + (d1 : Int))] 5)).alloc (.cells #[.int .u8 99, .int .u8 ((48 : Int) + (d3 : Int))] 5)).drew := conv2 _ _ d3 99 hd3 (by simp [go_sem]) (by simp [go_sem])
    have cv25 : (convert 36 9 (.slice (some ⟨W.heap.size, 0, none⟩) 2 2)).run Try.prog (((W.alloc (.cells #[.int .u8 98, .int .u8 ((48 : Int) + (d2 : Int))] 5)).alloc (.cells #[.int .u8 99, .int .u8 ((48 : Int) + (d3 : Int))] 5)).alloc (.cells #[.int .u8 97, .int .u8 ((48 : Int) + (d1 : Int))] 5)).drew = .ok (.string (vB 98 d2)) (((W.alloc (.cells #[.int .u8 98, .int .u8 ((48 : Int) + (d2 : Int))] 5)).alloc (.cells #[.int .u8 99, .int .u8 ((48 : Int) + (d3 : Int))] 5)).alloc (.cells #[.int .u8 97, .int .u8 ((48 : Int) + (d1 : Int))] 5)).drew := conv2 _ _ d2 98 hd2 (by simp [go_sem]) (by simp [go_sem])
    have cv26 : (convert 36 9 (.slice (some ⟨W.heap.size + 1, 0, none⟩) 2 2)).run Try.prog (((W.alloc (.cells #[.int .u8 98, .int .u8 ((48 : Int) + (d2 : Int))] 5)).alloc (.cells #[.int .u8 99, .int .u8 ((48 : Int) + (d3 : Int))] 5)).alloc (.cells #[.int .u8 97, .int .u8 ((48 : Int) + (d1 : Int))] 5)).drew = .ok (.string (vB 99 d3)) (((W.alloc (.cells #[.int .u8 98, .int .u8 ((48 : Int) + (d2 : Int))] 5)).alloc (.cells #[.int .u8 99, .int .u8 ((48 : Int) + (d3 : Int))] 5)).alloc (.cells #[.int .u8 97, .int .u8 ((48 : Int) + (d1 : Int))] 5)).drew := conv2 _ _ d3 99 hd3 (by simp [go_sem]) (by simp [go_sem])
    have cv27 : (convert 36 9 (.slice (some ⟨W.heap.size + 1 + 1, 0, none⟩) 2 2)).run Try.prog (((W.alloc (.cells #[.int .u8 98, .int .u8 ((48 : Int) + (d2 : Int))] 5)).alloc (.cells #[.int .u8 99, .int .u8 ((48 : Int) + (d3 : Int))] 5)).alloc (.cells #[.int .u8 97, .int .u8 ((48 : Int) + (d1 : Int))] 5)).drew = .ok (.string (vB 97 d1)) (((W.alloc (.cells #[.int .u8 98, .int .u8 ((48 : Int) + (d2 : Int))] 5)).alloc (.cells #[.int .u8 99, .int .u8 ((48 : Int) + (d3 : Int))] 5)).alloc (.cells #[.int .u8 97, .int .u8 ((48 : Int) + (d1 : Int))] 5)).drew := conv2 _ _ d1 97 hd1 (by simp [go_sem]) (by simp [go_sem])
    have cv28 : (convert 36 9 (.slice (some ⟨W.heap.size, 0, none⟩) 2 2)).run Try.prog (((W.alloc (.cells #[.int .u8 99, .int .u8 ((48 : Int) + (d3 : Int))] 5)).alloc (.cells #[.int .u8 97, .int .u8 ((48 : Int) + (d1 : Int))] 5)).alloc (.cells #[.int .u8 98, .int .u8 ((48 : Int) + (d2 : Int))] 5)).drew = .ok (.string (vB 99 d3)) (((W.alloc (.cells #[.int .u8 99, .int .u8 ((48 : Int) + (d3 : Int))] 5)).alloc (.cells #[.int .u8 97, .int .u8 ((48 : Int) + (d1 : Int))] 5)).alloc (.cells #[.int .u8 98, .int .u8 ((48 : Int) + (d2 : Int))] 5)).drew := conv2 _ _ d3 99 hd3 (by simp [go_sem]) (by simp [go_sem])
    have cv29 : (convert 36 9 (.slice (some ⟨W.heap.size + 1, 0, none⟩) 2 2)).run Try.prog (((W.alloc (.cells #[.int .u8 99, .int .u8 ((48 : Int) + (d3 : Int))] 5)).alloc (.cells #[.int .u8 97, .int .u8 ((48 : Int) + (d1 : Int))] 5)).alloc (.cells #[.int .u8 98, .int .u8 ((48 : Int) + (d2 : Int))] 5)).drew = .ok (.string (vB 97 d1)) (((W.alloc (.cells #[.int .u8 99, .int .u8 ((48 : Int) + (d3 : Int))] 5)).alloc (.cells #[.int .u8 97, .int .u8 ((48 : Int) + (d1 : Int))] 5)).alloc (.cells #[.int .u8 98, .int .u8 ((48 : Int) + (d2 : Int))] 5)).drew := conv2 _ _ d1 97 hd1 (by simp [go_sem]) (by simp [go_sem])
    have cv30 : (convert 36 9 (.slice (some ⟨W.heap.size + 1 + 1, 0, none⟩) 2 2)).run Try.prog (((W.alloc (.cells #[.int .u8 99, .int .u8 ((48 : Int) + (d3 : Int))] 5)).alloc (.cells #[.int .u8 97, .int .u8 ((48 : Int) + (d1 : Int))] 5)).alloc (.cells #[.int .u8 98, .int .u8 ((48 : Int) + (d2 : Int))] 5)).drew = .ok (.string (vB 98 d2)) (((W.alloc (.cells #[.int .u8 99, .int .u8 ((48 : Int) + (d3 : Int))] 5)).alloc (.cells #[.int .u8 97, .int .u8 ((48 : Int) + (d1 : Int))] 5)).alloc (.cells #[.int .u8 98, .int .u8 ((48 : Int) + (d2 : Int))] 5)).drew := conv2 _ _ d2 98 hd2 (by simp [go_sem]) (by simp [go_sem])
    have cv31 : (convert 36 9 (.slice (some ⟨W.heap.size, 0, none⟩) 2 2)).run Try.prog (((W.alloc (.cells #[.int .u8 99, .int .u8 ((48 : Int) + (d3 : Int))] 5)).alloc (.cells #[.int .u8 98, .int .u8 ((48 : Int) + (d2 : Int))] 5)).alloc (.cells #[.int .u8 97, .int .u8 ((48 : Int) + (d1 : Int))] 5)).drew = .ok (.string (vB 99 d3)) (((W.alloc (.cells #[.int .u8 99, .int .u8 ((48 : Int) + (d3 : Int))] 5)).alloc (.cells #[.int .u8 98, .int .u8 ((48 : Int) + (d2 : Int))] 5)).alloc (.cells #[.int .u8 97, .int .u8 ((48 : Int) + (d1 : Int))] 5)).drew := conv2 _ _ d3 99 hd3 (by simp [go_sem]) (by simp [go_sem])
    have cv32 : (convert 36 9 (.slice (some ⟨W.heap.size + 1, 0, none⟩) 2 2)).run Try.prog (((W.alloc (.cells #[.int .u8 99, .int .u8 ((48 : Int) + (d3 : Int))] 5)).alloc (.cells #[.int .u8 98, .int .u8 ((48 : Int) + (d2 : Int))] 5)).alloc (.cells #[.int .u8 97, .int .u8 ((48 : Int) + (d1 : Int))] 5)).drew = .ok (.string (vB 98 d2)) (((W.alloc (.cells #[.int .u8 99, .int .u8 ((48 : Int) + (d3 : Int))] 5)).alloc (.cells #[.int .u8 98, .int .u8 ((48 : Int) + (d2 : Int))] 5)).alloc (.cells #[.int .u8 97, .int .u8 ((48 : Int) + (d1 : Int))] 5)).drew := conv2 _ _ d2 98 hd2 (by simp [go_sem]) (by simp [go_sem])
    have cv33 : (convert 36 9 (.slice (some ⟨W.heap.size + 1 + 1, 0, none⟩) 2 2)).run Try.prog (((W.alloc (.cells #[.int .u8 99, .int .u8 ((48 : Int) + (d3 : Int))] 5)).alloc (.cells #[.int .u8 98, .int .u8 ((48 : Int) + (d2 : Int))] 5)).alloc (.cells #[.int .u8 97, .int .u8 ((48 : Int) + (d1 : Int))] 5)).drew = .ok (.string (vB 97 d1)) (((W.alloc (.cells #[.int .u8 99, .int .u8 ((48 : Int) + (d3 : Int))] 5)).alloc (.cells #[.int .u8 98, .int .u8 ((48 : Int) + (d2 : Int))] 5)).alloc (.cells #[.int .u8 97, .int .u8 ((48 : Int) + (d1 : Int))] 5)).drew := conv2 _ _ d1 97 hd1 (by simp [go_sem]) (by simp [go_sem])
    clear HCV cp hbW
    go_region
    all_goals
      go_wp2_with fail
      go_meet
      refine ⟨rfl, rfl, rfl, ?_⟩
      first
      | exact bal (bal (bal (Below.refl _ W).drew _) _) _
      | exact (bal (bal (bal (Below.refl _ W) _) _) _).drew
  case rest =>
    obtain ⟨rfl, rfl, rfl, hbc⟩ := hcut
    have hbw := Below.on hbW hbc
    have cp' := cell_later hbc cp
    have hBw : B < wc.heap.size := Nat.lt_of_lt_of_le hBl hbc.size
    have s1 : (tx1 2 2 d1 d2 d3).size ≤ 1000 := by have := sz1 2 2 d1 d2 d3; rw [size_app] at this; omega
    have H1 : Hid (∀ w, Calls Try.prog 7 #[.string (tx1 2 2 d1 d2 d3)] w fun e w' => ∃ (o : Int) (p : Pay) (ao : Option Addr) (n c : Nat), e = .returned (.tuple #[exV o p (.slice ao n c), .bool false]) ∧ Below w.heap.size w w') := hid fun w => Calls.mono (where_no s1 (told1_no hd1 hd2 hd3) w) fun e w' h => ⟨0, nilP, none, 0, 0, h.1, h.2⟩
    unfold tx1 at H1
    have zx : (vB 97 d1).size ≤ 2 := Nat.le_refl _
    have zy : (vB 98 d2).size ≤ 2 := Nat.le_refl _
    have zz : (vB 99 d3).size ≤ 2 := Nat.le_refl _
    have zp := oB_size 2
    generalize vB 97 d1 = Sx at *
    generalize vB 98 d2 = Sy at *
    generalize vB 99 d3 = Sz at *
    generalize oB 2 = Sp at *
    clear s1 cp hBl hbW hbc HCV hd1 hd2 hd3 b0 b1 b2 t0 t1 t2 g0 g1 g2
    go_upto_region 7 with fail
    go_cut [18, 19] (fun v18 v19 w' => v19 = .bool false ∧ Below wc.heap.size wc w')
    case first =>
      have hcd : Below wc.heap.size wc wc.drew := (Below.refl _ wc).drew
      have hne : B ≠ wc.heap.size := by omega
      go_region_held (fun w' => w'.cell? ⟨B, 2, none⟩ = some (.string Sp)) (first | go_keep | exact (World.cell?_of_block (w := z1) (w' := set7 z1 wc.heap.size o1 p1 (.slice a1 n1 c1)) (a := ⟨B, 2, none⟩) (set7_heap _ _ _ _ _ hne)).trans cpz)
        (first
        | (go_at_call 7; refine Calls.mono (H1.out wc.drew) ?_; rintro e z1 ⟨o1, p1, a1, n1, c1, rfl, hb1⟩; replace hcd := Below.on hcd hb1; have cpz := cell_later hcd cp'; have hBz := World.block_lt_of_cell? _ _ cpz; unfold exV)
        | (go_at_call 7; refine Calls.mono (H1.out (wc.alloc (.cells #[.int .i64 0, .int .i64 0, .int .i64 0, .string ⟨#[]⟩, .string ⟨#[]⟩, .string ⟨#[]⟩, .slice none 0 0] 40)).drew) ?_; rintro e z1 ⟨o1, p1, a1, n1, c1, rfl, hb1⟩; replace hcd := Below.on (bal (Below.refl _ wc) (.cells #[.int .i64 0, .int .i64 0, .int .i64 0, .string ⟨#[]⟩, .string ⟨#[]⟩, .string ⟨#[]⟩, .slice none 0 0] 40)).drew hb1; have y1 : Be z1 wc.heap.size 0 nilP (.slice none 0 0) := Be.later (w := (wc.alloc (.cells #[.int .i64 0, .int .i64 0, .int .i64 0, .string ⟨#[]⟩, .string ⟨#[]⟩, .string ⟨#[]⟩, .slice none 0 0] 40)).drew) ((Be.new wc 0 nilP (.slice none 0 0)).keep rfl) hb1; obtain ⟨i0, i1, i2, i3, i4, i5, i6⟩ := y1.cells; obtain ⟨f0, f1, f2, f3, f4, f5, f6⟩ := y1.free; have cpz := cell_later hcd cp'; have hBz := World.block_lt_of_cell? _ _ cpz; unfold exV))
      all_goals
        go_wp2_with fail
        go_meet
        refine ⟨rfl, ?_⟩
        first
        | with_reducible exact bal hcd _
        | exact set7_below hcd o1 p1 (.slice a1 n1 c1)
    case rest =>
      obtain ⟨rfl, hbd1⟩ := hcut
      have hbw1 := Below.on hbw hbd1
      clear H1 hbd1 hbw cp'
      go_wp2
      go_ret
      exact ⟨rfl, hbw1⟩

theorem groups_any (x0 x1 x2 x3 x4 : UInt8) (w : World) : Calls Try.prog 4 #[.int .u8 (x0.toNat : Int), .int .u8 (x1.toNat : Int), .int .u8 (x2.toNat : Int), .int .u8 (x3.toNat : Int), .int .u8 (x4.toNat : Int)] w fun e w' => e = .returned (.bool true) ∧ Below w.heap.size w w' := by
  by_cases h : x3.toNat % 6 = 2 ∧ x4.toNat % 6 = 2
  · exact groupsB_any x0 x1 x2 x3 x4 h.1 h.2 w
  · exact groupsA_any x0 x1 x2 x3 x4 h w

end Go.Proofs.Ytjlmcnbmhgabpaa
