/- The walk of ParseGroups. -/
import Derived.Test.YtjlmcnbmhgabpaaQg
namespace Go.Proofs.Ytjlmcnbmhgabpaa
open Go.RowKit
set_option linter.unusedVariables false

theorem ops_cell (w : World) : ∀ p, p < 6 → (w.alloc (.cells #[.string ⟨#[111, 114]⟩, .string ⟨#[97, 110, 100]⟩, .string ⟨#[61]⟩, .string ⟨#[43]⟩, .string ⟨#[45]⟩, .string ⟨#[42]⟩] 9)).cell? ⟨w.heap.size, p, none⟩ = some (.string (oB p)) :=
  six ⟨cell_new w _ _ _ 0, cell_new w _ _ _ 1, cell_new w _ _ _ 2, cell_new w _ _ _ 3, cell_new w _ _ _ 4, cell_new w _ _ _ 5⟩
theorem rank_cell (w : World) : ∀ p, p < 6 → (w.alloc (.cells #[.int .i64 0, .int .i64 1, .int .i64 2, .int .i64 3, .int .i64 3, .int .i64 4] 3)).cell? ⟨w.heap.size, p, none⟩ = some (.int .i64 (rk p : Int)) :=
  six ⟨cell_new w _ _ _ 0, cell_new w _ _ _ 1, cell_new w _ _ _ 2, cell_new w _ _ _ 3, cell_new w _ _ _ 4, cell_new w _ _ _ 5⟩
theorem oB_size (p : Nat) : (oB p).size ≤ 3 := by
  have := oB_len p
  show (opB p).toArray.size ≤ 3
  simpa using this

theorem set7_below {a w : World} (h : Below a.heap.size a w) (o : Int) (p : Pay) (sl : Value) : Below a.heap.size a (set7 w a.heap.size o p sl) := by
  have B := (But.of (g := a.heap.size) h).set7 (Nat.le_refl _) o p sl
  exact ⟨B.os, B.tape, B.output, B.size, fun k hk => B.block k hk (by omega)⟩

set_option maxRecDepth 100000 in
set_option maxHeartbeats 8000000 in
theorem groupsA_any (x0 x1 x2 x3 x4 : UInt8) (hNN : ¬ (x3.toNat % 6 = 2 ∧ x4.toNat % 6 = 2)) (w : World) : Calls Try.prog 4 #[.int .u8 (x0.toNat : Int), .int .u8 (x1.toNat : Int), .int .u8 (x2.toNat : Int), .int .u8 (x3.toNat : Int), .int .u8 (x4.toNat : Int)] w fun e w' => e = .returned (.bool true) ∧ Below w.heap.size w w' := by
  have HB : Hid _ := hid (begun_any w)
  obtain ⟨d1, hd1, hd1'⟩ : ∃ r : Nat, r < 10 ∧ x0.toNat % 10 = r := ⟨_, Nat.mod_lt _ (by decide), rfl⟩
  obtain ⟨d2, hd2, hd2'⟩ : ∃ r : Nat, r < 10 ∧ x1.toNat % 10 = r := ⟨_, Nat.mod_lt _ (by decide), rfl⟩
  obtain ⟨d3, hd3, hd3'⟩ : ∃ r : Nat, r < 10 ∧ x2.toNat % 10 = r := ⟨_, Nat.mod_lt _ (by decide), rfl⟩
  obtain ⟨p, hp, hp'⟩ : ∃ r : Nat, r < 6 ∧ x3.toNat % 6 = r := ⟨_, Nat.mod_lt _ (by decide), rfl⟩
  obtain ⟨q, hq, hq'⟩ : ∃ r : Nat, r < 6 ∧ x4.toNat % 6 = r := ⟨_, Nat.mod_lt _ (by decide), rfl⟩
  have b0 : x0.toNat < 256 := x0.toNat_lt
  have b1 : x1.toNat < 256 := x1.toNat_lt
  have b2 : x2.toNat < 256 := x2.toNat_lt
  have b3 : x3.toNat < 256 := x3.toNat_lt
  have b4 : x4.toNat < 256 := x4.toNat_lt
  have t0 : (x0.toNat : Int).tmod 10 = (d1 : Int) := by rw [Int.tmod_eq_emod_of_nonneg (by omega)]; omega
  have t1 : (x1.toNat : Int).tmod 10 = (d2 : Int) := by rw [Int.tmod_eq_emod_of_nonneg (by omega)]; omega
  have t2 : (x2.toNat : Int).tmod 10 = (d3 : Int) := by rw [Int.tmod_eq_emod_of_nonneg (by omega)]; omega
  have t3 : (x3.toNat : Int).tmod 6 = (p : Int) := by rw [Int.tmod_eq_emod_of_nonneg (by omega)]; omega
  have t4 : (x4.toNat : Int).tmod 6 = (q : Int) := by rw [Int.tmod_eq_emod_of_nonneg (by omega)]; omega
  have g0 : (x0.toNat : Int) % 10 = (d1 : Int) := by omega
  have g1 : (x1.toNat : Int) % 10 = (d2 : Int) := by omega
  have g2 : (x2.toNat : Int) % 10 = (d3 : Int) := by omega
  have g3 : (x3.toNat : Int) % 6 = (p : Int) := by omega
  have g4 : (x4.toNat : Int) % 6 = (q : Int) := by omega
  have hN : ¬ (p = 2 ∧ q = 2) := by omega
  clear hNN
  have HCV : Hid (∀ (U : World) (b d : Nat) (c : UInt8), d < 10 → _ → _ → _) := hid conv2
  go_enter Try.func4, Try.ntmps4
  go_wp2_with fail
  refine Calls.mono HB.out ?_
  rintro e w1 ⟨rfl, hb1⟩
  have cp := cell_later (bal (Below.refl _ _) (.cells #[.int .i64 0, .int .i64 1, .int .i64 2, .int .i64 3, .int .i64 3, .int .i64 4] 3)) (ops_cell w1 p hp)
  have cq := cell_later (bal (Below.refl _ _) (.cells #[.int .i64 0, .int .i64 1, .int .i64 2, .int .i64 3, .int .i64 3, .int .i64 4] 3)) (ops_cell w1 q hq)
  have rp := rank_cell (w1.alloc (.cells #[.string ⟨#[111, 114]⟩, .string ⟨#[97, 110, 100]⟩, .string ⟨#[61]⟩, .string ⟨#[43]⟩, .string ⟨#[45]⟩, .string ⟨#[42]⟩] 9)) p hp
  have rq := rank_cell (w1.alloc (.cells #[.string ⟨#[111, 114]⟩, .string ⟨#[97, 110, 100]⟩, .string ⟨#[61]⟩, .string ⟨#[43]⟩, .string ⟨#[45]⟩, .string ⟨#[42]⟩] 9)) q hq
  rw [World.size_alloc] at rp rq
  have hbW := bal (bal hb1 (.cells #[.string ⟨#[111, 114]⟩, .string ⟨#[97, 110, 100]⟩, .string ⟨#[61]⟩, .string ⟨#[43]⟩, .string ⟨#[45]⟩, .string ⟨#[42]⟩] 9)) (.cells #[.int .i64 0, .int .i64 1, .int .i64 2, .int .i64 3, .int .i64 3, .int .i64 4] 3)
  clear HB hb1 hd1' hd2' hd3' hp' hq'
  go_upto_region 5 with fail
  generalize hW : (w1.alloc _).alloc _ = W at *
  generalize w1.heap.size = B at *
  clear hW
  have hBl : B < W.heap.size := World.block_lt_of_cell? _ _ cp
  have hBl2 : B + 1 < W.heap.size := World.block_lt_of_cell? _ _ rp
  go_cut [13, 14, 15] (fun v13 v14 v15 w' => v13 = .string (vB 97 d1) ∧ v14 = .string (vB 98 d2) ∧ v15 = .string (vB 99 d3) ∧ Below W.heap.size W w')
  case first =>
    have cv1 : (convert 36 9 (.slice (some ⟨W.heap.size, 0, none⟩) 2 2)).run Try.prog (W.alloc (.cells #[.int .u8 97, .int .u8 ((48 : Int) + (d1 : Int))] 5)).drew = .ok (.string (vB 97 d1)) (W.alloc (.cells #[.int .u8 97, .int .u8 ((48 : Int) + (d1 : Int))] 5)).drew := conv2 _ _ d1 97 hd1 (by simp [go_sem]) (by simp [go_sem])
    have cv2 : (convert 36 9 (.slice (some ⟨W.heap.size, 0, none⟩) 2 2)).run Try.prog (W.alloc (.cells #[.int .u8 98, .int .u8 ((48 : Int) + (d2 : Int))] 5)).drew = .ok (.string (vB 98 d2)) (W.alloc (.cells #[.int .u8 98, .int .u8 ((48 : Int) + (d2 : Int))] 5)).drew := conv2 _ _ d2 98 hd2 (by simp [go_sem]) (by simp [go_sem])
    have cv3 : (convert 36 9 (.slice (some ⟨W.heap.size, 0, none⟩) 2 2)).run Try.prog (W.alloc (.cells #[.int .u8 99, .int .u8 ((48 : Int) + (d3 : Int))] 5)).drew = .ok (.string (vB 99 d3)) (W.alloc (.cells #[.int .u8 99, .int .u8 ((48 : Int) + (d3 : Int))] 5)).drew := conv2 _ _ d3 99 hd3 (by simp [go_sem]) (by simp [go_sem])
    have cv4 : (convert 36 9 (.slice (some ⟨W.heap.size, 0, none⟩) 2 2)).run Try.prog ((W.alloc (.cells #[.int .u8 97, .int .u8 ((48 : Int) + (d1 : Int))] 5)).alloc (.cells #[.int .u8 98, .int .u8 ((48 : Int) + (d2 : Int))] 5)).drew = .ok (.string (vB 97 d1)) ((W.alloc (.cells #[.int .u8 97, .int .u8 ((48 : Int) + (d1 : Int))] 5)).alloc (.cells #[.int .u8 98, .int .u8 ((48 : Int) + (d2 : Int))] 5)).drew := conv2 _ _ d1 97 hd1 (by simp [go_sem]) (by simp [go_sem])
    have cv5 : (convert 36 9 (.slice (some ⟨W.heap.size + 1, 0, none⟩) 2 2)).run Try.prog ((W.alloc (.cells #[.int .u8 97, .int .u8 ((48 : Int) + (d1 : Int))] 5)).alloc (.cells #[.int .u8 98, .int .u8 ((48 : Int) + (d2 : Int))] 5)).drew = .ok (.string (vB 98 d2)) ((W.alloc (.cells #[.int .u8 97, .int .u8 ((48 : Int) + (d1 : Int))] 5)).alloc (.cells #[.int .u8 98, .int .u8 ((48 : Int) + (d2 : Int))] 5)).drew := conv2 _ _ d2 98 hd2 (by simp [go_sem]) (by simp [go_sem])
    have cv6 : (convert 36 9 (.slice (some ⟨W.heap.size, 0, none⟩) 2 2)).run Try.prog ((W.alloc (.cells #[.int .u8 97, .int .u8 ((48 : Int) + (d1 : Int))] 5)).alloc (.cells #[.int .u8 99, .int .u8 ((48 : Int) + (d3 : Int))] 5)).drew = .ok (.string (vB 97 d1)) ((W.alloc (.cells #[.int .u8 97, .int .u8 ((48 : Int) + (d1 : Int))] 5)).alloc (.cells #[.int .u8 99, .int .u8 ((48 : Int) + (d3 : Int))] 5)).drew := conv2 _ _ d1 97 hd1 (by simp [go_sem]) (by simp [go_sem])
    have cv7 : (convert 36 9 (.slice (some ⟨W.heap.size + 1, 0, none⟩) 2 2)).run Try.prog ((W.alloc (.cells #[.int .u8 97, .int .u8 ((48 : Int) + (d1 : Int))] 5)).alloc (.cells #[.int .u8 99, .int .u8 ((48 : Int) + (d3 : Int))] 5)).drew = .ok (.string (vB 99 d3)) ((W.alloc (.cells #[.int .u8 97, .int .u8 ((48 : Int) + (d1 : Int))] 5)).alloc (.cells #[.int .u8 99, .int .u8 ((48 : Int) + (d3 : Int))] 5)).drew := conv2 _ _ d3 99 hd3 (by simp [go_sem]) (by simp [go_sem])
    have cv8 : (convert 36 9 (.slice (some ⟨W.heap.size, 0, none⟩) 2 2)).run Try.prog ((W.alloc (.cells #[.int .u8 98, .int .u8 ((48 : Int) + (d2 : Int))] 5)).alloc (.cells #[.int .u8 97, .int .u8 ((48 : Int) + (d1 : Int))] 5)).drew = .ok (.string (vB 98 d2)) ((W.alloc (.cells #[.int .u8 98, .int .u8 ((48 : Int) + (d2 : Int))] 5)).alloc (.cells #[.int .u8 97, .int .u8 ((48 : Int) + (d1 : Int))] 5)).drew := conv2 _ _ d2 98 hd2 (by simp [go_sem]) (by simp [go_sem])
    have cv9 : (convert 36 9 (.slice (some ⟨W.heap.size + 1, 0, none⟩) 2 2)).run Try.prog ((W.alloc (.cells #[.int .u8 98, .int .u8 ((48 : Int) + (d2 : Int))] 5)).alloc (.cells #[.int .u8 97, .int .u8 ((48 : Int) + (d1 : Int))] 5)).drew = .ok (.string (vB 97 d1)) ((W.alloc (.cells #[.int .u8 98, .int .u8 ((48 : Int) + (d2 : Int))] 5)).alloc (.cells #[.int .u8 97, .int .u8 ((48 : Int) + (d1 : Int))] 5)).drew := conv2 _ _ d1 97 hd1 (by simp [go_sem]) (by simp [go_sem])
    have cv10 : (convert 36 9 (.slice (some ⟨W.heap.size, 0, none⟩) 2 2)).run Try.prog ((W.alloc (.cells #[.int .u8 98, .int .u8 ((48 : Int) + (d2 : Int))] 5)).alloc (.cells #[.int .u8 99, .int .u8 ((48 : Int) + (d3 : Int))] 5)).drew = .ok (.string (vB 98 d2)) ((W.alloc (.cells #[.int .u8 98, .int .u8 ((48 : Int) + (d2 : Int))] 5)).alloc (.cells #[.int .u8 99, .int .u8 ((48 : Int) + (d3 : Int))] 5)).drew := conv2 _ _ d2 98 hd2 (by simp [go_sem]) (by simp [go_sem])
    have cv11 : (convert 36 9 (.slice (some ⟨W.heap.size + 1, 0, none⟩) 2 2)).run Try.prog ((W.alloc (.cells #[.int .u8 98, .int .u8 ((48 : Int) + (d2 : Int))] 5)).alloc (.cells #[.int .u8 99, .int .u8 ((48 : Int) + (d3 : Int))] 5)).drew = .ok (.string (vB 99 d3)) ((W.alloc (.cells #[.int .u8 98, .int .u8 ((48 : Int) + (d2 : Int))] 5)).alloc (.cells #[.int .u8 99, .int .u8 ((48 : Int) + (d3 : Int))] 5)).drew := conv2 _ _ d3 99 hd3 (by simp [go_sem]) (by simp [go_sem])
    have cv12 : (convert 36 9 (.slice (some ⟨W.heap.size, 0, none⟩) 2 2)).run Try.prog ((W.alloc (.cells #[.int .u8 99, .int .u8 ((48 : Int) + (d3 : Int))] 5)).alloc (.cells #[.int .u8 97, .int .u8 ((48 : Int) + (d1 : Int))] 5)).drew = .ok (.string (vB 99 d3)) ((W.alloc (.cells #[.int .u8 99, .int .u8 ((48 : Int) + (d3 : Int))] 5)).alloc (.cells #[.int .u8 97, .int .u8 ((48 : Int) + (d1 : Int))] 5)).drew := conv2 _ _ d3 99 hd3 (by simp [go_sem]) (by simp [go_sem])
    have cv13 : (convert 36 9 (.slice (some ⟨W.heap.size + 1, 0, none⟩) 2 2)).run Try.prog ((W.alloc (.cells #[.int .u8 99, .int .u8 ((48 : Int) + (d3 : Int))] 5)).alloc (.cells #[.int .u8 97, .int .u8 ((48 : Int) + (d1 : Int))] 5)).drew = .ok (.string (vB 97 d1)) ((W.alloc (.cells #[.int .u8 99, .int .u8 ((48 : Int) + (d3 : Int))] 5)).alloc (.cells #[.int .u8 97, .int .u8 ((48 : Int) + (d1 : Int))] 5)).drew := conv2 _ _ d1 97 hd1 (by simp [go_sem]) (by simp [go_sem])
    have cv14 : (convert 36 9 (.slice (some ⟨W.heap.size, 0, none⟩) 2 2)).run Try.prog ((W.alloc (.cells #[.int .u8 99, .int .u8 ((48 : Int) + (d3 : Int))] 5)).alloc (.cells #[.int .u8 98, .int .u8 ((48 : Int) + (d2 : Int))] 5)).drew = .ok (.string (vB 99 d3)) ((W.alloc (.cells #[.int .u8 99, .int .u8 ((48 : Int) + (d3 : Int))] 5)).alloc (.cells #[.int .u8 98, .int .u8 ((48 : Int) + (d2 : Int))] 5)).drew := conv2 _ _ d3 99 hd3 (by simp [go_sem]) (by simp [go_sem])
    have cv15 : (convert 36 9 (.slice (some ⟨W.heap.size + 1, 0, none⟩) 2 2)).run Try.prog ((W.alloc (.cells #[.int .u8 99, .int .u8 ((48 : Int) + (d3 : Int))] 5)).alloc (.cells #[.int .u8 98, .int .u8 ((48 : Int) + (d2 : Int))] 5)).drew = .ok (.string (vB 98 d2)) ((W.alloc (.cells #[.int .u8 99, .int .u8 ((48 : Int) + (d3 : Int))] 5)).alloc (.cells #[.int .u8 98, .int .u8 ((48 : Int) + (d2 : Int))] 5)).drew := conv2 _ _ d2 98 hd2 (by simp [go_sem]) (by simp [go_sem])
    have cv16 : (convert 36 9 (.slice (some ⟨W.heap.size, 0, none⟩) 2 2)).run Try.prog (((W.alloc (.cells #[.int .u8 97, .int .u8 ((48 : Int) + (d1 : Int))] 5)).alloc (.cells #[.int .u8 98, .int .u8 ((48 : Int) + (d2 : Int))] 5)).alloc (.cells #[.int .u8 99, .int .u8 ((48 : Int) + (d3 : Int))] 5)).drew = .ok (.string (vB 97 d1)) (((W.alloc (.cells #[.int .u8 97, .int .u8 ((48 : Int) + (d1 : Int))] 5)).alloc (.cells #[.int .u8 98, .int .u8 ((48 : Int) + (d2 : Int))] 5)).alloc (.cells #[.int .u8 99, .int .u8 ((48 : Int) + (d3 : Int))] 5)).drew := conv2 _ _ d1 97 hd1 (by simp [go_sem]) (by simp [go_sem])
    have cv17 : (convert 36 9 (.slice (some ⟨W.heap.size + 1, 0, none⟩) 2 2)).run Try.prog (((W.alloc (.cells #[.int .u8 97, .int .u8 ((48 : Int) + (d1 : Int))] 5)).alloc (.cells #[.int .u8 98, .int .u8 ((48 : Int) + (d2 : Int))] 5)).alloc (.cells #[.int .u8 99, .int .u8 ((48 : Int) + (d3 : Int))] 5)).drew = .ok (.string (vB 98 d2)) (((W.alloc (.cells #[.int .u8 97, .int .u8 ((48 : Int) + (d1 : Int))] 5)).alloc (.cells #[.int .u8 98, .int .u8 ((48 : Int) + (d2 : Int))] 5)).alloc (.cells #[.int .u8 99, .int .u8 ((48 : Int) + (d3 : Int))] 5)).drew := conv2 _ _ d2 98 hd2 (by simp [go_sem]) (by simp [go_sem])
    have cv18 : (convert 36 9 (.slice (some ⟨W.heap.size + 1 + 1, 0, none⟩) 2 2)).run Try.prog (((W.alloc (.cells #[.int .u8 97, .int .u8 ((48 : Int) + (d1 : Int))] 5)).alloc (.cells #[.int .u8 98, .int .u8 ((48 : Int) + (d2 : Int))] 5)).alloc (.cells #[.int .u8 99, .int .u8 ((48 : Int) + (d3 : Int))] 5)).drew = .ok (.string (vB 99 d3)) (((W.alloc (.cells #[.int .u8 97, .int .u8 ((48 : Int) + (d1 : Int))] 5)).alloc (.cells #[.int .u8 98, .int .u8 ((48 : Int) + (d2 : Int))] 5)).alloc (.cells #[.int .u8 99, .int .u8 ((48 : Int) + (d3 : Int))] 5)).drew := conv2 _ _ d3 99 hd3 (by simp [go_sem]) (by simp [go_sem])
    have cv19 : (convert 36 9 (.slice (some ⟨W.heap.size, 0, none⟩) 2 2)).run Try.prog (((W.alloc (.cells #[.int .u8 97, .int .u8 ((48 : Int) + (d1 : Int))] 5)).alloc (.cells #[.int .u8 99, .int .u8 ((48 : Int) + (d3 : Int))] 5)).alloc (.cells #[.int .u8 98, .int .u8 ((48 : Int) + (d2 : Int))] 5)).drew = .ok (.string (vB 97 d1)) (((W.alloc (.cells #[.int .u8 97, .int .u8 ((48 : Int) + (d1 : Int))] 5)).alloc (.cells #[.int .u8 99, .int .u8 ((48 : Int) + (d3 : Int))] 5)).alloc (.cells #[.int .u8 98, .int .u8 ((48 : Int) + (d2 : Int))] 5)).drew := conv2 _ _ d1 97 hd1 (by simp [go_sem]) (by simp [go_sem])
    have cv20 : (convert 36 9 (.slice (some ⟨W.heap.size + 1, 0, none⟩) 2 2)).run Try.prog (((W.alloc (.cells #[.int .u8 97, .int .u8 ((48 : Int) + (d1 : Int))] 5)).alloc (.cells #[.int .u8 99, .int .u8 ((48 : Int) + (d3 : Int))] 5)).alloc (.cells #[.int .u8 98, .int .u8 ((48 : Int) + (d2 : Int))] 5)).drew = .ok (.string (vB 99 d3)) (((W.alloc (.cells #[.int .u8 97, .int .u8 ((48 : Int) + (d1 : Int))] 5)).alloc (.cells #[.int .u8 99, .int .u8 ((48 : Int) + (d3 : Int))] 5)).alloc (.cells #[.int .u8 98, .int .u8 ((48 : Int) + (d2 : Int))] 5)).drew := conv2 _ _ d3 99 hd3 (by simp [go_sem]) (by simp [go_sem])
    have cv21 : (convert 36 9 (.slice (some ⟨W.heap.size + 1 + 1, 0, none⟩) 2 2)).run Try.prog (((W.alloc (.cells #[.int .u8 97, .int .u8 ((48 : Int) + (d1 : Int))] 5)).alloc (.cells #[.int .u8 99, .int .u8 ((48 : Int) + (d3 : Int))] 5)).alloc (.cells #[.int .u8 98, .int .u8 ((48 : Int) + (d2 : Int))] 5)).drew = .ok (.string (vB 98 d2)) (((W.alloc (.cells #[.int .u8 97, .int .u8 ((48 : Int) + (d1 : Int))] 5)).alloc (.cells #[.int .u8 99, .int .u8 ((48 : Int) + (d3 : Int))] 5)).alloc (.cells #[.int .u8 98, .int .u8 ((48 : Int) + (d2 : Int))] 5)).drew := conv2 _ _ d2 98 hd2 (by simp [go_sem]) (by simp [go_sem])
    have cv22 : (convert 36 9 (.slice (some ⟨W.heap.size, 0, none⟩) 2 2)).run Try.prog (((W.alloc (.cells #[.int .u8 98, .int .u8 ((48 : Int) + (d2 : Int))] 5)).alloc (.cells #[.int .u8 97, .int .u8 ((48 : Int) + (d1 : Int))] 5)).alloc (.cells #[.int .u8 99, .int .u8 ((48 : Int) + (d3 : Int))] 5)).drew = .ok (.string (vB 98 d2)) (((W.alloc (.cells #[.int .u8 98, .int .u8 ((48 : Int) + (d2 : Int))] 5)).alloc (.cells #[.int .u8 97, .int .u8 ((48 : Int) + (d1 : Int))] 5)).alloc (.cells #[.int .u8 99, .int .u8 ((48 : Int) + (d3 : Int))] 5)).drew := conv2 _ _ d2 98 hd2 (by simp [go_sem]) (by simp [go_sem])
    have cv23 : (convert 36 9 (.slice (some ⟨W.heap.size + 1, 0, none⟩) 2 2)).run Try.prog (((W.alloc (.cells #[.int .u8 98, .int .u8 ((48 : Int) + (d2 : Int))] 5)).alloc (.cells #[.int .u8 97, .int .u8 ((48 : Int) + (d1 : Int))] 5)).alloc (.cells #[.int .u8 99, .int .u8 ((48 : Int) + (d3 : Int))] 5)).drew = .ok (.string (vB 97 d1)) (((W.alloc (.cells #[.int .u8 98, .int .u8 ((48 : Int) + (d2 : Int))] 5)).alloc (.cells #[.int .u8 97, .int .u8 ((48 : Int) + (d1 : Int))] 5)).alloc (.cells #[.int .u8 99, .int .u8 ((48 : Int) + (d3 : Int))] 5)).drew := conv2 _ _ d1 97 hd1 (by simp [go_sem]) (by simp [go_sem])
    have cv24 : (convert 36 9 (.slice (some ⟨W.heap.size + 1 + 1, 0, none⟩) 2 2)).run Try.prog (((W.alloc (.cells #[.int .u8 98, .int .u8 ((48 : Int) + (d2 : Int))] 5)).alloc (.cells #[.int .u8 97, .int .u8 ((48 : Int) + (d1 : Int))] 5)).alloc (.cells #[.int .u8 99, .int .u8 ((48 : Int) + (d3 : Int))] 5)).drew = .ok (.string (vB 99 d3)) (((W.alloc (.cells #[.int .u8 98, .int .u8 ((48 : Int) + (d2 : Int))] 5)).alloc (.cells #[.int .u8 97, .int .u8 ((48 : Int) + (d1 : Int))] 5)).alloc (.cells #[.int .u8 99, .int .u8 ((48 : Int) + (d3 : Int))] 5)).drew := conv2 _ _ d3 99 hd3 (by simp [go_sem]) (by simp [go_sem])
    have cv25 : (convert 36 9 (.slice (some ⟨W.heap.size, 0, none⟩) 2 2)).run Try.prog (((W.alloc (.cells #[.int .u8 98, .int .u8 ((48 : Int) + (d2 : Int))] 5)).alloc (.cells #[.int .u8 99, .int .u8 ((48 : Int) + (d3 : Int))] 5)).alloc (.cells #[.int .u8 97, .int .u8 ((48 : Int) + (d1 : Int))] 5)).drew = .ok (.string (vB 98 d2)) (((W.alloc (.cells #[.int .u8 98, .int .u8 ((48 : Int) + (d2 : Int))] 5)).alloc (.cells #[.int .u8 99, .int .u8 ((48 : Int) + (d3 : Int))] 5)).alloc (.cells #[.int .u8 97, .int .u8 ((48 : Int) + (d1 : Int))] 5)).drew := conv2 _ _ d2 98 hd2 (by simp [go_sem]) (by simp [go_sem])
    have cv26 : (convert 36 9 (.slice (some ⟨W.heap.size + 1, 0, none⟩) 2 2)).run Try.prog (((W.alloc (.cells #[.int .u8 98, .int .u8 ((48 : Int) + (d2 : Int))] 5)).alloc (.cells #[.int .u8 99, .int .u8 ((48 : Int) + (d3 : Int))] 5)).alloc (.cells #[.int .u8 97, .int .u8 ((48 : Int) + (d1 : Int))] 5)).drew = .ok (.string (vB 99 d3)) (((W.alloc (.cells #[.int .u8 98, .int .u8 ((48 : Int) + (d2 : Int))] 5)).alloc (.cells #[.int .u8 99, .int .u8 ((48 : Int) + (d3 : Int))] 5)).alloc (.cells #[.int .u8 97, .int .u8 ((48 : Int) + (d1 : Int))] 5)).drew := conv2 _ _ d3 99 hd3 (by simp [go_sem]) (by simp [go_sem])
    have cv27 : (convert 36 9 (.slice (some ⟨W.heap.size + 1 + 1, 0, none⟩) 2 2)).run Try.prog (((W.alloc (.cells #[.int .u8 98, .int .u8 ((48 : Int) + (d2 : Int))] 5)).alloc (.cells #[.int .u8 99, .int .u8 ((48 : Int) + (d3 : Int))] 5)).alloc (.cells #[.int .u8 97, .int .u8 ((48 : Int) + (d1 : Int))] 5)).drew = .ok (.string (vB 97 d1)) (((W.alloc (.cells #[.int .u8 98, .int .u8 ((48 : Int) + (d2 : Int))] 5)).alloc (.cells #[.int .u8 99, .int .u8 ((48 : Int) + (d3 : Int))] 5)).alloc (.cells #[.int .u8 97, .int .u8 ((48 : Int) + (d1 : Int))] 5)).drew := conv2 _ _ d1 97 hd1 (by simp [go_sem]) (by simp [go_sem])
    have cv28 : (convert 36 9 (.slice (some ⟨W.heap.size, 0, none⟩) 2 2)).run Try.prog (((W.alloc (.cells #[.int .u8 99, .int .u8 ((48 : Int) + (d3 : Int))] 5)).alloc (.cells #[.int .u8 97, .int .u8 ((48 : Int) + (d1 : Int))] 5)).alloc (.cells #[.int .u8 98, .int .u8 ((48 : Int) + (d2 : Int))] 5)).drew = .ok (.string (vB 99 d3)) (((W.alloc (.cells #[.int .u8 99, .int .u8 ((48 : Int) + (d3 : Int))] 5)).alloc (.cells #[.int .u8 97, .int .u8 ((48 : Int) + (d1 : Int))] 5)).alloc (.cells #[.int .u8 98, .int .u8 ((48 : Int) + (d2 : Int))] 5)).drew := conv2 _ _ d3 99 hd3 (by simp [go_sem]) (by simp [go_sem])
    have cv29 : (convert 36 9 (.slice (some ⟨W.heap.size + 1, 0, none⟩) 2 2)).run Try.prog (((W.alloc (.cells #[.int .u8 99, .int .u8 ((48 : Int) + (d3 : Int))] 5)).alloc (.cells #[.int .u8 97, .int .u8 ((48 : Int) + (d1 : Int))] 5)).alloc (.cells #[.int .u8 98, .int .u8 ((48 : Int) + (d2 : Int))] 5)).drew = .ok (.string (vB 97 d1)) (((W.alloc (.cells #[.int .u8 99, .int .u8 ((48 : Int) + (d3 : Int))] 5)).alloc (.cells #[.int .u8 97, .int .u8 ((48 : Int) + (d1 : Int))] 5)).alloc (.cells #[.int .u8 98, .int .u8 ((48 : Int) + (d2 : Int))] 5)).drew := conv2 _ _ d1 97 hd1 (by simp [go_sem]) (by simp [go_sem])
    have cv30 : (convert 36 9 (.slice (some ⟨W.heap.size + 1 + 1, 0, none⟩) 2 2)).run Try.prog (((W.alloc (.cells #[.int .u8 99, .int .u8 ((48 : Int) + (d3 : Int))] 5)).alloc (.cells #[.int .u8 97, .int .u8 ((48 : Int) + (d1 : Int))] 5)).alloc (.cells #[.int .u8 98, .int .u8 ((48 : Int) + (d2 : Int))] 5)).drew = .ok (.string (vB 98 d2)) (((W.alloc (.cells #[.int .u8 99, .int .u8 ((48 : Int) + (d3 : Int))] 5)).alloc (.cells #[.int .u8 97, .int .u8 ((48 : Int) + (d1 : Int))] 5)).alloc (.cells #[.int .u8 98, .int .u8 ((48 : Int) + (d2 : Int))] 5)).drew := conv2 _ _ d2 98 hd2 (by simp [go_sem]) (by simp [go_sem])
    have cv31 : (convert 36 9 (.slice (some ⟨W.heap.size, 0, none⟩) 2 2)).run Try.prog (((W.alloc (.cells #[.int .u8 99, .int .u8 ((48 : Int) + (d3 : Int))] 5)).alloc (.cells #[.int .u8 98, .int .u8 ((48 : Int) + (d2 : Int))] 5)).alloc (.cells #[.int .u8 97, .int .u8 ((48 : Int) + (d1 : Int))] 5)).drew = .ok (.string (vB 99 d3)) (((W.alloc (.cells #[.int .u8 99, .int .u8 ((48 : Int) + (d3 : Int))] 5)).alloc (.cells #[.int .u8 98, .int .u8 ((48 : Int) + (d2 : Int))] 5)).alloc (.cells #[.int .u8 97, .int .u8 ((48 : Int) + (d1 : Int))] 5)).drew := conv2 _ _ d3 99 hd3 (by simp [go_sem]) (by simp [go_sem])
    have cv32 : (convert 36 9 (.slice (some ⟨W.heap.size + 1, 0, none⟩) 2 2)).run Try.prog (((W.alloc (.cells #[.int .u8 99, .int .u8 ((48 : Int) + (d3 : Int))] 5)).alloc (.cells #[.int .u8 98, .int .u8 ((48 : Int) + (d2 : Int))] 5)).alloc (.cells #[.int .u8 97, .int .u8 ((48 : Int) + (d1 : Int))] 5)).drew = .ok (.string (vB 98 d2)) (((W.alloc (.cells #[.int .u8 99, .int .u8 ((48 : Int) + (d3 : Int))] 5)).alloc (.cells #[.int .u8 98, .int .u8 ((48 : Int) + (d2 : Int))] 5)).alloc (.cells #[.int .u8 97, .int .u8 ((48 : Int) + (d1 : Int))] 5)).drew := conv2 _ _ d2 98 hd2 (by simp [go_sem]) (by simp [go_sem])
    have cv33 : (convert 36 9 (.slice (some ⟨W.heap.size + 1 + 1, 0, none⟩) 2 2)).run Try.prog (((W.alloc (.cells #[.int .u8 99, .int .u8 ((48 : Int) + (d3 : Int))] 5)).alloc (.cells #[.int .u8 98, .int .u8 ((48 : Int) + (d2 : Int))] 5)).alloc (.cells #[.int .u8 97, .int .u8 ((48 : Int) + (d1 : Int))] 5)).drew = .ok (.string (vB 97 d1)) (((W.alloc (.cells #[.int .u8 99, .int .u8 ((48 : Int) + (d3 : Int))] 5)).alloc (.cells #[.int .u8 98, .int .u8 ((48 : Int) + (d2 : Int))] 5)).alloc (.cells #[.int .u8 97, .int .u8 ((48 : Int) + (d1 : Int))] 5)).drew := conv2 _ _ d1 97 hd1 (by simp [go_sem]) (by simp [go_sem])
    clear HCV cp cq rp rq hbW
    go_region
    all_goals
      go_wp2_with fail
      go_meet
      refine ⟨rfl, rfl, rfl, ?_⟩
      first
      | exact bal (bal (bal (Below.refl _ W).drew _) _) _
      | exact (bal (bal (bal (Below.refl _ W) _) _) _).drew
  case rest =>
    obtain ⟨rfl, rfl, rfl, hbc⟩ := hcut
    have hbw := Below.on hbW hbc
    have cp' := cell_later hbc cp
    have cq' := cell_later hbc cq
    have rp' := cell_later hbc rp
    have rq' := cell_later hbc rq
    have hBw : B < wc.heap.size := Nat.lt_of_lt_of_le hBl hbc.size
    have hBw2 : B + 1 < wc.heap.size := Nat.lt_of_lt_of_le hBl2 hbc.size
    have hp1 : (p : Int) < 6 := by omega
    have hq1 : (q : Int) < 6 := by omega
    have s1 : (tx1 p q d1 d2 d3).size ≤ 1000 := by have := sz1 p q d1 d2 d3; rw [size_app] at this; omega
    have s2 : (tx2 p q d1 d2 d3).size ≤ 1000 := by have := sz2 p q d1 d2 d3; rw [size_app] at this; omega
    have s3 : (tx3 p q d1 d2 d3).size ≤ 1000 := by have := sz3 p q d1 d2 d3; rw [size_app] at this; omega
    have T1 : Hid (¬ (p = 2 ∧ q = 2) → ∀ w, _) := hid fun h w => where_ok s1 (told1 hp hq hd1 hd2 hd3 h) w
    have T0 : Hid (p = 2 ∧ q = 2 → ∀ w, Calls Try.prog 7 #[.string (tx1 p q d1 d2 d3)] w fun e w' => e = .returned (.tuple #[exV 0 nilP (.slice none 0 0), .bool false]) ∧ Below w.heap.size w w') := hid fun h w => by
      obtain ⟨rfl, rfl⟩ := h
      exact where_no s1 (told1_no hd1 hd2 hd3) w
    have T2 : Hid (rk q ≤ rk p → ∀ w, _) := hid fun h w => where_ok s2 (told2 hp hq hd1 hd2 hd3 h) w
    have T3 : Hid (rk p < rk q → ∀ w, _) := hid fun h w => where_ok s3 (told3 hp hq hd1 hd2 hd3 h) w
    unfold tx1 at T0 T1
    unfold tx2 at T2
    unfold tx3 at T3
    have zx : (vB 97 d1).size ≤ 2 := Nat.le_refl _
    have zy : (vB 98 d2).size ≤ 2 := Nat.le_refl _
    have zz : (vB 99 d3).size ≤ 2 := Nat.le_refl _
    have zp := oB_size p
    have zq := oB_size q
    have HS : Hid _ := hid (sameExpr_all (grp p q (vB 97 d1) (vB 98 d2) (vB 99 d3)))
    generalize grp p q (vB 97 d1) (vB 98 d2) (vB 99 d3) = t at *
    generalize vB 97 d1 = Sx at *
    generalize vB 98 d2 = Sy at *
    generalize vB 99 d3 = Sz at *
    generalize hSp : oB p = Sp at *
    generalize hSq : oB q = Sq at *
    clear s1 s2 s3 hSp hSq cp cq rp rq hBl hBl2 hbW hbc HCV hd1 hd2 hd3 b0 b1 b2 t0 t1 t2 g0 g1 g2
    go_upto_region 7 with fail
    · have H1 : Hid (∀ w, _) := hid fun w => T1.out hN w
      have hbd : Below w.heap.size w wc.drew := hbw.drew
      clear T0 T1
      go_cut [18, 19] (fun v18 v19 w' => ∃ o pp ao n c bb, v18 = .pointer (some ⟨bb, 0, none⟩) ∧ v19 = .bool true ∧ Be w' bb o pp (.slice ao n c) ∧ Hid (Ex (fun _ => True) w' t (exV o pp (.slice ao n c))) ∧ Below wc.heap.size wc w')
      case first =>
        have hcd : Below wc.heap.size wc wc.drew := (Below.refl _ wc).drew
        have hne : B ≠ wc.heap.size := by omega
        go_region_held (fun w' => w'.cell? ⟨B, p, none⟩ = some (.string Sp) ∧ w'.cell? ⟨B, q, none⟩ = some (.string Sq)) (first | go_keep | exact ⟨(World.cell?_of_block (w := z1) (w' := set7 z1 wc.heap.size o1 p1 (.slice a1 n1 c1)) (a := ⟨B, p, none⟩) (set7_heap _ _ _ _ _ hne)).trans cpz, (World.cell?_of_block (w := z1) (w' := set7 z1 wc.heap.size o1 p1 (.slice a1 n1 c1)) (a := ⟨B, q, none⟩) (set7_heap _ _ _ _ _ hne)).trans cqz⟩)
          (first
          | (go_at_call 7; refine Calls.mono (H1.out wc.drew) ?_; rintro e z1 ⟨o1, p1, a1, n1, c1, rfl, hb1, hx1⟩; replace hcd := Below.on hcd hb1; have cpz := cell_later hcd cp'; have cqz := cell_later hcd cq'; have hBz := World.block_lt_of_cell? _ _ cpz; unfold exV)
          | (go_at_call 7; refine Calls.mono (H1.out (wc.alloc (.cells #[.int .i64 0, .int .i64 0, .int .i64 0, .string ⟨#[]⟩, .string ⟨#[]⟩, .string ⟨#[]⟩, .slice none 0 0] 40)).drew) ?_; rintro e z1 ⟨o1, p1, a1, n1, c1, rfl, hb1, hx1⟩; replace hcd := Below.on (bal (Below.refl _ wc) (.cells #[.int .i64 0, .int .i64 0, .int .i64 0, .string ⟨#[]⟩, .string ⟨#[]⟩, .string ⟨#[]⟩, .slice none 0 0] 40)).drew hb1; have y1 : Be z1 wc.heap.size 0 nilP (.slice none 0 0) := Be.later (w := (wc.alloc (.cells #[.int .i64 0, .int .i64 0, .int .i64 0, .string ⟨#[]⟩, .string ⟨#[]⟩, .string ⟨#[]⟩, .slice none 0 0] 40)).drew) ((Be.new wc 0 nilP (.slice none 0 0)).keep rfl) hb1; obtain ⟨i0, i1, i2, i3, i4, i5, i6⟩ := y1.cells; obtain ⟨f0, f1, f2, f3, f4, f5, f6⟩ := y1.free; have cpz := cell_later hcd cp'; have cqz := cell_later hcd cq'; have hBz := World.block_lt_of_cell? _ _ cpz; unfold exV))
        all_goals
          go_wp2_with fail
          go_meet
          first
          | exact ⟨o1, p1, a1, n1, c1, _, rfl, rfl, y1.set o1 p1 (.slice a1 n1 c1), hid ((hx1.set7 (b := wc.heap.size) (by simp) o1 p1 (.slice a1 n1 c1)).mono fun _ _ _ => trivial), set7_below hcd o1 p1 (.slice a1 n1 c1)⟩
          | exact ⟨o1, p1, a1, n1, c1, _, rfl, rfl, Be.new z1 o1 p1 (.slice a1 n1 c1), hid ((hx1.later (bal (Below.refl _ z1) _)).mono fun _ _ _ => trivial), bal hcd _⟩
      case rest =>
        obtain ⟨o1, p1, a1, n1, c1, bb, rfl, rfl, hbe, hex, hbd1⟩ := hcut
        have hbw1 := Below.on hbw hbd1
        have cp1 := cell_later hbd1 cp'
        have cq1 := cell_later hbd1 cq'
        have rp1 := cell_later hbd1 rp'
        have rq1 := cell_later hbd1 rq'
        clear H1 hbd cp' cq' rp' rq' hbd1 hbw hBw hBw2
        have hBd := World.block_lt_of_cell? _ _ cp1
        have hBd2 := World.block_lt_of_cell? _ _ rp1
        go_upto_region 8 with fail
        go_cut [76] (fun v76 w' => v76 = .bool false ∧ w' = wc)
        case first =>
          by_cases h2 : p = 2
          · have e2 : ((q : Int) == 2) = false := by simp; omega
            subst h2
            go_wp2_with fail
            go_meet
            first | exact ⟨rfl, rfl⟩ | exact ⟨rfl, trivial⟩ | exact rfl
          · have e1 : ((p : Int) == 2) = false := by simp; omega
            go_wp2_with fail
            go_meet
            first | exact ⟨rfl, rfl⟩ | exact ⟨rfl, trivial⟩ | exact rfl
        case rest =>
          obtain ⟨rfl, hwe⟩ := hcut
          subst hwe
          go_upto_region 10 with fail
          by_cases hrk : rk p < rk q
          · have H3 : Hid (∀ w, _) := hid fun w => T3.out hrk w
            have grk : decide ((rk p : Int) < (rk q : Int)) = true := by simp; omega
            clear T2 T3
            go_quiet (fail)
            go_wp2_with fail
            go_quiet (fail)
            go_wp2_with fail
            go_quiet (fail)
            go_wp2_with fail
            refine Calls.mono (H3.out _) ?_
            rintro e z1 ⟨o2, p2, a2, n2, c2, rfl, hb2, hx2⟩
            have y1 : Be z1 bb o1 p1 (.slice a1 n1 c1) := hbe.keep (hb2.block bb hbe.lt)
            have e1 : Ex (fun _ => True) z1 t (exV o1 p1 (.slice a1 n1 c1)) := Ex.keep (w := wc) (w' := z1) (fun k _ hk => hb2.block k hk) hex.out
            have e2 : Ex (fun _ => True) z1 t (exV o2 p2 (.slice a2 n2 c2)) := hx2.mono fun _ _ _ => trivial
            have hB1 : Below w.heap.size w z1 := by
              first
              | exact Below.on (below_drewN hbw1 _) hb2
              | exact Below.on (below_drewN (below_drewN hbw1 _) _) hb2
              | exact Below.on (below_drewN (below_drewN (below_drewN hbw1 _) _) _) hb2
            have hlt := y1.lt
            have HC : Hid _ := hid (HS.out (fun _ => True) (fun _ => True) (z1.alloc (.cells #[.int .i64 o2, .int .i64 p2.1, .int .i64 p2.2.1, .string p2.2.2.1, .string p2.2.2.2.1, .string p2.2.2.2.2, .slice a2 n2 c2] 40)) (exV o1 p1 (.slice a1 n1 c1)) (exV o2 p2 (.slice a2 n2 c2)) (e1.later (bal (Below.refl _ _) _)) (e2.later (bal (Below.refl _ _) _)))
            obtain ⟨k0, k1, k2, k3, k4, k5, k6⟩ := y1.cells
            rw [Nat.zero_add] at k1 k2 k3 k4 k5 k6
            unfold exV at HC ⊢
            clear HS hx2 e1 e2 hbe hex hb2 hbw1 y1
            go_wp2_with fail
            refine Calls.mono HC.out ?_
            rintro e z2 ⟨rfl, hb3⟩
            have hB2 := Below.on (bal hB1 _) hb3
            clear HC hb3 hB1
            go_wp2
            go_ret
            exact ⟨rfl, hB2⟩
          · have H2 : Hid (∀ w, _) := hid fun w => T2.out (by omega) w
            have grk : decide ((rk p : Int) < (rk q : Int)) = false := by simp; omega
            clear T2 T3
            go_quiet (fail)
            go_wp2_with fail
            go_quiet (fail)
            go_wp2_with fail
            refine Calls.mono (H2.out _) ?_
            rintro e z1 ⟨o2, p2, a2, n2, c2, rfl, hb2, hx2⟩
            have y1 : Be z1 bb o1 p1 (.slice a1 n1 c1) := hbe.keep (hb2.block bb hbe.lt)
            have e1 : Ex (fun _ => True) z1 t (exV o1 p1 (.slice a1 n1 c1)) := Ex.keep (w := wc) (w' := z1) (fun k _ hk => hb2.block k hk) hex.out
            have e2 : Ex (fun _ => True) z1 t (exV o2 p2 (.slice a2 n2 c2)) := hx2.mono fun _ _ _ => trivial
            have hB1 : Below w.heap.size w z1 := by
              first
              | exact Below.on (below_drewN hbw1 _) hb2
              | exact Below.on (below_drewN (below_drewN hbw1 _) _) hb2
              | exact Below.on (below_drewN (below_drewN (below_drewN hbw1 _) _) _) hb2
            have hlt := y1.lt
            have HC : Hid _ := hid (HS.out (fun _ => True) (fun _ => True) (z1.alloc (.cells #[.int .i64 o2, .int .i64 p2.1, .int .i64 p2.2.1, .string p2.2.2.1, .string p2.2.2.2.1, .string p2.2.2.2.2, .slice a2 n2 c2] 40)) (exV o1 p1 (.slice a1 n1 c1)) (exV o2 p2 (.slice a2 n2 c2)) (e1.later (bal (Below.refl _ _) _)) (e2.later (bal (Below.refl _ _) _)))
            obtain ⟨k0, k1, k2, k3, k4, k5, k6⟩ := y1.cells
            rw [Nat.zero_add] at k1 k2 k3 k4 k5 k6
            unfold exV at HC ⊢
            clear HS hx2 e1 e2 hbe hex hb2 hbw1 y1
            go_wp2_with fail
            refine Calls.mono HC.out ?_
            rintro e z2 ⟨rfl, hb3⟩
            have hB2 := Below.on (bal hB1 _) hb3
            clear HC hb3 hB1
            go_wp2
            go_ret
            exact ⟨rfl, hB2⟩

end Go.Proofs.Ytjlmcnbmhgabpaa
