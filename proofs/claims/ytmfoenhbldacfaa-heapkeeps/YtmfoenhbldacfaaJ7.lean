/- HeapFits. -/
import Derived.Test.YtmfoenhbldacfaaJ6
namespace Go.Proofs.Ytmfoenhbldacfaa
open Go.RowKit
set_option linter.unusedVariables false
set_option linter.unusedSimpArgs false

set_option maxRecDepth 100000 in
theorem findnil_any (id : Int) (w : World) : Calls Try.prog 23 #[.pointer none, .int .u64 id] w fun e w' => e = .returned (.tuple #[.agg #[.int .i64 0, .int .i64 0], .int .i64 1]) ∧ Below w.heap.size w w' := by
  have hb0 : Below w.heap.size w (w.alloc (.cells #[.int .i64 0, .int .i64 0] 57)) := (Below.refl _ _).alloc (Nat.le_refl _) _
  go_enter Try.func23, Try.ntmps23
  go_wp2
  refine bodyPost_ret (v := .tuple #[.agg #[.int .i64 0, .int .i64 0], .int .i64 1]) (by simp [results, Try.results23, go_sem]) rfl ⟨rfl, hb0⟩
set_option maxRecDepth 100000 in
theorem getnil_any (id : Int) (w : World) : Calls Try.prog 15 #[.pointer none, .int .u64 id] w fun e w' => e = .returned (.tuple #[.slice none 0 0, .int .i64 1]) ∧ Below w.heap.size w w' := by
  have HF : Hid _ := findnil_any id w
  go_enter Try.func15, Try.ntmps15
  go_wp2_with fail
  refine Calls.mono HF.out ?_
  rintro e w1 ⟨rfl, hb1⟩
  have hb2 : Below w.heap.size w (w1.alloc (.cells #[.int .i64 0, .int .i64 0] 57)) := hb1.alloc hb1.size _
  go_wp2
  go_ret2
  exact ⟨rfl, hb2⟩
set_option maxRecDepth 100000 in
theorem putnil_any (id : Int) (v : Value) (w : World) : Calls Try.prog 9 #[.pointer none, .int .u64 id, v] w fun e w' => e = .returned (.int .i64 1) ∧ w' = w := by
  go_enter Try.func9, Try.ntmps9
  go_wp2
  go_ret
  exact ⟨rfl, rfl⟩
set_option maxRecDepth 100000 in
theorem dropnil_any (id : Int) (w : World) : Calls Try.prog 12 #[.pointer none, .int .u64 id] w fun e w' => e = .returned (.int .i64 1) ∧ Below w.heap.size w w' := by
  have HF : Hid _ := findnil_any id w
  go_enter Try.func12, Try.ntmps12
  go_wp2_with fail
  refine Calls.mono HF.out ?_
  rintro e w1 ⟨rfl, hb1⟩
  have hb2 : Below w.heap.size w (w1.alloc (.cells #[.int .i64 0, .int .i64 0] 57)) := hb1.alloc hb1.size _
  go_wp2
  go_ret
  exact ⟨rfl, hb2⟩
set_option maxRecDepth 100000 in
theorem idsnil_any (w : World) : Calls Try.prog 18 #[.pointer none] w fun e w' => e = .returned (.slice none 0 0) ∧ w' = w := by
  go_enter Try.func18, Try.ntmps18
  go_wp2
  go_ret
  exact ⟨rfl, rfl⟩
set_option maxRecDepth 100000 in
theorem lennil_any (w : World) : Calls Try.prog 16 #[.pointer none] w fun e w' => e = .returned (.int .i64 0) ∧ w' = w := by
  go_enter Try.func16, Try.ntmps16
  go_wp2
  go_ret
  exact ⟨rfl, rfl⟩
set_option maxRecDepth 100000 in
theorem pagesnil_any (w : World) : Calls Try.prog 17 #[.pointer none] w fun e w' => e = .returned (.int .i64 0) ∧ w' = w := by
  go_enter Try.func17, Try.ntmps17
  go_wp2
  go_ret
  exact ⟨rfl, rfl⟩
set_option maxRecDepth 100000 in
theorem copynil_any (w : World) : Calls Try.prog 13 #[.pointer none] w fun e w' => e = .returned (.pointer none) ∧ w' = w := by
  go_enter Try.func13, Try.ntmps13
  go_wp2
  go_ret
  exact ⟨rfl, rfl⟩

theorem info8 : (Try.prog.info? 5).map (fun i => (i.zero, i.size, i.bytes)) = some (some (.int .u8 0), 1, 1) := by kernel_rfl
/-- Zeros, as cells. -/
def zcs (k : Nat) : Array Value := ((List.replicate k (0 : Int)).map (Value.int .u8)).toArray
theorem mkb_any (k : Nat) (h : k ≤ 100000) (w : World) : (Instr.makeSlice 31 (.int .i64 (k : Int)) (.int .i64 (k : Int))).run Try.prog w = .ok (.slice (some ⟨w.heap.size, 0, none⟩) k k) (w.alloc (.cells (zcs k) 5)) := by
  obtain ⟨i, hi, hz, hs, hb⟩ := info_parts info8
  have hr := run_make (P := Try.prog) w 31 5 i (.int .u8 0) Try.underlying31 hi hz .i64 .i64 (k : Int) (k : Int) (by omega) (by omega) (by rw [hb]; omega) (by omega)
  rw [hr, hs]
  have e : madeCells (Value.int .u8 0).cells ((k : Int).toNat * 1) = zcs k := by
    rw [show (Value.int .u8 0).cells = #[Value.int .u8 0] from rfl, zcs]
    apply Array.ext
    · simp [madeCells]
    · intro j h1 h2
      simp [madeCells, Nat.mod_one]
  rw [e]
  simp

/-- The first i numbers have k zeros each. -/
def zM (k i : Nat) : Int → Option (List Int) := fun j => if 0 ≤ j ∧ j < (i : Int) then some (List.replicate k 0) else none
theorem zM_succ (k i : Nat) : (fun j => if j = (i : Int) then some (List.replicate k 0) else zM k i j) = zM k (i + 1) := by
  funext j
  unfold zM
  by_cases h : j = (i : Int)
  · rw [if_pos h, if_pos (by omega)]
  · rw [if_neg h]
    by_cases h2 : 0 ≤ j ∧ j < (i : Int)
    · rw [if_pos h2, if_pos (by omega)]
    · rw [if_neg h2, if_neg (by omega)]
theorem zM_self (k i : Nat) : zM k i (i : Int) = none := by unfold zM; rw [if_neg (by omega)]
theorem zM_zero (k : Nat) : zM k 0 = fun _ => none := by
  funext j
  unfold zM
  rw [if_neg (by omega)]

set_option maxRecDepth 100000 in
set_option maxHeartbeats 4000000 in
theorem heapFits_any (n s : Nat) (hn : n ≤ 255) (hs : s ≤ 255) (w : World) :
    Calls Try.prog 4 #[.int .u8 (n : Int), .int .u8 (s : Int)] w fun e w' => e = .returned (.bool true) ∧ Below w.heap.size w w' := by
  have HB : Hid _ := begun14_any w
  have HN : Hid (∀ w1, Below w.heap.size w w1 → _) := fun w1 k => hnew_any w1 w.heap.size k.size
  go_enter Try.func4, Try.ntmps4
  go_wp2_with fail
  refine Calls.mono HB.out ?_
  rintro e w1 ⟨rfl, hb1⟩
  have K1 : Hid _ := HN.out w1 hb1
  clear HB HN
  go_wp2_with fail
  refine Calls.mono K1.out ?_
  rintro e w2 ⟨hb, rfl, hA2, hb2⟩
  have hB2 : Below w.heap.size w w2 := bthen hb1 hb2
  clear K1 hb1 hb2
  have HP : Hid (∀ (j k : Nat) w1, j ≤ 255 → 1 ≤ k → k ≤ 100 → HA w.heap.size w1 hb (zM k j) j j → Calls Try.prog 9 #[.pointer (some ⟨hb, 0, none⟩), .int .u64 (j : Int), .slice (some ⟨w1.heap.size, 0, none⟩) k k] (w1.alloc (.cells (zcs k) 5)) fun e w' => e = .returned (.int .i64 0) ∧ HA w.heap.size w' hb (zM k (j + 1)) (j + 1) (j + 1) ∧ Ft w.heap.size noX w1 w') := fun j k w1 h1 h2 h3 h4 => by
    have := put_new h4 (j : Int) (List.replicate k 0) (fun x hx => by rw [List.eq_of_mem_replicate hx]; omega) (by intro e; have := congrArg List.length e; simp at this; omega) (by simp; omega) (by omega) (by omega)
    rw [zM_succ, if_pos (zM_self k j), List.length_replicate] at this
    exact this
  go_wp2_with fail
  obtain ⟨k, hk, hk1, hk2⟩ : ∃ k : Nat, (1 + (s : Int) % 100) = (k : Int) ∧ 1 ≤ k ∧ k ≤ 100 := ⟨1 + s % 100, by omega, by omega, by omega⟩
  rw [hk]
  have hA0 : HA w.heap.size w2 hb (zM k 0) 0 0 := by rw [zM_zero]; exact hA2
  replace hk : Hid _ := hk
  clear hA2
  go_loopw [7] (fun i wr => ∃ j : Nat, j ≤ n ∧ i = .int .i64 (j : Int) ∧ HA w.heap.size wr hb (zM k j) j j ∧ Below w.heap.size w wr) (fun i _ => n - (intOf i).toNat)
  case atStart => exact ⟨0, Nat.zero_le _, rfl, hA0, hB2⟩
  case round =>
    obtain ⟨j, hj, rfl, hA, hB⟩ := hrel
    clear hA0 hB2
    by_cases hlt : j < n
    · have g1 : decide ((j : Int) < (n : Int)) = true := by simpa using hlt
      have K2 : Hid _ := HP.out j k wr (by omega) hk1 hk2 hA
      have HMK := mkb_any k (by omega)
      clear hA
      go_wp2_with fail
      refine Calls.mono K2.out ?_
      rintro e w4 ⟨rfl, hA4, hf4⟩
      have hB4 : Below w.heap.size w w4 := Ft.below hB hf4 hB.size
      clear K2 hf4
      go_wp2
      go_roundw
      case rel => exact ⟨j + 1, hlt, by go_num, hA4, hB4⟩
      case measure => simp [intOf]; omega
    · obtain rfl : j = n := by omega
      have g1 : decide ((j : Int) < (j : Int)) = false := by simp
      have G1 : Hid (∀ w1, _) := fun w1 => getnil_any 1 w1
      clear HP
      go_wp2_with fail
      refine Calls.mono (G1.out _) ?_
      rintro e w4 ⟨rfl, hb4⟩
      clear G1
      have hA4 := hA.later hb4
      have hB4 : Below w.heap.size w w4 := bthen hB hb4
      have hb5 : Below w4.heap.size w4 (w4.alloc (.cells #[.map none, .map none, .slice none 0 0, .int .i64 0] 46)) := (Below.refl _ _).alloc (Nat.le_refl _) _
      have hZ := hnew_ha w4 w4.heap.size (Nat.le_refl _)
      have hA5 := hA4.later hb5
      have hB5 : Below w.heap.size w (w4.alloc (.cells #[.map none, .map none, .slice none 0 0, .int .i64 0] 46)) := bthen hB4 hb5
      generalize hV : (w4.alloc (.cells #[.map none, .map none, .slice none 0 0, .int .i64 0] 46)) = V at *
      have KL : Hid _ := hlen_any hA5
      have KP : Hid _ := hpages_any hA5
      obtain ⟨zb, hzb⟩ : ∃ z, w4.heap.size = z := ⟨_, rfl⟩
      rw [hzb] at hZ
      have hzV : zb ≤ V.heap.size := hZ.bw
      have hwz : w.heap.size ≤ zb := by rw [← hzb]; exact hB4.size
      have HPZ : Hid (∀ w1, HA zb w1 zb (fun _ => none) 0 0 → Calls Try.prog 9 #[.pointer (some ⟨zb, 0, none⟩), .int .u64 1, .slice (some ⟨w1.heap.size, 0, none⟩) 1 1] (w1.alloc (.cells #[.int .u8 1] 5)) fun e w' => e = .returned (.int .i64 0) ∧ HA zb w' zb (fun j => if j = 1 then some [1] else none) 1 1 ∧ Ft zb noX w1 w') := fun w1 k => put_new k 1 [1] (fun x hx => by simp at hx; omega) (by simp) (by decide) (by omega) (by omega)
      have P1 : Hid (∀ v w1, _) := fun v w1 => putnil_any 1 v w1
      have P2 : Hid (∀ w1, _) := fun w1 => dropnil_any 1 w1
      have P3 : Hid (∀ w1, _) := fun w1 => idsnil_any w1
      have P4 : Hid (∀ w1, _) := fun w1 => lennil_any w1
      have P5 : Hid (∀ w1, _) := fun w1 => pagesnil_any w1
      have P6 : Hid (∀ w1, _) := fun w1 => copynil_any w1
      have g2 : ((j : Int) == (j : Int)) = true := by simp
      clear hA hA4 hA5 hb4 hb5 hB hB4
      go_wp2_with fail

      refine Calls.mono KL.out ?_
      rintro e x ⟨rfl, hx⟩
      rw [hx]
      clear hx x
      clear KL hV
      go_wp2_with fail
      refine Calls.mono KP.out ?_
      rintro e x ⟨⟨p, rfl, hp⟩, hx⟩
      rw [hx]
      clear hx x
      have g3 : decide ((p : Int) ≤ (j : Int) + 1) = true := by simp; omega
      clear KP
      go_wp2_with fail
      refine Calls.mono (P1.out _ _) ?_
      rintro e x ⟨rfl, hx⟩
      rw [hx]
      clear hx x
      have hV1 : Below V.heap.size V (V.alloc (.cells #[.int .u8 1] 5)) := (Below.refl _ _).alloc (Nat.le_refl _) _
      go_wp2_with fail
      refine Calls.mono (P2.out _) ?_
      rintro e w5 ⟨rfl, hb5⟩
      have hVb := bthen hV1 hb5
      have hZ5 := hZ.later hVb
      have hB6 : Below w.heap.size w w5 := bthen hB5 hVb
      have KZ : Hid _ := HPZ.out w5 hZ5
      clear hV1 hb5 hVb hZ hB5 HPZ P1 P2
      go_wp2_with fail
      refine Calls.mono (P3.out _) ?_
      rintro e x ⟨rfl, hx⟩
      rw [hx]
      clear hx x
      go_wp2_with fail
      refine Calls.mono (P4.out _) ?_
      rintro e x ⟨rfl, hx⟩
      rw [hx]
      clear hx x
      go_wp2_with fail
      refine Calls.mono (P5.out _) ?_
      rintro e x ⟨rfl, hx⟩
      rw [hx]
      clear hx x
      go_wp2_with fail
      refine Calls.mono (P6.out _) ?_
      rintro e x ⟨rfl, hx⟩
      rw [hx]
      clear hx x
      clear P3 P4 P5 P6
      go_wp2_with fail
      refine Calls.mono KZ.out ?_
      rintro e w6 ⟨rfl, hZ6, hf6⟩
      have hB7 : Below w.heap.size w w6 := by
        have hz5 := hZ5.bw
        exact hB6.trans ((Ft.below (Below.refl zb _) hf6 hz5).mono hwz)
      have KZL : Hid _ := hlen_any hZ6
      clear KZ hZ6 hf6 hZ5 hB6
      go_wp2_with fail
      refine Calls.mono KZL.out ?_
      rintro e x ⟨rfl, hx⟩
      rw [hx]
      clear hx x
      clear KZL
      go_wp2
      go_ret
      exact ⟨rfl, hB7⟩

end Go.Proofs.Ytmfoenhbldacfaa
