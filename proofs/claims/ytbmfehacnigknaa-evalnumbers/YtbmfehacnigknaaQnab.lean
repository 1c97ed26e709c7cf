import Derived.Test.YtbmfehacnigknaaQnaa
import Derived.LoopN
import Derived.BigRegion
import Derived.Deep.RegionHeld3
import Derived.Deep.AppendSrc
import Derived.Lib.Bytealg
import Derived.Shelf.LaysM
import Derived.Shelf.Strconv.Clone
import Derived.Deep.Trees
import Derived.Maps.AppendAt
import Derived.Deep.RegionLaw
namespace Go.Proofs.Ytbmfehacnigknaa
open Go.RowKit
set_option linter.unusedVariables false
/-- The first that is not 0. -/
def orI (a b : Int) : Int := if a = 0 then b else a
def cmpV (k n : Int) (l : List Int) (k' n' : Int) (l' : List Int) : Int := orI (cmpI k k') (orI (cmpI n n') (lexI l l'))
theorem lexI_zero : ∀ {A B : List Int}, lexI A B = 0 → A = B
  | [], [], _ => rfl
  | [], _ :: _, h => by simp [lexI] at h
  | _ :: _, [], h => by simp [lexI] at h
  | x :: xs, y :: ys, h => by
    rcases (by omega : x < y ∨ x = y ∨ y < x) with k | k | k
    · rw [lexI_lt _ _ k] at h; omega
    · subst k; rw [lexI_eq] at h; rw [lexI_zero h]
    · rw [lexI_gt _ _ k] at h; omega
set_option maxHeartbeats 1000000 in
theorem text_any (s t : ByteArray) (w : World) (hs : s.size ≤ 9223372036854775807) (ht : t.size ≤ 9223372036854775807) :
    Calls Try.prog 55 #[.string s, .string t] w fun e w' => e = .returned (.int .i64 (lexI (nums s) (nums t))) ∧ Below w.heap.size w w' := by
  have hls := nums_len s
  have hlt' := nums_len t
  go_enter Try.func55, Try.ntmps55
  go_wp2
  go_loopw [5] (fun i wr => ∃ k : Nat, k ≤ s.size ∧ k ≤ t.size ∧ i = .int .i64 k ∧ Below w.heap.size w wr ∧ Hid (lexI (nums s) (nums t) = lexI ((nums s).drop k) ((nums t).drop k))) (fun i _ => s.size - (intOf i).toNat)
  case atStart => exact ⟨0, by omega, by omega, rfl, Below.refl _ _, rfl⟩
  case round =>
    obtain ⟨k, hk, hk2, rfl, hB, HE⟩ := hrel
    by_cases h1 : k < s.size
    · by_cases h2 : k < t.size
      · have HX : Hid (lexI (nums s) (nums t) = lexI (((s[k].toNat : Int)) :: (nums s).drop (k + 1)) ((t[k].toNat : Int) :: (nums t).drop (k + 1))) := by
          rw [← nums_nth s k h1, ← nums_nth t k h2, ← drop_nth (by omega), ← drop_nth (by omega)]; exact HE
        clear HE hls hlt'
        rcases (by omega : (s[k].toNat : Int) < (t[k].toNat : Int) ∨ (s[k].toNat : Int) = (t[k].toNat : Int) ∨ (t[k].toNat : Int) < (s[k].toNat : Int)) with h | h | h
        · go_wp2
          go_quiet (fail)
          go_wp2
          go_ret
          exact ⟨ret_int (by rw [HX.out, lexI_lt _ _ h]), below_drewN hB _⟩
        · have HX2 : Hid (lexI (nums s) (nums t) = lexI ((nums s).drop (k + 1)) ((nums t).drop (k + 1))) := by
            have e := HX.out
            rw [h, lexI_eq] at e
            exact e
          have n1 : ¬ (s[k].toNat : Int) < (t[k].toNat : Int) := by omega
          have n2 : ¬ (t[k].toNat : Int) < (s[k].toNat : Int) := by omega
          clear HX h
          go_wp2
          go_quiet (fail)
          go_wp2
          go_quiet (fail)
          go_wp2
          go_roundw
          case rel => exact ⟨k + 1, by omega, by omega, by go_num, by first | exact below_drewN hB _ | exact below_drewN (below_drewN hB _) _, HX2⟩
          case measure => simp only [intOf]; omega
        · go_wp2
          go_quiet (fail)
          go_wp2
          go_quiet (fail)
          go_wp2
          go_ret
          exact ⟨ret_int (by rw [HX.out, lexI_gt _ _ h]), by first | exact below_drewN hB _ | exact below_drewN (below_drewN hB _) _⟩
      · go_wp2
        go_ret
        exact ⟨ret_int (by rw [HE.out, drop_nth (by omega : k < (nums s).length), List.drop_eq_nil_of_le (by omega : (nums t).length ≤ k)]; rfl), hB⟩
    · by_cases h2 : k < t.size
      · go_wp2
        go_ret
        exact ⟨ret_int (by rw [HE.out, drop_nth (by omega : k < (nums t).length), List.drop_eq_nil_of_le (by omega : (nums s).length ≤ k)]; rfl), hB⟩
      · go_wp2
        go_ret
        exact ⟨ret_int (by rw [HE.out, List.drop_eq_nil_of_le (by omega : (nums t).length ≤ k), List.drop_eq_nil_of_le (by omega : (nums s).length ≤ k)]; rfl), hB⟩
set_option maxRecDepth 100000 in
theorem orderInt_any (a b : Int) (w : World) : Calls Try.prog 72 #[.int .i64 a, .int .i64 b] w fun e w' => e = .returned (.int .i64 (cmpI a b)) ∧ w' = w := by
  rcases (by omega : a < b ∨ a = b ∨ b < a) with h | h | h
  · rw [cmpI_lt h]
    have h1 : decide (a < b) = true := by simpa using h
    go_enter Try.func72, Try.ntmps72
    go_wp2
    go_ret
    exact ⟨rfl, rfl⟩
  · subst h
    rw [cmpI_eq]
    go_enter Try.func72, Try.ntmps72
    go_wp2
    go_ret
    exact ⟨rfl, rfl⟩
  · rw [cmpI_gt h]
    have h1 : decide (a < b) = false := by simp; omega
    have h2 : decide (b < a) = true := by simpa using h
    go_enter Try.func72, Try.ntmps72
    go_wp2
    go_ret
    exact ⟨rfl, rfl⟩
set_option maxRecDepth 100000 in
theorem orderInt64_any (a b : Int) (w : World) : Calls Try.prog 73 #[.int .i64 a, .int .i64 b] w fun e w' => e = .returned (.int .i64 (cmpI a b)) ∧ w' = w := by
  rcases (by omega : a < b ∨ a = b ∨ b < a) with h | h | h
  · rw [cmpI_lt h]
    have h1 : decide (a < b) = true := by simpa using h
    go_enter Try.func73, Try.ntmps73
    go_wp2
    go_ret
    exact ⟨rfl, rfl⟩
  · subst h
    rw [cmpI_eq]
    go_enter Try.func73, Try.ntmps73
    go_wp2
    go_ret
    exact ⟨rfl, rfl⟩
  · rw [cmpI_gt h]
    have h1 : decide (a < b) = false := by simp; omega
    have h2 : decide (b < a) = true := by simpa using h
    go_enter Try.func73, Try.ntmps73
    go_wp2
    go_ret
    exact ⟨rfl, rfl⟩
theorem less_lex : ∀ (a b : List UInt8), Op.bytesLess a b = decide (lexI (a.map fun c => (c.toNat : Int)) (b.map fun c => (c.toNat : Int)) = -1)
  | [], [] => rfl
  | _ :: _, [] => rfl
  | [], _ :: _ => rfl
  | x :: xs, y :: ys => by
    rw [Op.bytesLess, List.map_cons, List.map_cons, less_lex xs ys]
    rcases Nat.lt_trichotomy x.toNat y.toNat with h | h | h
    · rw [lexI_lt _ _ (by omega), decide_eq_true (show x < y from UInt8.lt_iff_toNat_lt.2 h)]; rfl
    · have e : x = y := UInt8.toNat_inj.1 h
      subst e
      rw [lexI_eq]
      simp
    · have n1 : ¬ x < y := fun k => by have := UInt8.lt_iff_toNat_lt.1 k; omega
      have n2 : (x == y) = false := by
        simp
        intro k
        rw [k] at h
        omega
      rw [lexI_gt _ _ (by omega), decide_eq_false n1, n2]
      rfl
theorem less_nums (s t : ByteArray) : Op.bytesLess s.toList t.toList = decide (lexI (nums s) (nums t) = -1) := by
  rw [less_lex, ByteArray.toList_eq, ByteArray.toList_eq]; rfl
theorem map_inj8 : ∀ {a b : List UInt8}, (a.map fun c => (c.toNat : Int)) = (b.map fun c => (c.toNat : Int)) → a = b
  | [], [], _ => rfl
  | [], _ :: _, h => by simp at h
  | _ :: _, [], h => by simp at h
  | x :: xs, y :: ys, h => by
    rw [List.map_cons, List.map_cons, List.cons.injEq] at h
    rw [map_inj8 h.2, UInt8.toNat_inj.1 (by omega : x.toNat = y.toNat)]
theorem nums_inj {s t : ByteArray} (h : nums s = nums t) : s = t := ByteArray.ext (Array.toList_inj.1 (map_inj8 h))
theorem same_nums (s t : ByteArray) : (s.toList == t.toList) = decide (lexI (nums s) (nums t) = 0) := by
  rw [Bool.eq_iff_iff]
  simp only [beq_iff_eq, decide_eq_true_eq]
  constructor
  · intro h
    rw [ByteArray.toList_eq, ByteArray.toList_eq] at h
    rw [nums, nums, h, lexI_self]
  · intro h
    rw [nums_inj (lexI_zero h)]
set_option maxRecDepth 100000 in
theorem orderText_any (s t : ByteArray) (w : World) : Calls Try.prog 74 #[.string s, .string t] w fun e w' => e = .returned (.int .i64 (lexI (nums s) (nums t))) ∧ w' = w := by
  have h1 := less_nums s t
  have h2 := same_nums s t
  rcases lexI_vals (nums s) (nums t) with h | h | h
  · rw [h] at h1 h2 ⊢
    replace h1 : Op.bytesLess s.toList t.toList = true := h1
    clear h h2
    go_enter Try.func74, Try.ntmps74
    go_wp2
    go_ret
    exact ⟨rfl, rfl⟩
  · rw [h] at h1 h2 ⊢
    replace h1 : Op.bytesLess s.toList t.toList = false := h1
    replace h2 : (s.toList == t.toList) = true := h2
    clear h
    go_enter Try.func74, Try.ntmps74
    go_wp2
    go_ret
    exact ⟨rfl, rfl⟩
  · rw [h] at h1 h2 ⊢
    replace h1 : Op.bytesLess s.toList t.toList = false := h1
    replace h2 : (s.toList == t.toList) = false := h2
    clear h
    go_enter Try.func74, Try.ntmps74
    go_wp2
    go_ret
    exact ⟨rfl, rfl⟩
set_option maxRecDepth 100000 in
theorem orThree_any (a b c : Int) (g : Nat) (w : World) (h0 : w.cell? ⟨g, 0, none⟩ = some (.int .i64 a)) (h1 : w.cell? ⟨g, 1, none⟩ = some (.int .i64 b)) (h2 : w.cell? ⟨g, 2, none⟩ = some (.int .i64 c)) :
    Calls Try.prog 71 #[.slice (some ⟨g, 0, none⟩) 3 3] w fun e w' => e = .returned (.int .i64 (orI a (orI b c))) ∧ w' = w := by
  by_cases ha : a = 0
  · subst ha
    by_cases hb : b = 0
    · subst hb
      rw [show orI 0 (orI 0 c) = c from rfl]
      by_cases hc : c = 0
      · subst hc
        go_enter Try.func71, Try.ntmps71
        go_wp2
        refine wp_loop_rounds 4 ?_
        rw [rounds_succ]
        go_wp2
        rw [rounds_succ]
        go_wp2
        rw [rounds_succ]
        go_wp2
        rw [rounds_succ]
        go_wp2
        go_ret
        exact ⟨rfl, rfl⟩
      · have g1 : (c != 0) = true := by simpa using hc
        go_enter Try.func71, Try.ntmps71
        go_wp2
        refine wp_loop_rounds 3 ?_
        rw [rounds_succ]
        go_wp2
        rw [rounds_succ]
        go_wp2
        rw [rounds_succ]
        go_wp2
        go_ret
        exact ⟨rfl, rfl⟩
    · rw [show orI 0 (orI b c) = b from by simp [orI, hb]]
      have g1 : (b != 0) = true := by simpa using hb
      go_enter Try.func71, Try.ntmps71
      go_wp2
      refine wp_loop_rounds 2 ?_
      rw [rounds_succ]
      go_wp2
      rw [rounds_succ]
      go_wp2
      go_ret
      exact ⟨rfl, rfl⟩
  · rw [show orI a (orI b c) = a from by simp [orI, ha]]
    have g1 : (a != 0) = true := by simpa using ha
    go_enter Try.func71, Try.ntmps71
    go_wp2
    refine wp_loop_rounds 1 ?_
    rw [rounds_succ]
    go_wp2
    go_ret
    exact ⟨rfl, rfl⟩
set_option maxRecDepth 100000 in
set_option maxHeartbeats 1000000 in
theorem compare_any (k n : Int) (s : ByteArray) (k' n' : Int) (s' : ByteArray) (w : World) :
    Calls Try.prog 63 #[.agg #[.int .i64 k, .int .i64 n, .string s], .agg #[.int .i64 k', .int .i64 n', .string s']] w fun e w' => e = .returned (.int .i64 (cmpV k n (nums s) k' n' (nums s'))) ∧ Below w.heap.size w w' := by
  have HI : Hid (∀ w, _) := fun w => orderInt_any k k' w
  have HJ : Hid (∀ w, _) := fun w => orderInt64_any n n' w
  have HT : Hid (∀ w, _) := fun w => orderText_any s s' w
  have HO : Hid (∀ g w h0 h1 h2, _) := fun g w h0 h1 h2 => orThree_any (cmpI k k') (cmpI n n') (lexI (nums s) (nums s')) g w h0 h1 h2
  have HE : Hid (cmpV k n (nums s) k' n' (nums s') = orI (cmpI k k') (orI (cmpI n n') (lexI (nums s) (nums s')))) := rfl
  have hb : Below w.heap.size w ((w.alloc (.cells #[.int .i64 k, .int .i64 n, .string s] 38)).alloc (.cells #[.int .i64 k', .int .i64 n', .string s'] 38)) := ((Below.refl _ _).alloc (Nat.le_refl _) _).alloc (by simp) _
  generalize cmpV k n (nums s) k' n' (nums s') = R at *
  generalize cmpI k k' = A at *
  generalize cmpI n n' = B at *
  generalize lexI (nums s) (nums s') = C at *
  go_enter Try.func63, Try.ntmps63
  go_wp2_with fail
  have c0 : ((w.alloc (.cells #[.int .i64 k, .int .i64 n, .string s] 38)).alloc (.cells #[.int .i64 k', .int .i64 n', .string s'] 38)).cell? ⟨w.heap.size, 0, none⟩ = some (.int .i64 k) := by simp [go_sem]
  have c1 : ((w.alloc (.cells #[.int .i64 k, .int .i64 n, .string s] 38)).alloc (.cells #[.int .i64 k', .int .i64 n', .string s'] 38)).cell? ⟨w.heap.size, 1, none⟩ = some (.int .i64 n) := by simp [go_sem]
  have c2 : ((w.alloc (.cells #[.int .i64 k, .int .i64 n, .string s] 38)).alloc (.cells #[.int .i64 k', .int .i64 n', .string s'] 38)).cell? ⟨w.heap.size, 2, none⟩ = some (.string s) := by simp [go_sem]
  have d0 : ((w.alloc (.cells #[.int .i64 k, .int .i64 n, .string s] 38)).alloc (.cells #[.int .i64 k', .int .i64 n', .string s'] 38)).cell? ⟨w.heap.size + 1, 0, none⟩ = some (.int .i64 k') := by simp [go_sem]
  have d1 : ((w.alloc (.cells #[.int .i64 k, .int .i64 n, .string s] 38)).alloc (.cells #[.int .i64 k', .int .i64 n', .string s'] 38)).cell? ⟨w.heap.size + 1, 1, none⟩ = some (.int .i64 n') := by simp [go_sem]
  have d2 : ((w.alloc (.cells #[.int .i64 k, .int .i64 n, .string s] 38)).alloc (.cells #[.int .i64 k', .int .i64 n', .string s'] 38)).cell? ⟨w.heap.size + 1, 2, none⟩ = some (.string s') := by simp [go_sem]
  have hz : w.heap.size ≤ ((w.alloc (.cells #[.int .i64 k, .int .i64 n, .string s] 38)).alloc (.cells #[.int .i64 k', .int .i64 n', .string s'] 38)).heap.size := hb.size
  generalize (w.alloc (.cells #[.int .i64 k, .int .i64 n, .string s] 38)).alloc (.cells #[.int .i64 k', .int .i64 n', .string s'] 38) = W at *
  go_region_held3 (fun w' => w'.cell? ⟨w.heap.size, 0, none⟩ = some (.int .i64 k) ∧ w'.cell? ⟨w.heap.size, 1, none⟩ = some (.int .i64 n) ∧ w'.cell? ⟨w.heap.size, 2, none⟩ = some (.string s) ∧ w'.cell? ⟨w.heap.size + 1, 0, none⟩ = some (.int .i64 k') ∧ w'.cell? ⟨w.heap.size + 1, 1, none⟩ = some (.int .i64 n') ∧ w'.cell? ⟨w.heap.size + 1, 2, none⟩ = some (.string s')) (go_keep)
    (first
    | (go_at_call 72; refine Calls.mono (HI.out _) ?_; rintro e y1 ⟨rfl, rfl⟩)
    | (go_at_call 73; refine Calls.mono (HJ.out _) ?_; rintro e y2 ⟨rfl, rfl⟩)
    | (go_at_call 74; refine Calls.mono (HT.out _) ?_; rintro e y3 ⟨rfl, rfl⟩)
    | (go_at_call 71; refine Calls.mono (HO.out _ _ (by simp [go_sem]) (by simp [go_sem]) (by simp [go_sem])) ?_; rintro e y4 ⟨rfl, rfl⟩))
  all_goals
    go_wp2
    go_ret
    exact ⟨by rw [HE.out]; rfl, by first | exact (hb.drew.alloc hz _) | exact (hb.alloc hz _).drew⟩
/-- The document's own road. -/
def refC (k n : Int) (l : List Int) (k' n' : Int) (l' : List Int) : Int := if k < k' then -1 else if k' < k then 1 else if k = 1 then cmpI n n' else lexI l l'
set_option maxRecDepth 100000 in
set_option maxHeartbeats 1000000 in
theorem refCompare_any (k n : Int) (s : ByteArray) (k' n' : Int) (s' : ByteArray) (hs : s.size ≤ 9223372036854775807) (hs' : s'.size ≤ 9223372036854775807) (w : World) :
    Calls Try.prog 42 #[.agg #[.int .i64 k, .int .i64 n, .string s], .agg #[.int .i64 k', .int .i64 n', .string s']] w fun e w' => e = .returned (.int .i64 (refC k n (nums s) k' n' (nums s'))) ∧ Below w.heap.size w w' := by
  have HT : Hid (∀ w, _) := fun w => text_any s s' w hs hs'
  have hb : Below w.heap.size w ((w.alloc (.cells #[.int .i64 k, .int .i64 n, .string s] 38)).alloc (.cells #[.int .i64 k', .int .i64 n', .string s'] 38)) := ((Below.refl _ _).alloc (Nat.le_refl _) _).alloc (by simp) _
  clear hs hs'
  rcases (by omega : k < k' ∨ k = k' ∨ k' < k) with h | h | h
  · rw [show refC k n (nums s) k' n' (nums s') = -1 from by rw [refC, if_pos h]]
    have h1 : decide (k < k') = true := by simpa using h
    go_enter Try.func42, Try.ntmps42
    go_wp2
    go_ret
    exact ⟨rfl, hb⟩
  · subst h
    by_cases h1 : k = 1
    · subst h1
      rw [show refC 1 n (nums s) 1 n' (nums s') = cmpI n n' from by rw [refC, if_neg (by omega), if_neg (by omega), if_pos rfl]]
      rcases (by omega : n < n' ∨ n = n' ∨ n' < n) with h | h | h
      · rw [cmpI_lt h]
        have h1 : decide (n < n') = true := by simpa using h
        go_enter Try.func42, Try.ntmps42
        go_wp2
        go_ret
        exact ⟨rfl, hb⟩
      · subst h
        rw [cmpI_eq]
        go_enter Try.func42, Try.ntmps42
        go_wp2
        go_ret
        exact ⟨rfl, hb⟩
      · rw [cmpI_gt h]
        have h1 : decide (n < n') = false := by simp; omega
        have h2 : decide (n' < n) = true := by simpa using h
        go_enter Try.func42, Try.ntmps42
        go_wp2
        go_ret
        exact ⟨rfl, hb⟩
    · rw [show refC k n (nums s) k n' (nums s') = lexI (nums s) (nums s') from by rw [refC, if_neg (by omega), if_neg (by omega), if_neg h1]]
      have g1 : (k == 1) = false := by simpa using h1
      go_enter Try.func42, Try.ntmps42
      go_wp2_with fail
      refine Calls.mono (HT.out _) ?_
      rintro e w1 ⟨rfl, hb1⟩
      clear HT
      have hb2 := hb.trans (hb1.mono hb.size)
      go_wp2
      go_ret
      exact ⟨rfl, hb2⟩
  · rw [show refC k n (nums s) k' n' (nums s') = 1 from by rw [refC, if_neg (by omega), if_pos h]]
    have h1 : decide (k < k') = false := by simp; omega
    have h2 : decide (k' < k) = true := by simpa using h
    go_enter Try.func42, Try.ntmps42
    go_wp2
    go_ret
    exact ⟨rfl, hb⟩

end Go.Proofs.Ytbmfehacnigknaa
namespace Go.Proofs.Ytbmfehacnigknaa
open Go.RowKit
set_option linter.unusedVariables false

end Go.Proofs.Ytbmfehacnigknaa
namespace Go.Proofs.Ytbmfehacnigknaa
open Go.RowKit
set_option linter.unusedVariables false

end Go.Proofs.Ytbmfehacnigknaa
namespace Go.Proofs
open Go.Shelf
def Try.laysM316_ren : Go.Shelf.Ren := ⟨fun | 316 => 40 | n => n, fun | 9 => 9 | 3 => 3 | 4 => 4 | 37 => 22 | 0 => 0 | 127 => 103 | 5 => 5 | n => n, fun | n => n⟩
theorem Try.laysM316 : Go.Proofs.LaysM.n316 Try.prog Try.laysM316_ren := {
  mixed := by kernel_rfl
  f316 := Try.func40.trans (congrArg some (by kernel_rfl))
  t0 := Try.underlying0
  a0 := Try.isAgg0
  z0 := Try.sizeOf0
  v0 := Try.zeroValue0
  t3 := Try.underlying3
  a3 := Try.isAgg3
  z3 := Try.sizeOf3
  v3 := Try.zeroValue3
  t4 := Try.underlying4
  a4 := Try.isAgg4
  z4 := Try.sizeOf4
  v4 := Try.zeroValue4
  t9 := Try.underlying9
  a9 := Try.isAgg9
  z9 := Try.sizeOf9
  v9 := Try.zeroValue9
  t37 := Try.underlying22
  a37 := Try.isAgg22
  z37 := Try.sizeOf22
  v37 := Try.zeroValue22
  t127 := Try.underlying103
  a127 := Try.isAgg103
  z127 := Try.sizeOf103
  v127 := Try.zeroValue103
  t5 := Try.underlying5
  a5 := Try.isAgg5
  z5 := Try.sizeOf5
  v5 := Try.zeroValue5
  i0 := by kernel_rfl
  i3 := by kernel_rfl
  i4 := by kernel_rfl
  i5 := by kernel_rfl
  i9 := by kernel_rfl
  i37 := by kernel_rfl
  i127 := by kernel_rfl }
open Go.RowKit in
/-- internal/stringslite.Clone: the same bytes. -/
theorem Try.stringslite_Clone (s : ByteArray) (w : World) (hlim : s.size ≤ 281474976710656) :
    Calls Try.prog 40 #[.string s] w fun e w' => e = .returned (.string s) ∧ Below w.heap.size w w' := Any.stringslite_Clone Try.laysM316 s w hlim
end Go.Proofs
namespace Go.Proofs.Ytbmfehacnigknaa
open Go.RowKit
set_option linter.unusedVariables false

/-- A step on. -/
theorem Below.on {a w w' : World} (h : Below a.heap.size a w) (k : Below w.heap.size w w') : Below a.heap.size a w' := h.trans (k.mono h.size)
/-- Are two texts the same? -/
def eqS (s t : ByteArray) : Bool := decide (s = t)
theorem same_str (s t : ByteArray) : (s.toList == t.toList) = decide (s = t) := by
  rw [Bool.eq_iff_iff]
  simp only [beq_iff_eq, decide_eq_true_eq]
  constructor
  · intro h
    rw [ByteArray.toList_eq, ByteArray.toList_eq] at h
    exact ByteArray.ext (Array.toList_inj.1 h)
  · intro h; rw [h]
end Go.Proofs.Ytbmfehacnigknaa
namespace Go.Proofs.Ytbmfehacnigknaa
open Go.RowKit
set_option linter.unusedVariables false

theorem clone_any (s : ByteArray) (hs : s.size ≤ 500) (w : World) : Calls Try.prog 27 #[.string s] w fun e w' => e = .returned (.string s) ∧ Below w.heap.size w w' := by
  have H : Hid _ := Try.stringslite_Clone s w (by omega)
  go_enter Try.func27, Try.ntmps27
  go_wp2_with fail
  refine Calls.mono H.out ?_
  rintro e w1 ⟨rfl, hb⟩
  clear H
  go_wp2
  go_ret
  exact ⟨rfl, hb⟩

theorem cell_new (w : World) (arr : Array Value) (e : TypeId) (mk : Nat × Nat) (j : Nat) : (w.alloc (.cells arr e mk)).cell? ⟨w.heap.size, j, none⟩ = arr[j]? := by
  have : (w.alloc (.cells arr e mk)).heap[w.heap.size]? = some (.cells arr e mk) := heap_alloc_new w _
  unfold World.cell?
  rw [this]
  rfl
end Go.Proofs.Ytbmfehacnigknaa
namespace Go.Proofs.Ytbmfehacnigknaa
open Go.RowKit
set_option linter.unusedVariables false

end Go.Proofs.Ytbmfehacnigknaa
namespace Go.Proofs.Ytbmfehacnigknaa
open Go.RowKit
set_option linter.unusedVariables false

end Go.Proofs.Ytbmfehacnigknaa
namespace Go.Proofs.Ytbmfehacnigknaa
open Go.RowKit
set_option linter.unusedVariables false

end Go.Proofs.Ytbmfehacnigknaa
namespace Go.Proofs.Ytbmfehacnigknaa
open Go.RowKit
set_option linter.unusedVariables false

end Go.Proofs.Ytbmfehacnigknaa
namespace Go.Proofs.Ytbmfehacnigknaa
open Go.RowKit
set_option linter.unusedVariables false

end Go.Proofs.Ytbmfehacnigknaa
namespace Go.Proofs.Ytbmfehacnigknaa
open Go.RowKit
set_option linter.unusedVariables false

end Go.Proofs.Ytbmfehacnigknaa
namespace Go.Proofs.Ytbmfehacnigknaa
open Go.RowKit
set_option linter.unusedVariables false

end Go.Proofs.Ytbmfehacnigknaa
namespace Go.Proofs.Ytbmfehacnigknaa
open Go.RowKit
set_option linter.unusedVariables false

end Go.Proofs.Ytbmfehacnigknaa
namespace Go.Proofs.Ytbmfehacnigknaa
open Go.RowKit
set_option linter.unusedVariables false

/-- What a node of an expression has besides its number: Value (Kind, Int, Text), Table, Name. -/
abbrev Pay := Int × Int × ByteArray × ByteArray × ByteArray
/-- An expression: '.node 0 number payload left right'. -/
abbrev Tr := Go.Deep.BT Pay
/-- A fault's place and the fault; or what was read, and the words behind it. -/
abbrev Re (α : Type) := Sum (Int × Int) (α × List Tk)
/-- A fault's place and the fault; or the words that are yet to be read. -/
abbrev Sa := Sum (Int × Int) (List Tk)
end Go.Proofs.Ytbmfehacnigknaa
namespace Go.Proofs.Ytbmfehacnigknaa
open Go.RowKit
set_option linter.unusedVariables false

end Go.Proofs.Ytbmfehacnigknaa
namespace Go.Proofs.Ytbmfehacnigknaa
open Go.RowKit
set_option linter.unusedVariables false

theorem hid {p : Prop} (h : p) : Hid p := h
end Go.Proofs.Ytbmfehacnigknaa
namespace Go.Proofs.Ytbmfehacnigknaa
open Go.RowKit
set_option linter.unusedVariables false

end Go.Proofs.Ytbmfehacnigknaa
namespace Go.Proofs.Ytbmfehacnigknaa
open Go.RowKit
set_option linter.unusedVariables false

/-- The seven cells of an expression from place o on in block b. -/
def Ce (w : World) (b o : Nat) (op : Int) (p : Pay) (sl : Value) : Prop :=
  w.cell? ⟨b, o, none⟩ = some (.int .i64 op) ∧ w.cell? ⟨b, o + 1, none⟩ = some (.int .i64 p.1) ∧ w.cell? ⟨b, o + 2, none⟩ = some (.int .i64 p.2.1) ∧ w.cell? ⟨b, o + 3, none⟩ = some (.string p.2.2.1) ∧ w.cell? ⟨b, o + 4, none⟩ = some (.string p.2.2.2.1) ∧ w.cell? ⟨b, o + 5, none⟩ = some (.string p.2.2.2.2) ∧ w.cell? ⟨b, o + 6, none⟩ = some sl
theorem Ce.keep {w w' : World} {b o : Nat} {op : Int} {p : Pay} {sl : Value} (h : Ce w b o op p sl) (hk : w'.heap[b]? = w.heap[b]?) : Ce w' b o op p sl := by
  obtain ⟨h0, h1, h2, h3, h4, h5, h6⟩ := h
  exact ⟨(World.cell?_of_block (a := ⟨b, _, none⟩) hk).trans h0, (World.cell?_of_block (a := ⟨b, _, none⟩) hk).trans h1, (World.cell?_of_block (a := ⟨b, _, none⟩) hk).trans h2, (World.cell?_of_block (a := ⟨b, _, none⟩) hk).trans h3, (World.cell?_of_block (a := ⟨b, _, none⟩) hk).trans h4, (World.cell?_of_block (a := ⟨b, _, none⟩) hk).trans h5, (World.cell?_of_block (a := ⟨b, _, none⟩) hk).trans h6⟩
theorem Ce.lt {w : World} {b o : Nat} {op : Int} {p : Pay} {sl : Value} (h : Ce w b o op p sl) : b < w.heap.size := World.block_lt_of_cell? _ _ h.1
theorem bal {a w : World} (h : Below a.heap.size a w) (o : Obj) : Below a.heap.size a (w.alloc o) := h.alloc h.size o

abbrev zE : Obj := .cells #[.int .i64 0, .int .i64 0, .int .i64 0, .string ⟨#[]⟩, .string ⟨#[]⟩, .string ⟨#[]⟩, .slice none 0 0] 41

end Go.Proofs.Ytbmfehacnigknaa
namespace Go.Proofs.Ytbmfehacnigknaa
open Go.RowKit
set_option linter.unusedVariables false

end Go.Proofs.Ytbmfehacnigknaa
namespace Go.Proofs.Ytbmfehacnigknaa
open Go.RowKit
set_option linter.unusedVariables false

end Go.Proofs.Ytbmfehacnigknaa
namespace Go.Proofs.Ytbmfehacnigknaa
open Go.RowKit
set_option linter.unusedVariables false

end Go.Proofs.Ytbmfehacnigknaa
namespace Go.Proofs.Ytbmfehacnigknaa
open Go.RowKit
set_option linter.unusedVariables false

end Go.Proofs.Ytbmfehacnigknaa
namespace Go.Proofs.Ytbmfehacnigknaa
open Go.RowKit
set_option linter.unusedVariables false

end Go.Proofs.Ytbmfehacnigknaa
namespace Go.Proofs.Ytbmfehacnigknaa
open Go.RowKit
set_option linter.unusedVariables false

end Go.Proofs.Ytbmfehacnigknaa
namespace Go.Proofs.Ytbmfehacnigknaa
open Go.RowKit
set_option linter.unusedVariables false

/-- A kind of thing in memory: how many cells, and when they are it. -/
structure Ek (α : Type) where
  k : Nat
  E : (Nat → Prop) → World → α → List Value → Prop
  keep : ∀ {Q : Nat → Prop} {w w' : World} {t : α} {cs : List Value}, (∀ b, Q b → b < w.heap.size → w'.heap[b]? = w.heap[b]?) → E Q w t cs → E Q w' t cs
  mono : ∀ {Q Q' : Nat → Prop} {w : World} {t : α} {cs : List Value}, (∀ b, Q b → b < w.heap.size → Q' b) → E Q w t cs → E Q' w t cs
abbrev Co := ByteArray × Int × ByteArray
abbrev It := Int × ByteArray × ByteArray
def eItem : Ek It := ⟨3, fun _ _ c cs => cs = [.int .i64 c.1, .string c.2.1, .string c.2.2], fun _ h => h, fun _ h => h⟩
def exC (o : Int) (p : Pay) (sl : Value) : List Value := [.int .i64 o, .int .i64 p.1, .int .i64 p.2.1, .string p.2.2.1, .string p.2.2.2.1, .string p.2.2.2.2, sl]
/-- The value is a slice that reads as the list; its rows lie in blocks that Q lets. -/
def RowIs {α : Type} (e : Ek α) (Q : Nat → Prop) (w : World) (v : Value) (l : List α) : Prop :=
  ∃ ao n c, v = .slice ao n c ∧ l.length = n ∧ n ≤ c ∧ c ≤ 9223372036854775807 ∧ (0 < n → ∃ b o, ao = some ⟨b, o, none⟩ ∧ Q b ∧ ∀ i (h : i < l.length), ∃ cs, e.E Q w l[i] cs ∧ cs.length = e.k ∧ ∀ j (hj : j < cs.length), w.cell? ⟨b, o + i * e.k + j, none⟩ = some cs[j])
theorem RowIs.nil {α : Type} (e : Ek α) (Q : Nat → Prop) (w : World) : RowIs e Q w (.slice none 0 0) [] := ⟨none, 0, 0, rfl, rfl, Nat.le_refl _, by omega, fun h => absurd h (Nat.lt_irrefl _)⟩
theorem RowIs.keep {α : Type} {e : Ek α} (he : 0 < e.k) {Q : Nat → Prop} {w w' : World} {v : Value} {l : List α} (hk : ∀ b, Q b → b < w.heap.size → w'.heap[b]? = w.heap[b]?) (h : RowIs e Q w v l) : RowIs e Q w' v l := by
  obtain ⟨ao, n, c, hv, hl, hn, hc, hx⟩ := h
  refine ⟨ao, n, c, hv, hl, hn, hc, fun hp => ?_⟩
  obtain ⟨b, o, ha, hq, hi⟩ := hx hp
  refine ⟨b, o, ha, hq, fun i h => ?_⟩
  obtain ⟨cs, h1, h2, h3⟩ := hi i h
  have hb : b < w.heap.size := World.block_lt_of_cell? _ _ (h3 0 (by omega))
  exact ⟨cs, e.keep hk h1, h2, fun j hj => (World.cell?_of_block (a := ⟨b, _, none⟩) (hk b hq hb)).trans (h3 j hj)⟩
theorem RowIs.mono {α : Type} {e : Ek α} (he : 0 < e.k) {Q Q' : Nat → Prop} {w : World} {v : Value} {l : List α} (hk : ∀ b, Q b → b < w.heap.size → Q' b) (h : RowIs e Q w v l) : RowIs e Q' w v l := by
  obtain ⟨ao, n, c, hv, hl, hn, hc, hx⟩ := h
  refine ⟨ao, n, c, hv, hl, hn, hc, fun hp => ?_⟩
  obtain ⟨b, o, ha, hq, hi⟩ := hx hp
  have hb : b < w.heap.size := by
    obtain ⟨cs, h1, h2, h3⟩ := hi 0 (by omega)
    exact World.block_lt_of_cell? _ _ (h3 0 (by omega))
  exact ⟨b, o, ha, hk b hq hb, fun i h => by
    obtain ⟨cs, h1, h2, h3⟩ := hi i h
    exact ⟨cs, e.mono hk h1, h2, h3⟩⟩

/-- A row of the call's own, thing by thing. -/
def OwnR (ty k B : Nat) (w : World) (v : Value) (css : List (List Value)) : Prop := (∀ cs ∈ css, cs.length = k) ∧ w.ownsRow B ty k v css.length css.flatten
theorem flat_at {k : Nat} : ∀ {css : List (List Value)}, (∀ cs ∈ css, cs.length = k) → ∀ {i j : Nat} (hi : i < css.length) (hj : j < k), css.flatten[i * k + j]? = (css[i])[j]? := by
  intro css
  induction css with
  | nil => intro _ i j hi; simp at hi
  | cons c l ih =>
    intro h i j hi hj
    have hc := h c (by simp)
    cases i with
    | zero => rw [List.flatten_cons, List.getElem?_append_left (by omega)]; simp
    | succ i =>
      rw [List.flatten_cons, List.getElem?_append_right (by rw [hc, Nat.succ_mul]; omega), show (i + 1) * k + j - c.length = i * k + j from by rw [hc, Nat.succ_mul]; omega]
      exact ih (fun x hx => h x (by simp [hx])) (by simpa using hi) hj
theorem OwnR.row {α : Type} {e : Ek α} {ty B : Nat} {w : World} {v : Value} {css : List (List Value)} {l : List α} {Q : Nat → Prop} (h : OwnR ty e.k B w v css) (hl : l.length = css.length) (hn : css ≠ []) (hq : ∀ b, B ≤ b → b < w.heap.size → Q b)
    (hE : ∀ i (h1 : i < l.length) (h2 : i < css.length), e.E Q w l[i] css[i]) : RowIs e Q w v l := by
  rcases h.2.2 with ⟨rfl, h0⟩ | ⟨g, cap, cur, rfl, hb, hg, hnc, hc, hs, ht⟩
  · exact absurd (List.eq_nil_of_length_eq_zero h0) hn
  · have hgl : g < w.heap.size := (Array.getElem?_eq_some_iff.1 hg).1
    refine ⟨_, css.length, cap, rfl, hl, hnc, by simpa [maxLen] using hc, fun hp => ⟨g, 0, rfl, hq g hb hgl, fun i hi => ⟨css[i]'(by omega), hE i hi (by omega), h.1 _ (List.getElem_mem _), fun j hj => ?_⟩⟩⟩
    have hk := h.1 _ (List.getElem_mem (l := css) (n := i) (by omega))
    have hlt : i * e.k + j < css.length * e.k := by
      have : (i + 1) * e.k ≤ css.length * e.k := Nat.mul_le_mul_right _ (by omega)
      rw [Nat.succ_mul] at this
      omega
    have c0 := World.ownsRow.cellAt h.2 (i * e.k + j) hlt
    rw [Nat.zero_add, c0, flat_at h.1 (by omega) (by omega)]
    exact List.getElem?_eq_getElem hj
theorem OwnR.alloc {ty k B : Nat} {w : World} {v : Value} {css : List (List Value)} (h : OwnR ty k B w v css) (o : Obj) : OwnR ty k B (w.alloc o) v css := ⟨h.1, World.ownsRow.alloc h.2 o⟩
theorem run_appR {t ty e : TypeId} {z : Value} {k bytes B : Nat} (ht : Try.prog.underlying t = some (.slice e)) (hinf : (Try.prog.info? e).map (fun i => (i.zero, i.size, i.bytes)) = some (some z, k, bytes)) (hzs : z.cells.size = k) (hk : 0 < k) (hby : bytes ≤ 1000)
    (w : World) (v : Value) (css : List (List Value)) (g : Nat) (cs : List Value) (hown : OwnR e k B w v css) (hcs : cs.length = k) (h1 : ∀ u ∈ cs, u.oneCell' = true) (hx : ∀ j (hj : j < cs.length), w.cell? ⟨g, j, none⟩ = some cs[j]) (hl : css.length ≤ 1000) (hB : B ≤ w.heap.size) :
    ∃ v' w', (Builtin.append_ #[t, t] ty #[v, .slice (some ⟨g, 0, none⟩) 1 1]).run Try.prog w = .ok v' w' ∧ OwnR e k B w' v' (css ++ [cs]) ∧ w.grownBy w' v.ownBlock ∧ (v'.ownBlock = v.ownBlock ∨ v'.ownBlock = some w.heap.size) := by
  obtain ⟨i, hi, hz, hsz, hb⟩ := info_parts hinf
  obtain ⟨v', w', hr, h2, h3, _, h5⟩ := run_append_own_at (P := Try.prog) w B t ty e i z k bytes ht hi hz hsz hb hzs hk v css.length _ hown.2 ⟨g, 0, none⟩ 1 1 cs (by omega)
    (by
      intro j u hj
      obtain ⟨hj1, hj2⟩ := List.getElem?_eq_some_iff.1 hj
      have := hx j hj1
      rw [hj2] at this
      have e : (⟨g, 0, none⟩ : Addr).add j = ⟨g, j, none⟩ := by unfold Addr.add; split <;> simp_all
      rw [e]
      exact this)
    h1 (by unfold maxLen; omega) (by have : (css.length + 1) * bytes ≤ 1001 * 1000 := Nat.mul_le_mul (by omega) hby; omega) hB
  refine ⟨v', w', hr, ⟨?_, ?_⟩, h3, h5⟩
  · intro c hc
    rw [List.mem_append, List.mem_singleton] at hc
    rcases hc with hc | rfl
    · exact hown.1 c hc
    · exact hcs
  · simpa using h2
theorem wpList_appR {t e : TypeId} {z : Value} {k bytes B : Nat} (ht : Try.prog.underlying t = some (.slice e)) (hinf : (Try.prog.info? e).map (fun i => (i.zero, i.size, i.bytes)) = some (some z, k, bytes)) (hzs : z.cells.size = k) (hk : 0 < k) (hby : bytes ≤ 1000)
    {w : World} {ops : Array Oper} {rest : List Oper} {o : Oper} {a : Act} {Q : Exit → Act → World → Prop} (hgd : o.guard = none) (s x : Operand)
    (ho : o.op = .call { callee := .builtin .append, args := #[s, x], argTypes := #[t, t] }) (v : Value) (css : List (List Value)) (g : Nat) (cs : List Value) (hs : a.eval s = v) (hx : a.eval x = .slice (some ⟨g, 0, none⟩) 1 1)
    (hown : OwnR e k B w v css) (hcs : cs.length = k) (h1 : ∀ u ∈ cs, u.oneCell' = true) (hcell : ∀ j (hj : j < cs.length), w.cell? ⟨g, j, none⟩ = some cs[j]) (hl : css.length ≤ 1000) (hB : B ≤ w.heap.size)
    (h : ∀ v' w', OwnR e k B w' v' (css ++ [cs]) → w.grownBy w' v.ownBlock → (v'.ownBlock = v.ownBlock ∨ v'.ownBlock = some w.heap.size) → wpList Try.prog ops Q rest (a.put o.dst v') w') : wpList Try.prog ops Q (o :: rest) a w :=
  wpList_plain hgd fun _ hK => by
    obtain ⟨v', w', hr, h2, h3, h4⟩ := run_appR ht hinf hzs hk hby w v css g cs hown hcs h1 hcell hl hB (ty := o.type)
    unfold Oper.wp execOp
    simp only [ho, resolve, invoke, builtin, Sem.run_bind, Sem.run_pure, Result.andThen_ok, List.map_toArray, List.map_cons, List.map_nil, hs, hx, hr]
    exact hK _ _ (h v' w' h2 h3 h4)

/-- A statement without what stands in it. -/
structure Sm where
  kind : Int
  table : ByteArray
  name : ByteArray
  cols : List Co
  tags : List Int
  values : List Tr
  items : List It
  join : ByteArray
  on : List Tr
  wh : List Tr
  order : List Tr
  desc : Bool
end Go.Proofs.Ytbmfehacnigknaa
namespace Go.Proofs.Ytbmfehacnigknaa
open Go.RowKit
set_option linter.unusedVariables false

theorem OwnR.blk {ty k B : Nat} {w : World} {v : Value} {css : List (List Value)} (h : OwnR ty k B w v css) : ∀ b, v.ownBlock = some b → B ≤ b ∧ b < w.heap.size := fun b e => World.ownsRow.lt h.2 b e

end Go.Proofs.Ytbmfehacnigknaa
namespace Go.Proofs.Ytbmfehacnigknaa
open Go.RowKit
set_option linter.unusedVariables false

end Go.Proofs.Ytbmfehacnigknaa
namespace Go.Proofs.Ytbmfehacnigknaa
open Go.RowKit
set_option linter.unusedVariables false

end Go.Proofs.Ytbmfehacnigknaa
namespace Go.Proofs.Ytbmfehacnigknaa
open Go.RowKit
set_option linter.unusedVariables false

end Go.Proofs.Ytbmfehacnigknaa
namespace Go.Proofs.Ytbmfehacnigknaa
open Go.RowKit
set_option linter.unusedVariables false

end Go.Proofs.Ytbmfehacnigknaa
namespace Go.Proofs.Ytbmfehacnigknaa
open Go.RowKit
set_option linter.unusedVariables false

end Go.Proofs.Ytbmfehacnigknaa
namespace Go.Proofs.Ytbmfehacnigknaa
open Go.RowKit
set_option linter.unusedVariables false

end Go.Proofs.Ytbmfehacnigknaa
namespace Go.Proofs.Ytbmfehacnigknaa
open Go.RowKit
set_option linter.unusedVariables false

end Go.Proofs.Ytbmfehacnigknaa
namespace Go.Proofs.Ytbmfehacnigknaa
open Go.RowKit
set_option linter.unusedVariables false

/-- A slice's address, length, capacity. -/
abbrev Sl := Option Addr × Nat × Nat
abbrev slV (s : Sl) : Value := .slice s.1 s.2.1 s.2.2
/-- The cells of a statement. -/
structure Sv where
  k : Int
  tb : ByteArray
  nm : ByteArray
  co : Sl
  ta : Sl
  va : Sl
  it : Sl
  jn : ByteArray
  on : Sl
  wh : Sl
  od : Sl
  ds : Bool
  inn : Sl
abbrev zS (k : Int) : Sv := ⟨k, ⟨#[]⟩, ⟨#[]⟩, (none, 0, 0), (none, 0, 0), (none, 0, 0), (none, 0, 0), ⟨#[]⟩, (none, 0, 0), (none, 0, 0), (none, 0, 0), false, (none, 0, 0)⟩
/-- A statement, and those that stand in it. -/
abbrev Sf := Sm × List Sm
end Go.Proofs.Ytbmfehacnigknaa
namespace Go.Proofs.Ytbmfehacnigknaa
open Go.RowKit
set_option linter.unusedVariables false

theorem OwnR.sl {ty k B : Nat} {w : World} {v : Value} {css : List (List Value)} (h : OwnR ty k B w v css) : ∃ ao n c, v = .slice ao n c := by
  rcases h.2.2 with ⟨rfl, h0⟩ | ⟨gg, cap, cur, rfl, hrest⟩
  · exact ⟨_, _, _, rfl⟩
  · exact ⟨_, _, _, rfl⟩
theorem new3 (w : World) (a b c : Value) (ty : TypeId) : ∀ j (hj : j < [a, b, c].length), (w.alloc (.cells #[a, b, c] ty)).cell? ⟨w.heap.size, j, none⟩ = some [a, b, c][j] := by
  intro j hj
  have hj' : j < 3 := hj
  match j, hj' with
  | 0, _ => exact cell_new w _ _ _ 0
  | 1, _ => exact cell_new w _ _ _ 1
  | 2, _ => exact cell_new w _ _ _ 2
end Go.Proofs.Ytbmfehacnigknaa
