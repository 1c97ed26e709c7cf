/- The walks of value's order at int, int64 and string, of cmp.Or, of value.Compare, and of the document's CompareValue and CompareText. -/
import Derived.Test.YtmeiloghgoohmaaV4
import Derived.LoopN
import Derived.BigRegion
namespace Go.Proofs.Ytmeiloghgoohmaa
open Go.RowKit
set_option linter.unusedVariables false

set_option maxHeartbeats 1000000 in
theorem text_any (s t : ByteArray) (w : World) (hs : s.size ≤ 9223372036854775807) (ht : t.size ≤ 9223372036854775807) :
    Calls Try.prog 20 #[.string s, .string t] w fun e w' => e = .returned (.int .i64 (lexI (nums s) (nums t))) ∧ Below w.heap.size w w' := by
  have hls := nums_len s
  have hlt' := nums_len t
  go_enter Try.func20, Try.ntmps20
  go_wp2
  go_loopw [5] (fun i wr => ∃ k : Nat, k ≤ s.size ∧ k ≤ t.size ∧ i = .int .i64 k ∧ Below w.heap.size w wr ∧ Hid (lexI (nums s) (nums t) = lexI ((nums s).drop k) ((nums t).drop k))) (fun i _ => s.size - (intOf i).toNat)
  case atStart => exact ⟨0, by omega, by omega, rfl, Below.refl _ _, rfl⟩
  case round =>
    obtain ⟨k, hk, hk2, rfl, hB, HE⟩ := hrel
    by_cases h1 : k < s.size
    · by_cases h2 : k < t.size
      · have HX : Hid (lexI (nums s) (nums t) = lexI (((s[k].toNat : Int)) :: (nums s).drop (k + 1)) ((t[k].toNat : Int) :: (nums t).drop (k + 1))) := by
          rw [← nums_nth s k h1, ← nums_nth t k h2, ← drop_nth (by omega), ← drop_nth (by omega)]; exact HE
        clear HE hls hlt'
        rcases (by omega : (s[k].toNat : Int) < (t[k].toNat : Int) ∨ (s[k].toNat : Int) = (t[k].toNat : Int) ∨ (t[k].toNat : Int) < (s[k].toNat : Int)) with h | h | h
        · go_wp2
          go_quiet (fail)
          go_wp2
          go_ret
          exact ⟨ret_int (by rw [HX.out, lexI_lt _ _ h]), below_drewN hB _⟩
        · have HX2 : Hid (lexI (nums s) (nums t) = lexI ((nums s).drop (k + 1)) ((nums t).drop (k + 1))) := by
            have e := HX.out
            rw [h, lexI_eq] at e
            exact e
          have n1 : ¬ (s[k].toNat : Int) < (t[k].toNat : Int) := by omega
          have n2 : ¬ (t[k].toNat : Int) < (s[k].toNat : Int) := by omega
          clear HX h
          go_wp2
          go_quiet (fail)
          go_wp2
          go_quiet (fail)
          go_wp2
          go_roundw
          case rel => exact ⟨k + 1, by omega, by omega, by go_num, by first | exact below_drewN hB _ | exact below_drewN (below_drewN hB _) _, HX2⟩
          case measure => simp only [intOf]; omega
        · go_wp2
          go_quiet (fail)
          go_wp2
          go_quiet (fail)
          go_wp2
          go_ret
          exact ⟨ret_int (by rw [HX.out, lexI_gt _ _ h]), by first | exact below_drewN hB _ | exact below_drewN (below_drewN hB _) _⟩
      · go_wp2
        go_ret
        exact ⟨ret_int (by rw [HE.out, drop_nth (by omega : k < (nums s).length), List.drop_eq_nil_of_le (by omega : (nums t).length ≤ k)]; rfl), hB⟩
    · by_cases h2 : k < t.size
      · go_wp2
        go_ret
        exact ⟨ret_int (by rw [HE.out, drop_nth (by omega : k < (nums t).length), List.drop_eq_nil_of_le (by omega : (nums s).length ≤ k)]; rfl), hB⟩
      · go_wp2
        go_ret
        exact ⟨ret_int (by rw [HE.out, List.drop_eq_nil_of_le (by omega : (nums t).length ≤ k), List.drop_eq_nil_of_le (by omega : (nums s).length ≤ k)]; rfl), hB⟩

set_option maxRecDepth 100000 in
theorem orderInt_any (a b : Int) (w : World) : Calls Try.prog 24 #[.int .i64 a, .int .i64 b] w fun e w' => e = .returned (.int .i64 (cmpI a b)) ∧ w' = w := by
  rcases (by omega : a < b ∨ a = b ∨ b < a) with h | h | h
  · rw [cmpI_lt h]
    have h1 : decide (a < b) = true := by simpa using h
    go_enter Try.func24, Try.ntmps24
    go_wp2
    go_ret
    exact ⟨rfl, rfl⟩
  · subst h
    rw [cmpI_eq]
    go_enter Try.func24, Try.ntmps24
    go_wp2
    go_ret
    exact ⟨rfl, rfl⟩
  · rw [cmpI_gt h]
    have h1 : decide (a < b) = false := by simp; omega
    have h2 : decide (b < a) = true := by simpa using h
    go_enter Try.func24, Try.ntmps24
    go_wp2
    go_ret
    exact ⟨rfl, rfl⟩

set_option maxRecDepth 100000 in
theorem orderInt64_any (a b : Int) (w : World) : Calls Try.prog 25 #[.int .i64 a, .int .i64 b] w fun e w' => e = .returned (.int .i64 (cmpI a b)) ∧ w' = w := by
  rcases (by omega : a < b ∨ a = b ∨ b < a) with h | h | h
  · rw [cmpI_lt h]
    have h1 : decide (a < b) = true := by simpa using h
    go_enter Try.func25, Try.ntmps25
    go_wp2
    go_ret
    exact ⟨rfl, rfl⟩
  · subst h
    rw [cmpI_eq]
    go_enter Try.func25, Try.ntmps25
    go_wp2
    go_ret
    exact ⟨rfl, rfl⟩
  · rw [cmpI_gt h]
    have h1 : decide (a < b) = false := by simp; omega
    have h2 : decide (b < a) = true := by simpa using h
    go_enter Try.func25, Try.ntmps25
    go_wp2
    go_ret
    exact ⟨rfl, rfl⟩

theorem less_lex : ∀ (a b : List UInt8), Op.bytesLess a b = decide (lexI (a.map fun c => (c.toNat : Int)) (b.map fun c => (c.toNat : Int)) = -1)
  | [], [] => rfl
  | _ :: _, [] => rfl
  | [], _ :: _ => rfl
  | x :: xs, y :: ys => by
    rw [Op.bytesLess, List.map_cons, List.map_cons, less_lex xs ys]
    rcases Nat.lt_trichotomy x.toNat y.toNat with h | h | h
    · rw [lexI_lt _ _ (by omega), decide_eq_true (show x < y from UInt8.lt_iff_toNat_lt.2 h)]; rfl
    · have e : x = y := UInt8.toNat_inj.1 h
      subst e
      rw [lexI_eq]
      simp
    · have n1 : ¬ x < y := fun k => by have := UInt8.lt_iff_toNat_lt.1 k; omega
      have n2 : (x == y) = false := by
        simp
        intro k
        rw [k] at h
        omega
      rw [lexI_gt _ _ (by omega), decide_eq_false n1, n2]
      rfl
theorem less_nums (s t : ByteArray) : Op.bytesLess s.toList t.toList = decide (lexI (nums s) (nums t) = -1) := by
  rw [less_lex, ByteArray.toList_eq, ByteArray.toList_eq]; rfl
theorem map_inj8 : ∀ {a b : List UInt8}, (a.map fun c => (c.toNat : Int)) = (b.map fun c => (c.toNat : Int)) → a = b
  | [], [], _ => rfl
  | [], _ :: _, h => by simp at h
  | _ :: _, [], h => by simp at h
  | x :: xs, y :: ys, h => by
    rw [List.map_cons, List.map_cons, List.cons.injEq] at h
    rw [map_inj8 h.2, UInt8.toNat_inj.1 (by omega : x.toNat = y.toNat)]
theorem nums_inj {s t : ByteArray} (h : nums s = nums t) : s = t := ByteArray.ext (Array.toList_inj.1 (map_inj8 h))
theorem same_nums (s t : ByteArray) : (s.toList == t.toList) = decide (lexI (nums s) (nums t) = 0) := by
  rw [Bool.eq_iff_iff]
  simp only [beq_iff_eq, decide_eq_true_eq]
  constructor
  · intro h
    rw [ByteArray.toList_eq, ByteArray.toList_eq] at h
    rw [nums, nums, h, lexI_self]
  · intro h
    rw [nums_inj (lexI_zero h)]

set_option maxRecDepth 100000 in
theorem orderText_any (s t : ByteArray) (w : World) : Calls Try.prog 26 #[.string s, .string t] w fun e w' => e = .returned (.int .i64 (lexI (nums s) (nums t))) ∧ w' = w := by
  have h1 := less_nums s t
  have h2 := same_nums s t
  rcases lexI_vals (nums s) (nums t) with h | h | h
  · rw [h] at h1 h2 ⊢
    replace h1 : Op.bytesLess s.toList t.toList = true := h1
    clear h h2
    go_enter Try.func26, Try.ntmps26
    go_wp2
    go_ret
    exact ⟨rfl, rfl⟩
  · rw [h] at h1 h2 ⊢
    replace h1 : Op.bytesLess s.toList t.toList = false := h1
    replace h2 : (s.toList == t.toList) = true := h2
    clear h
    go_enter Try.func26, Try.ntmps26
    go_wp2
    go_ret
    exact ⟨rfl, rfl⟩
  · rw [h] at h1 h2 ⊢
    replace h1 : Op.bytesLess s.toList t.toList = false := h1
    replace h2 : (s.toList == t.toList) = false := h2
    clear h
    go_enter Try.func26, Try.ntmps26
    go_wp2
    go_ret
    exact ⟨rfl, rfl⟩

set_option maxRecDepth 100000 in
theorem or_any (a b c : Int) (g : Nat) (w : World) (h0 : w.cell? ⟨g, 0, none⟩ = some (.int .i64 a)) (h1 : w.cell? ⟨g, 1, none⟩ = some (.int .i64 b)) (h2 : w.cell? ⟨g, 2, none⟩ = some (.int .i64 c)) :
    Calls Try.prog 23 #[.slice (some ⟨g, 0, none⟩) 3 3] w fun e w' => e = .returned (.int .i64 (orI a (orI b c))) ∧ w' = w := by
  by_cases ha : a = 0
  · subst ha
    by_cases hb : b = 0
    · subst hb
      rw [show orI 0 (orI 0 c) = c from rfl]
      by_cases hc : c = 0
      · subst hc
        go_enter Try.func23, Try.ntmps23
        go_wp2
        refine wp_loop_rounds 4 ?_
        rw [rounds_succ]
        go_wp2
        rw [rounds_succ]
        go_wp2
        rw [rounds_succ]
        go_wp2
        rw [rounds_succ]
        go_wp2
        go_ret
        exact ⟨rfl, rfl⟩
      · have g1 : (c != 0) = true := by simpa using hc
        go_enter Try.func23, Try.ntmps23
        go_wp2
        refine wp_loop_rounds 3 ?_
        rw [rounds_succ]
        go_wp2
        rw [rounds_succ]
        go_wp2
        rw [rounds_succ]
        go_wp2
        go_ret
        exact ⟨rfl, rfl⟩
    · rw [show orI 0 (orI b c) = b from by simp [orI, hb]]
      have g1 : (b != 0) = true := by simpa using hb
      go_enter Try.func23, Try.ntmps23
      go_wp2
      refine wp_loop_rounds 2 ?_
      rw [rounds_succ]
      go_wp2
      rw [rounds_succ]
      go_wp2
      go_ret
      exact ⟨rfl, rfl⟩
  · rw [show orI a (orI b c) = a from by simp [orI, ha]]
    have g1 : (a != 0) = true := by simpa using ha
    go_enter Try.func23, Try.ntmps23
    go_wp2
    refine wp_loop_rounds 1 ?_
    rw [rounds_succ]
    go_wp2
    go_ret
    exact ⟨rfl, rfl⟩

end Go.Proofs.Ytmeiloghgoohmaa
