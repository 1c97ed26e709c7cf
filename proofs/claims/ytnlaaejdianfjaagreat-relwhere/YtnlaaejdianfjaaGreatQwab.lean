import Derived.Test.YtnlaaejdianfjaaGreatQwaa
import Derived.LoopN
import Derived.BigRegion
import Derived.Deep.RegionHeld3
import Derived.Deep.AppendSrc
import Derived.Lib.Bytealg
import Derived.Shelf.LaysM
import Derived.Shelf.Strconv.Clone
import Derived.Deep.Trees
namespace Go.Proofs.YtnlaaejdianfjaaGreat
open Go.RowKit
set_option linter.unusedVariables false
/-- May a text have this byte? -/
def okB (x : Int) : Bool := decide (32 ≤ x) && decide (x ≤ 126)
def mayT (l : List Int) : Bool := decide (l.length ≤ 30) && l.all okB
/-- May this value be? -/
def mayV (k n : Int) (l : List Int) : Bool := if k = 1 then decide (l = []) else decide (k = 2) && (decide (n = 0) && mayT l)
/-- The first that is not 0. -/
def orI (a b : Int) : Int := if a = 0 then b else a
def cmpV (k n : Int) (l : List Int) (k' n' : Int) (l' : List Int) : Int := orI (cmpI k k') (orI (cmpI n n') (lexI l l'))
theorem cmpI_neg (x y : Int) : cmpI y x = -cmpI x y := by unfold cmpI; split <;> split <;> (try split) <;> omega
theorem lexI_neg : ∀ (A B : List Int), lexI B A = -lexI A B
  | [], [] => rfl
  | [], _ :: _ => rfl
  | _ :: _, [] => rfl
  | x :: xs, y :: ys => by
    rcases (by omega : x < y ∨ x = y ∨ y < x) with h | h | h
    · rw [lexI_gt _ _ h, lexI_lt _ _ h]; rfl
    · subst h; rw [lexI_eq, lexI_eq]; exact lexI_neg xs ys
    · rw [lexI_gt _ _ h, lexI_lt _ _ h]
theorem lexI_zero : ∀ {A B : List Int}, lexI A B = 0 → A = B
  | [], [], _ => rfl
  | [], _ :: _, h => by simp [lexI] at h
  | _ :: _, [], h => by simp [lexI] at h
  | x :: xs, y :: ys, h => by
    rcases (by omega : x < y ∨ x = y ∨ y < x) with k | k | k
    · rw [lexI_lt _ _ k] at h; omega
    · subst k; rw [lexI_eq] at h; rw [lexI_zero h]
    · rw [lexI_gt _ _ k] at h; omega
theorem cmpV_neg (k n : Int) (l : List Int) (k' n' : Int) (l' : List Int) : cmpV k' n' l' k n l = -cmpV k n l k' n' l' := by
  unfold cmpV orI
  rw [cmpI_neg k k', cmpI_neg n n', lexI_neg l l']
  split <;> split <;> (try split) <;> (try split) <;> omega
theorem okB_iff {x : Int} : okB x = true ↔ 32 ≤ x ∧ x ≤ 126 := by simp [okB]
theorem mayT_iff {l : List Int} : mayT l = true ↔ l.length ≤ 30 ∧ ∀ x ∈ l, 32 ≤ x ∧ x ≤ 126 := by simp [mayT, okB_iff, List.all_eq_true]
theorem mayV_one {k n : Int} {l : List Int} (h : mayV k n l = true) : (k = 1 ∧ l = []) ∨ (k = 2 ∧ n = 0 ∧ l.length ≤ 30 ∧ ∀ x ∈ l, 32 ≤ x ∧ x ≤ 126) := by
  unfold mayV at h
  split at h
  · exact .inl ⟨by assumption, by simpa using h⟩
  · rw [Bool.and_eq_true, Bool.and_eq_true, decide_eq_true_iff, decide_eq_true_iff, mayT_iff] at h
    exact .inr ⟨h.1, h.2.1, h.2.2⟩
set_option maxHeartbeats 1000000 in
theorem text_any (s t : ByteArray) (w : World) (hs : s.size ≤ 9223372036854775807) (ht : t.size ≤ 9223372036854775807) :
    Calls Tryz.prog 45 #[.string s, .string t] w fun e w' => e = .returned (.int .i64 (lexI (nums s) (nums t))) ∧ Below w.heap.size w w' := by
  have hls := nums_len s
  have hlt' := nums_len t
  go_enter Tryz.func45, Tryz.ntmps45
  go_wp2
  go_loopw [5] (fun i wr => ∃ k : Nat, k ≤ s.size ∧ k ≤ t.size ∧ i = .int .i64 k ∧ Below w.heap.size w wr ∧ Hid (lexI (nums s) (nums t) = lexI ((nums s).drop k) ((nums t).drop k))) (fun i _ => s.size - (intOf i).toNat)
  case atStart => exact ⟨0, by omega, by omega, rfl, Below.refl _ _, rfl⟩
  case round =>
    obtain ⟨k, hk, hk2, rfl, hB, HE⟩ := hrel
    by_cases h1 : k < s.size
    · by_cases h2 : k < t.size
      · have HX : Hid (lexI (nums s) (nums t) = lexI (((s[k].toNat : Int)) :: (nums s).drop (k + 1)) ((t[k].toNat : Int) :: (nums t).drop (k + 1))) := by
          rw [← nums_nth s k h1, ← nums_nth t k h2, ← drop_nth (by omega), ← drop_nth (by omega)]; exact HE
        clear HE hls hlt'
        rcases (by omega : (s[k].toNat : Int) < (t[k].toNat : Int) ∨ (s[k].toNat : Int) = (t[k].toNat : Int) ∨ (t[k].toNat : Int) < (s[k].toNat : Int)) with h | h | h
        · go_wp2
          go_quiet (fail)
          go_wp2
          go_ret
          exact ⟨ret_int (by rw [HX.out, lexI_lt _ _ h]), below_drewN hB _⟩
        · have HX2 : Hid (lexI (nums s) (nums t) = lexI ((nums s).drop (k + 1)) ((nums t).drop (k + 1))) := by
            have e := HX.out
            rw [h, lexI_eq] at e
            exact e
          have n1 : ¬ (s[k].toNat : Int) < (t[k].toNat : Int) := by omega
          have n2 : ¬ (t[k].toNat : Int) < (s[k].toNat : Int) := by omega
          clear HX h
          go_wp2
          go_quiet (fail)
          go_wp2
          go_quiet (fail)
          go_wp2
          go_roundw
          case rel => exact ⟨k + 1, by omega, by omega, by go_num, by first | exact below_drewN hB _ | exact below_drewN (below_drewN hB _) _, HX2⟩
          case measure => simp only [intOf]; omega
        · go_wp2
          go_quiet (fail)
          go_wp2
          go_quiet (fail)
          go_wp2
          go_ret
          exact ⟨ret_int (by rw [HX.out, lexI_gt _ _ h]), by first | exact below_drewN hB _ | exact below_drewN (below_drewN hB _) _⟩
      · go_wp2
        go_ret
        exact ⟨ret_int (by rw [HE.out, drop_nth (by omega : k < (nums s).length), List.drop_eq_nil_of_le (by omega : (nums t).length ≤ k)]; rfl), hB⟩
    · by_cases h2 : k < t.size
      · go_wp2
        go_ret
        exact ⟨ret_int (by rw [HE.out, drop_nth (by omega : k < (nums t).length), List.drop_eq_nil_of_le (by omega : (nums s).length ≤ k)]; rfl), hB⟩
      · go_wp2
        go_ret
        exact ⟨ret_int (by rw [HE.out, List.drop_eq_nil_of_le (by omega : (nums t).length ≤ k), List.drop_eq_nil_of_le (by omega : (nums s).length ≤ k)]; rfl), hB⟩
set_option maxRecDepth 100000 in
theorem orderInt_any (a b : Int) (w : World) : Calls Tryz.prog 110 #[.int .i64 a, .int .i64 b] w fun e w' => e = .returned (.int .i64 (cmpI a b)) ∧ w' = w := by
  rcases (by omega : a < b ∨ a = b ∨ b < a) with h | h | h
  · rw [cmpI_lt h]
    have h1 : decide (a < b) = true := by simpa using h
    go_enter Tryz.func110, Tryz.ntmps110
    go_wp2
    go_ret
    exact ⟨rfl, rfl⟩
  · subst h
    rw [cmpI_eq]
    go_enter Tryz.func110, Tryz.ntmps110
    go_wp2
    go_ret
    exact ⟨rfl, rfl⟩
  · rw [cmpI_gt h]
    have h1 : decide (a < b) = false := by simp; omega
    have h2 : decide (b < a) = true := by simpa using h
    go_enter Tryz.func110, Tryz.ntmps110
    go_wp2
    go_ret
    exact ⟨rfl, rfl⟩
set_option maxRecDepth 100000 in
theorem orderInt64_any (a b : Int) (w : World) : Calls Tryz.prog 111 #[.int .i64 a, .int .i64 b] w fun e w' => e = .returned (.int .i64 (cmpI a b)) ∧ w' = w := by
  rcases (by omega : a < b ∨ a = b ∨ b < a) with h | h | h
  · rw [cmpI_lt h]
    have h1 : decide (a < b) = true := by simpa using h
    go_enter Tryz.func111, Tryz.ntmps111
    go_wp2
    go_ret
    exact ⟨rfl, rfl⟩
  · subst h
    rw [cmpI_eq]
    go_enter Tryz.func111, Tryz.ntmps111
    go_wp2
    go_ret
    exact ⟨rfl, rfl⟩
  · rw [cmpI_gt h]
    have h1 : decide (a < b) = false := by simp; omega
    have h2 : decide (b < a) = true := by simpa using h
    go_enter Tryz.func111, Tryz.ntmps111
    go_wp2
    go_ret
    exact ⟨rfl, rfl⟩
theorem less_lex : ∀ (a b : List UInt8), Op.bytesLess a b = decide (lexI (a.map fun c => (c.toNat : Int)) (b.map fun c => (c.toNat : Int)) = -1)
  | [], [] => rfl
  | _ :: _, [] => rfl
  | [], _ :: _ => rfl
  | x :: xs, y :: ys => by
    rw [Op.bytesLess, List.map_cons, List.map_cons, less_lex xs ys]
    rcases Nat.lt_trichotomy x.toNat y.toNat with h | h | h
    · rw [lexI_lt _ _ (by omega), decide_eq_true (show x < y from UInt8.lt_iff_toNat_lt.2 h)]; rfl
    · have e : x = y := UInt8.toNat_inj.1 h
      subst e
      rw [lexI_eq]
      simp
    · have n1 : ¬ x < y := fun k => by have := UInt8.lt_iff_toNat_lt.1 k; omega
      have n2 : (x == y) = false := by
        simp
        intro k
        rw [k] at h
        omega
      rw [lexI_gt _ _ (by omega), decide_eq_false n1, n2]
      rfl
theorem less_nums (s t : ByteArray) : Op.bytesLess s.toList t.toList = decide (lexI (nums s) (nums t) = -1) := by
  rw [less_lex, ByteArray.toList_eq, ByteArray.toList_eq]; rfl
theorem map_inj8 : ∀ {a b : List UInt8}, (a.map fun c => (c.toNat : Int)) = (b.map fun c => (c.toNat : Int)) → a = b
  | [], [], _ => rfl
  | [], _ :: _, h => by simp at h
  | _ :: _, [], h => by simp at h
  | x :: xs, y :: ys, h => by
    rw [List.map_cons, List.map_cons, List.cons.injEq] at h
    rw [map_inj8 h.2, UInt8.toNat_inj.1 (by omega : x.toNat = y.toNat)]
theorem nums_inj {s t : ByteArray} (h : nums s = nums t) : s = t := ByteArray.ext (Array.toList_inj.1 (map_inj8 h))
theorem same_nums (s t : ByteArray) : (s.toList == t.toList) = decide (lexI (nums s) (nums t) = 0) := by
  rw [Bool.eq_iff_iff]
  simp only [beq_iff_eq, decide_eq_true_eq]
  constructor
  · intro h
    rw [ByteArray.toList_eq, ByteArray.toList_eq] at h
    rw [nums, nums, h, lexI_self]
  · intro h
    rw [nums_inj (lexI_zero h)]
set_option maxRecDepth 100000 in
theorem orderText_any (s t : ByteArray) (w : World) : Calls Tryz.prog 112 #[.string s, .string t] w fun e w' => e = .returned (.int .i64 (lexI (nums s) (nums t))) ∧ w' = w := by
  have h1 := less_nums s t
  have h2 := same_nums s t
  rcases lexI_vals (nums s) (nums t) with h | h | h
  · rw [h] at h1 h2 ⊢
    replace h1 : Op.bytesLess s.toList t.toList = true := h1
    clear h h2
    go_enter Tryz.func112, Tryz.ntmps112
    go_wp2
    go_ret
    exact ⟨rfl, rfl⟩
  · rw [h] at h1 h2 ⊢
    replace h1 : Op.bytesLess s.toList t.toList = false := h1
    replace h2 : (s.toList == t.toList) = true := h2
    clear h
    go_enter Tryz.func112, Tryz.ntmps112
    go_wp2
    go_ret
    exact ⟨rfl, rfl⟩
  · rw [h] at h1 h2 ⊢
    replace h1 : Op.bytesLess s.toList t.toList = false := h1
    replace h2 : (s.toList == t.toList) = false := h2
    clear h
    go_enter Tryz.func112, Tryz.ntmps112
    go_wp2
    go_ret
    exact ⟨rfl, rfl⟩
set_option maxRecDepth 100000 in
theorem orThree_any (a b c : Int) (g : Nat) (w : World) (h0 : w.cell? ⟨g, 0, none⟩ = some (.int .i64 a)) (h1 : w.cell? ⟨g, 1, none⟩ = some (.int .i64 b)) (h2 : w.cell? ⟨g, 2, none⟩ = some (.int .i64 c)) :
    Calls Tryz.prog 109 #[.slice (some ⟨g, 0, none⟩) 3 3] w fun e w' => e = .returned (.int .i64 (orI a (orI b c))) ∧ w' = w := by
  by_cases ha : a = 0
  · subst ha
    by_cases hb : b = 0
    · subst hb
      rw [show orI 0 (orI 0 c) = c from rfl]
      by_cases hc : c = 0
      · subst hc
        go_enter Tryz.func109, Tryz.ntmps109
        go_wp2
        refine wp_loop_rounds 4 ?_
        rw [rounds_succ]
        go_wp2
        rw [rounds_succ]
        go_wp2
        rw [rounds_succ]
        go_wp2
        rw [rounds_succ]
        go_wp2
        go_ret
        exact ⟨rfl, rfl⟩
      · have g1 : (c != 0) = true := by simpa using hc
        go_enter Tryz.func109, Tryz.ntmps109
        go_wp2
        refine wp_loop_rounds 3 ?_
        rw [rounds_succ]
        go_wp2
        rw [rounds_succ]
        go_wp2
        rw [rounds_succ]
        go_wp2
        go_ret
        exact ⟨rfl, rfl⟩
    · rw [show orI 0 (orI b c) = b from by simp [orI, hb]]
      have g1 : (b != 0) = true := by simpa using hb
      go_enter Tryz.func109, Tryz.ntmps109
      go_wp2
      refine wp_loop_rounds 2 ?_
      rw [rounds_succ]
      go_wp2
      rw [rounds_succ]
      go_wp2
      go_ret
      exact ⟨rfl, rfl⟩
  · rw [show orI a (orI b c) = a from by simp [orI, ha]]
    have g1 : (a != 0) = true := by simpa using ha
    go_enter Tryz.func109, Tryz.ntmps109
    go_wp2
    refine wp_loop_rounds 1 ?_
    rw [rounds_succ]
    go_wp2
    go_ret
    exact ⟨rfl, rfl⟩
set_option maxRecDepth 100000 in
set_option maxHeartbeats 1000000 in
theorem compare_any (k n : Int) (s : ByteArray) (k' n' : Int) (s' : ByteArray) (w : World) :
    Calls Tryz.prog 78 #[.agg #[.int .i64 k, .int .i64 n, .string s], .agg #[.int .i64 k', .int .i64 n', .string s']] w fun e w' => e = .returned (.int .i64 (cmpV k n (nums s) k' n' (nums s'))) ∧ Below w.heap.size w w' := by
  have HI : Hid (∀ w, _) := fun w => orderInt_any k k' w
  have HJ : Hid (∀ w, _) := fun w => orderInt64_any n n' w
  have HT : Hid (∀ w, _) := fun w => orderText_any s s' w
  have HO : Hid (∀ g w h0 h1 h2, _) := fun g w h0 h1 h2 => orThree_any (cmpI k k') (cmpI n n') (lexI (nums s) (nums s')) g w h0 h1 h2
  have HE : Hid (cmpV k n (nums s) k' n' (nums s') = orI (cmpI k k') (orI (cmpI n n') (lexI (nums s) (nums s')))) := rfl
  have hb : Below w.heap.size w ((w.alloc (.cells #[.int .i64 k, .int .i64 n, .string s] 44)).alloc (.cells #[.int .i64 k', .int .i64 n', .string s'] 44)) := ((Below.refl _ _).alloc (Nat.le_refl _) _).alloc (by simp) _
  generalize cmpV k n (nums s) k' n' (nums s') = R at *
  generalize cmpI k k' = A at *
  generalize cmpI n n' = B at *
  generalize lexI (nums s) (nums s') = C at *
  go_enter Tryz.func78, Tryz.ntmps78
  go_wp2_with fail
  have c0 : ((w.alloc (.cells #[.int .i64 k, .int .i64 n, .string s] 44)).alloc (.cells #[.int .i64 k', .int .i64 n', .string s'] 44)).cell? ⟨w.heap.size, 0, none⟩ = some (.int .i64 k) := by simp [go_sem]
  have c1 : ((w.alloc (.cells #[.int .i64 k, .int .i64 n, .string s] 44)).alloc (.cells #[.int .i64 k', .int .i64 n', .string s'] 44)).cell? ⟨w.heap.size, 1, none⟩ = some (.int .i64 n) := by simp [go_sem]
  have c2 : ((w.alloc (.cells #[.int .i64 k, .int .i64 n, .string s] 44)).alloc (.cells #[.int .i64 k', .int .i64 n', .string s'] 44)).cell? ⟨w.heap.size, 2, none⟩ = some (.string s) := by simp [go_sem]
  have d0 : ((w.alloc (.cells #[.int .i64 k, .int .i64 n, .string s] 44)).alloc (.cells #[.int .i64 k', .int .i64 n', .string s'] 44)).cell? ⟨w.heap.size + 1, 0, none⟩ = some (.int .i64 k') := by simp [go_sem]
  have d1 : ((w.alloc (.cells #[.int .i64 k, .int .i64 n, .string s] 44)).alloc (.cells #[.int .i64 k', .int .i64 n', .string s'] 44)).cell? ⟨w.heap.size + 1, 1, none⟩ = some (.int .i64 n') := by simp [go_sem]
  have d2 : ((w.alloc (.cells #[.int .i64 k, .int .i64 n, .string s] 44)).alloc (.cells #[.int .i64 k', .int .i64 n', .string s'] 44)).cell? ⟨w.heap.size + 1, 2, none⟩ = some (.string s') := by simp [go_sem]
  have hz : w.heap.size ≤ ((w.alloc (.cells #[.int .i64 k, .int .i64 n, .string s] 44)).alloc (.cells #[.int .i64 k', .int .i64 n', .string s'] 44)).heap.size := hb.size
  generalize (w.alloc (.cells #[.int .i64 k, .int .i64 n, .string s] 44)).alloc (.cells #[.int .i64 k', .int .i64 n', .string s'] 44) = W at *
  go_region_held3 (fun w' => w'.cell? ⟨w.heap.size, 0, none⟩ = some (.int .i64 k) ∧ w'.cell? ⟨w.heap.size, 1, none⟩ = some (.int .i64 n) ∧ w'.cell? ⟨w.heap.size, 2, none⟩ = some (.string s) ∧ w'.cell? ⟨w.heap.size + 1, 0, none⟩ = some (.int .i64 k') ∧ w'.cell? ⟨w.heap.size + 1, 1, none⟩ = some (.int .i64 n') ∧ w'.cell? ⟨w.heap.size + 1, 2, none⟩ = some (.string s')) (go_keep)
    (first
    | (go_at_call 110; refine Calls.mono (HI.out _) ?_; rintro e y1 ⟨rfl, rfl⟩)
    | (go_at_call 111; refine Calls.mono (HJ.out _) ?_; rintro e y2 ⟨rfl, rfl⟩)
    | (go_at_call 112; refine Calls.mono (HT.out _) ?_; rintro e y3 ⟨rfl, rfl⟩)
    | (go_at_call 109; refine Calls.mono (HO.out _ _ (by simp [go_sem]) (by simp [go_sem]) (by simp [go_sem])) ?_; rintro e y4 ⟨rfl, rfl⟩))
  all_goals
    go_wp2
    go_ret
    exact ⟨by rw [HE.out]; rfl, by first | exact (hb.drew.alloc hz _) | exact (hb.alloc hz _).drew⟩
/-- The document's own road. -/
def refC (k n : Int) (l : List Int) (k' n' : Int) (l' : List Int) : Int := if k < k' then -1 else if k' < k then 1 else if k = 1 then cmpI n n' else lexI l l'
set_option maxRecDepth 100000 in
set_option maxHeartbeats 1000000 in
theorem refCompare_any (k n : Int) (s : ByteArray) (k' n' : Int) (s' : ByteArray) (hs : s.size ≤ 9223372036854775807) (hs' : s'.size ≤ 9223372036854775807) (w : World) :
    Calls Tryz.prog 19 #[.agg #[.int .i64 k, .int .i64 n, .string s], .agg #[.int .i64 k', .int .i64 n', .string s']] w fun e w' => e = .returned (.int .i64 (refC k n (nums s) k' n' (nums s'))) ∧ Below w.heap.size w w' := by
  have HT : Hid (∀ w, _) := fun w => text_any s s' w hs hs'
  have hb : Below w.heap.size w ((w.alloc (.cells #[.int .i64 k, .int .i64 n, .string s] 44)).alloc (.cells #[.int .i64 k', .int .i64 n', .string s'] 44)) := ((Below.refl _ _).alloc (Nat.le_refl _) _).alloc (by simp) _
  clear hs hs'
  rcases (by omega : k < k' ∨ k = k' ∨ k' < k) with h | h | h
  · rw [show refC k n (nums s) k' n' (nums s') = -1 from by rw [refC, if_pos h]]
    have h1 : decide (k < k') = true := by simpa using h
    go_enter Tryz.func19, Tryz.ntmps19
    go_wp2
    go_ret
    exact ⟨rfl, hb⟩
  · subst h
    by_cases h1 : k = 1
    · subst h1
      rw [show refC 1 n (nums s) 1 n' (nums s') = cmpI n n' from by rw [refC, if_neg (by omega), if_neg (by omega), if_pos rfl]]
      rcases (by omega : n < n' ∨ n = n' ∨ n' < n) with h | h | h
      · rw [cmpI_lt h]
        have h1 : decide (n < n') = true := by simpa using h
        go_enter Tryz.func19, Tryz.ntmps19
        go_wp2
        go_ret
        exact ⟨rfl, hb⟩
      · subst h
        rw [cmpI_eq]
        go_enter Tryz.func19, Tryz.ntmps19
        go_wp2
        go_ret
        exact ⟨rfl, hb⟩
      · rw [cmpI_gt h]
        have h1 : decide (n < n') = false := by simp; omega
        have h2 : decide (n' < n) = true := by simpa using h
        go_enter Tryz.func19, Tryz.ntmps19
        go_wp2
        go_ret
        exact ⟨rfl, hb⟩
    · rw [show refC k n (nums s) k n' (nums s') = lexI (nums s) (nums s') from by rw [refC, if_neg (by omega), if_neg (by omega), if_neg h1]]
      have g1 : (k == 1) = false := by simpa using h1
      go_enter Tryz.func19, Tryz.ntmps19
      go_wp2_with fail
      refine Calls.mono (HT.out _) ?_
      rintro e w1 ⟨rfl, hb1⟩
      clear HT
      have hb2 := hb.trans (hb1.mono hb.size)
      go_wp2
      go_ret
      exact ⟨rfl, hb2⟩
  · rw [show refC k n (nums s) k' n' (nums s') = 1 from by rw [refC, if_neg (by omega), if_pos h]]
    have h1 : decide (k < k') = false := by simp; omega
    have h2 : decide (k' < k) = true := by simpa using h
    go_enter Tryz.func19, Tryz.ntmps19
    go_wp2
    go_ret
    exact ⟨rfl, hb⟩

end Go.Proofs.YtnlaaejdianfjaaGreat
namespace Go.Proofs.YtnlaaejdianfjaaGreat
open Go.RowKit
set_option linter.unusedVariables false

end Go.Proofs.YtnlaaejdianfjaaGreat
namespace Go.Proofs.YtnlaaejdianfjaaGreat
open Go.RowKit
set_option linter.unusedVariables false

/-- But for block g all that lay in w lies in w' as it did. -/
structure But (g : Nat) (w w' : World) : Prop where
  os : w'.os = w.os
  tape : w'.tape = w.tape
  output : w'.output = w.output
  size : w.heap.size ≤ w'.heap.size
  block : ∀ k, k < w.heap.size → k ≠ g → w'.heap[k]? = w.heap[k]?
theorem But.refl (g : Nat) (w : World) : But g w w := ⟨rfl, rfl, rfl, Nat.le_refl _, fun _ _ _ => rfl⟩
theorem But.trans {g : Nat} {a b c : World} (h : But g a b) (k : But g b c) : But g a c :=
  ⟨k.os.trans h.os, k.tape.trans h.tape, k.output.trans h.output, Nat.le_trans h.size k.size, fun i hi hg => (k.block i (Nat.lt_of_lt_of_le hi h.size) hg).trans (h.block i hi hg)⟩
theorem But.of {g : Nat} {w w' : World} (h : Below w.heap.size w w') : But g w w' := ⟨h.os, h.tape, h.output, h.size, fun k hk _ => h.block k hk⟩
theorem But.set (g o : Nat) (w : World) (v : Value) : But g w (w.setCell ⟨g, o, none⟩ v) := ⟨rfl, rfl, rfl, by simp [World.setCell], fun k _ hk => Below.heap_setCell _ _ _ _ hk⟩
theorem But.below {g B : Nat} {a w w' : World} (h : Below B a w) (k : But g w w') (hB : B ≤ g) (hw : B ≤ w.heap.size) : Below B a w' :=
  h.trans ⟨k.os, k.tape, k.output, k.size, fun i hi => k.block i (by omega) (by omega)⟩
theorem But.cell {g : Nat} {w w' : World} (h : But g w w') {a : Addr} {v : Value} (hc : w.cell? a = some v) (hg : a.block ≠ g) : w'.cell? a = some v :=
  (World.cell?_of_block (h.block a.block (World.block_lt_of_cell? _ _ hc) hg)).trans hc
theorem But.rdrew {g : Nat} {w w' : World} (h : But g w w') (n : Nat) : But g w (w'.drewN n) := ⟨h.os, h.tape, h.output, h.size, h.block⟩

end Go.Proofs.YtnlaaejdianfjaaGreat
namespace Go.Proofs
open Go.Shelf
def Tryz.laysM316_ren : Go.Shelf.Ren := ⟨fun | 316 => 130 | n => n, fun | 9 => 9 | 3 => 3 | 4 => 4 | 37 => 22 | 0 => 0 | 127 => 203 | 5 => 5 | n => n, fun | n => n⟩
theorem Tryz.laysM316 : Go.Proofs.LaysM.n316 Tryz.prog Tryz.laysM316_ren := {
  mixed := by kernel_rfl
  f316 := Tryz.func130.trans (congrArg some (by kernel_rfl))
  t0 := Tryz.underlying0
  a0 := Tryz.isAgg0
  z0 := Tryz.sizeOf0
  v0 := Tryz.zeroValue0
  t3 := Tryz.underlying3
  a3 := Tryz.isAgg3
  z3 := Tryz.sizeOf3
  v3 := Tryz.zeroValue3
  t4 := Tryz.underlying4
  a4 := Tryz.isAgg4
  z4 := Tryz.sizeOf4
  v4 := Tryz.zeroValue4
  t9 := Tryz.underlying9
  a9 := Tryz.isAgg9
  z9 := Tryz.sizeOf9
  v9 := Tryz.zeroValue9
  t37 := Tryz.underlying22
  a37 := Tryz.isAgg22
  z37 := Tryz.sizeOf22
  v37 := Tryz.zeroValue22
  t127 := Tryz.underlying203
  a127 := Tryz.isAgg203
  z127 := Tryz.sizeOf203
  v127 := Tryz.zeroValue203
  t5 := Tryz.underlying5
  a5 := Tryz.isAgg5
  z5 := Tryz.sizeOf5
  v5 := Tryz.zeroValue5
  i0 := by kernel_rfl
  i3 := by kernel_rfl
  i4 := by kernel_rfl
  i5 := by kernel_rfl
  i9 := by kernel_rfl
  i37 := by kernel_rfl
  i127 := by kernel_rfl }
open Go.RowKit in
/-- internal/stringslite.Clone: the same bytes. -/
theorem Tryz.stringslite_Clone (s : ByteArray) (w : World) (hlim : s.size ≤ 281474976710656) :
    Calls Tryz.prog 130 #[.string s] w fun e w' => e = .returned (.string s) ∧ Below w.heap.size w w' := Any.stringslite_Clone Tryz.laysM316 s w hlim
end Go.Proofs
namespace Go.Proofs.YtnlaaejdianfjaaGreat
open Go.RowKit
set_option linter.unusedVariables false

/-- A step on. -/
theorem Below.on {a w w' : World} (h : Below a.heap.size a w) (k : Below w.heap.size w w') : Below a.heap.size a w' := h.trans (k.mono h.size)
/-- Are two texts the same? -/
def eqS (s t : ByteArray) : Bool := decide (s = t)
theorem same_str (s t : ByteArray) : (s.toList == t.toList) = decide (s = t) := by
  rw [Bool.eq_iff_iff]
  simp only [beq_iff_eq, decide_eq_true_eq]
  constructor
  · intro h
    rw [ByteArray.toList_eq, ByteArray.toList_eq] at h
    exact ByteArray.ext (Array.toList_inj.1 h)
  · intro h; rw [h]
end Go.Proofs.YtnlaaejdianfjaaGreat
namespace Go.Proofs.YtnlaaejdianfjaaGreat
open Go.RowKit
set_option linter.unusedVariables false

theorem cell_new (w : World) (arr : Array Value) (e : TypeId) (mk : Nat × Nat) (j : Nat) : (w.alloc (.cells arr e mk)).cell? ⟨w.heap.size, j, none⟩ = arr[j]? := by
  have : (w.alloc (.cells arr e mk)).heap[w.heap.size]? = some (.cells arr e mk) := heap_alloc_new w _
  unfold World.cell?
  rw [this]
  rfl
end Go.Proofs.YtnlaaejdianfjaaGreat
namespace Go.Proofs.YtnlaaejdianfjaaGreat
open Go.RowKit
set_option linter.unusedVariables false

theorem But.new {g : Nat} {w w' : World} (h : But g w w') {r : Nat} (hr : w.heap.size ≤ r) (o : Nat) (v : Value) : But g w (w'.setCell ⟨r, o, none⟩ v) :=
  ⟨h.os, h.tape, h.output, by simp [World.setCell]; exact h.size, fun k hk hg => (Below.heap_setCell _ _ _ _ (by show k ≠ r; omega)).trans (h.block k hk hg)⟩
theorem But.alloc {g : Nat} {w w' : World} (h : But g w w') (o : Obj) : But g w (w'.alloc o) :=
  h.trans (But.of ((Below.refl _ _).alloc (Nat.le_refl _) o))
end Go.Proofs.YtnlaaejdianfjaaGreat
namespace Go.Proofs.YtnlaaejdianfjaaGreat
open Go.RowKit
set_option linter.unusedVariables false

end Go.Proofs.YtnlaaejdianfjaaGreat
namespace Go.Proofs.YtnlaaejdianfjaaGreat
open Go.RowKit
set_option linter.unusedVariables false

end Go.Proofs.YtnlaaejdianfjaaGreat
namespace Go.Proofs.YtnlaaejdianfjaaGreat
open Go.RowKit
set_option linter.unusedVariables false

end Go.Proofs.YtnlaaejdianfjaaGreat
namespace Go.Proofs.YtnlaaejdianfjaaGreat
open Go.RowKit
set_option linter.unusedVariables false

end Go.Proofs.YtnlaaejdianfjaaGreat
namespace Go.Proofs.YtnlaaejdianfjaaGreat
open Go.RowKit
set_option linter.unusedVariables false

end Go.Proofs.YtnlaaejdianfjaaGreat
namespace Go.Proofs.YtnlaaejdianfjaaGreat
open Go.RowKit
set_option linter.unusedVariables false

end Go.Proofs.YtnlaaejdianfjaaGreat
namespace Go.Proofs.YtnlaaejdianfjaaGreat
open Go.RowKit
set_option linter.unusedVariables false

end Go.Proofs.YtnlaaejdianfjaaGreat
namespace Go.Proofs.YtnlaaejdianfjaaGreat
open Go.RowKit
set_option linter.unusedVariables false

/-- What a node of an expression has besides its number: Value (Kind, Int, Text), Table, Name. -/
abbrev Pay := Int × Int × ByteArray × ByteArray × ByteArray
/-- An expression: '.node 0 number payload left right'. -/
abbrev Tr := Go.Deep.BT Pay
def nilP : Pay := (0, 0, ⟨#[]⟩, ⟨#[]⟩, ⟨#[]⟩)
def tCol (t n : ByteArray) : Tr := .node 0 2 (0, 0, ⟨#[]⟩, t, n) .nil .nil
def tOne (op : Nat) (x : Tr) : Tr := .node 0 op nilP x .nil
def tTwo (op : Nat) (x y : Tr) : Tr := .node 0 op nilP x y

/-- A fault's place and the fault; or what was read, and the words behind it. -/
abbrev Re (α : Type) := Sum (Int × Int) (α × List Tk)
/-- A fault's place and the fault; or the words that are yet to be read. -/
abbrev Sa := Sum (Int × Int) (List Tk)
/-- What may lie one deeper, where n may. -/
def below (f : Nat → List Tk → Re Tr) : Nat → Option (List Tk → Re Tr)
  | 0 => none
  | n + 1 => some (f n)
end Go.Proofs.YtnlaaejdianfjaaGreat
namespace Go.Proofs.YtnlaaejdianfjaaGreat
open Go.RowKit
set_option linter.unusedVariables false

end Go.Proofs.YtnlaaejdianfjaaGreat
namespace Go.Proofs.YtnlaaejdianfjaaGreat
open Go.RowKit
set_option linter.unusedVariables false

theorem hid {p : Prop} (h : p) : Hid p := h
end Go.Proofs.YtnlaaejdianfjaaGreat
namespace Go.Proofs.YtnlaaejdianfjaaGreat
open Go.RowKit
set_option linter.unusedVariables false

end Go.Proofs.YtnlaaejdianfjaaGreat
namespace Go.Proofs.YtnlaaejdianfjaaGreat
open Go.RowKit
set_option linter.unusedVariables false

/-- An expression's value. -/
def exV (o : Int) (p : Pay) (sl : Value) : Value := .agg #[.int .i64 o, .int .i64 p.1, .int .i64 p.2.1, .string p.2.2.1, .string p.2.2.2.1, .string p.2.2.2.2, sl]
/-- The seven cells of an expression from place o on in block b. -/
def Ce (w : World) (b o : Nat) (op : Int) (p : Pay) (sl : Value) : Prop :=
  w.cell? ⟨b, o, none⟩ = some (.int .i64 op) ∧ w.cell? ⟨b, o + 1, none⟩ = some (.int .i64 p.1) ∧ w.cell? ⟨b, o + 2, none⟩ = some (.int .i64 p.2.1) ∧ w.cell? ⟨b, o + 3, none⟩ = some (.string p.2.2.1) ∧ w.cell? ⟨b, o + 4, none⟩ = some (.string p.2.2.2.1) ∧ w.cell? ⟨b, o + 5, none⟩ = some (.string p.2.2.2.2) ∧ w.cell? ⟨b, o + 6, none⟩ = some sl
theorem Ce.keep {w w' : World} {b o : Nat} {op : Int} {p : Pay} {sl : Value} (h : Ce w b o op p sl) (hk : w'.heap[b]? = w.heap[b]?) : Ce w' b o op p sl := by
  obtain ⟨h0, h1, h2, h3, h4, h5, h6⟩ := h
  exact ⟨(World.cell?_of_block (a := ⟨b, _, none⟩) hk).trans h0, (World.cell?_of_block (a := ⟨b, _, none⟩) hk).trans h1, (World.cell?_of_block (a := ⟨b, _, none⟩) hk).trans h2, (World.cell?_of_block (a := ⟨b, _, none⟩) hk).trans h3, (World.cell?_of_block (a := ⟨b, _, none⟩) hk).trans h4, (World.cell?_of_block (a := ⟨b, _, none⟩) hk).trans h5, (World.cell?_of_block (a := ⟨b, _, none⟩) hk).trans h6⟩
theorem Ce.lt {w : World} {b o : Nat} {op : Int} {p : Pay} {sl : Value} (h : Ce w b o op p sl) : b < w.heap.size := World.block_lt_of_cell? _ _ h.1
def noT : Tr → Bool
  | .nil => true
  | .node _ _ _ _ _ => false
/-- The value is the expression t; its rows lie in blocks that Q lets. -/
def Ex (Q : Nat → Prop) (w : World) : Tr → Value → Prop
  | .nil, _ => False
  | .node _ op p l r, v => ∃ ao n c, v = exV op p (.slice ao n c) ∧ n ≤ c ∧ c ≤ 9223372036854775807 ∧
      ((noT l = true ∧ noT r = true ∧ n = 0) ∨
       (noT l = false ∧ noT r = true ∧ n = 1 ∧ ∃ b o op1 p1 a1 n1 c1, ao = some ⟨b, o, none⟩ ∧ Q b ∧ Ce w b o op1 p1 (.slice a1 n1 c1) ∧ Ex Q w l (exV op1 p1 (.slice a1 n1 c1))) ∨
       (noT l = false ∧ noT r = false ∧ n = 2 ∧ ∃ b o op1 p1 a1 n1 c1 op2 p2 a2 n2 c2, ao = some ⟨b, o, none⟩ ∧ Q b ∧ Ce w b o op1 p1 (.slice a1 n1 c1) ∧ Ce w b (o + 7) op2 p2 (.slice a2 n2 c2) ∧ Ex Q w l (exV op1 p1 (.slice a1 n1 c1)) ∧ Ex Q w r (exV op2 p2 (.slice a2 n2 c2))))
theorem Ex.not_nil {Q : Nat → Prop} {w : World} {t : Tr} {v : Value} (h : Ex Q w t v) : noT t = false := by
  cases t with
  | nil => exact h.elim
  | node => rfl
theorem Ex.keep {Q : Nat → Prop} {w w' : World} (hk : ∀ k, Q k → k < w.heap.size → w'.heap[k]? = w.heap[k]?) : ∀ {t : Tr} {v : Value}, Ex Q w t v → Ex Q w' t v := by
  intro t
  induction t with
  | nil => intro v h; exact h.elim
  | node x op p l r ihl ihr =>
    rintro v ⟨ao, n, c, hv, hn, hc, h⟩
    refine ⟨ao, n, c, hv, hn, hc, ?_⟩
    rcases h with h | ⟨h1, h2, h3, b, o, op1, p1, a1, n1, c1, ha, hq, hx, hl⟩ | ⟨h1, h2, h3, b, o, op1, p1, a1, n1, c1, op2, p2, a2, n2, c2, ha, hq, hx, hy, hl, hr⟩
    · exact .inl h
    · exact .inr (.inl ⟨h1, h2, h3, b, o, op1, p1, a1, n1, c1, ha, hq, hx.keep (hk b hq hx.lt), ihl hl⟩)
    · exact .inr (.inr ⟨h1, h2, h3, b, o, op1, p1, a1, n1, c1, op2, p2, a2, n2, c2, ha, hq, hx.keep (hk b hq hx.lt), hy.keep (hk b hq hx.lt), ihl hl, ihr hr⟩)
theorem Ex.mono {Q Q' : Nat → Prop} {w : World} (hk : ∀ k, Q k → k < w.heap.size → Q' k) : ∀ {t : Tr} {v : Value}, Ex Q w t v → Ex Q' w t v := by
  intro t
  induction t with
  | nil => intro v h; exact h.elim
  | node x op p l r ihl ihr =>
    rintro v ⟨ao, n, c, hv, hn, hc, h⟩
    refine ⟨ao, n, c, hv, hn, hc, ?_⟩
    rcases h with h | ⟨h1, h2, h3, b, o, op1, p1, a1, n1, c1, ha, hq, hx, hl⟩ | ⟨h1, h2, h3, b, o, op1, p1, a1, n1, c1, op2, p2, a2, n2, c2, ha, hq, hx, hy, hl, hr⟩
    · exact .inl h
    · exact .inr (.inl ⟨h1, h2, h3, b, o, op1, p1, a1, n1, c1, ha, hk b hq hx.lt, hx, ihl hl⟩)
    · exact .inr (.inr ⟨h1, h2, h3, b, o, op1, p1, a1, n1, c1, op2, p2, a2, n2, c2, ha, hk b hq hx.lt, hx, hy, ihl hl, ihr hr⟩)
theorem Ex.leaf {Q : Nat → Prop} {w : World} (x op : Nat) (p : Pay) : Ex Q w (.node x op p .nil .nil) (exV op p (.slice none 0 0)) :=
  ⟨none, 0, 0, rfl, Nat.le_refl _, by omega, .inl ⟨rfl, rfl, rfl⟩⟩
theorem Ex.one {Q : Nat → Prop} {w : World} {op : Nat} {t : Tr} {b : Nat} {op1 : Int} {p1 : Pay} {a1 : Option Addr} {n1 c1 : Nat} (hq : Q b) (hc : Ce w b 0 op1 p1 (.slice a1 n1 c1)) (h : Ex Q w t (exV op1 p1 (.slice a1 n1 c1))) :
    Ex Q w (tOne op t) (exV op nilP (.slice (some ⟨b, 0, none⟩) 1 1)) :=
  ⟨_, 1, 1, rfl, Nat.le_refl _, by omega, .inr (.inl ⟨h.not_nil, rfl, rfl, b, 0, op1, p1, a1, n1, c1, rfl, hq, hc, h⟩)⟩
theorem Ex.two {Q : Nat → Prop} {w : World} {op : Nat} {t u : Tr} {b : Nat} {op1 : Int} {p1 : Pay} {a1 : Option Addr} {n1 c1 : Nat} {op2 : Int} {p2 : Pay} {a2 : Option Addr} {n2 c2 : Nat} (hq : Q b) (hc : Ce w b 0 op1 p1 (.slice a1 n1 c1)) (hd : Ce w b 7 op2 p2 (.slice a2 n2 c2))
    (h : Ex Q w t (exV op1 p1 (.slice a1 n1 c1))) (k : Ex Q w u (exV op2 p2 (.slice a2 n2 c2))) :
    Ex Q w (tTwo op t u) (exV op nilP (.slice (some ⟨b, 0, none⟩) 2 2)) :=
  ⟨_, 2, 2, rfl, Nat.le_refl _, by omega, .inr (.inr ⟨h.not_nil, k.not_nil, rfl, b, 0, op1, p1, a1, n1, c1, op2, p2, a2, n2, c2, rfl, hq, hc, by simpa using hd, h, k⟩)⟩

/-- The seven cells of a block of its own. -/
structure Be (w : World) (b : Nat) (op : Int) (p : Pay) (sl : Value) : Prop where
  row : w.heap[b]? = some (.cells #[.int .i64 op, .int .i64 p.1, .int .i64 p.2.1, .string p.2.2.1, .string p.2.2.2.1, .string p.2.2.2.2, sl] 63 (0, 0))
theorem Be.new (w : World) (op : Int) (p : Pay) (sl : Value) : Be (w.alloc (.cells #[.int .i64 op, .int .i64 p.1, .int .i64 p.2.1, .string p.2.2.1, .string p.2.2.2.1, .string p.2.2.2.2, sl] 63)) w.heap.size op p sl := ⟨heap_alloc_new w _⟩
theorem Be.lt {w : World} {b : Nat} {op : Int} {p : Pay} {sl : Value} (h : Be w b op p sl) : b < w.heap.size := (Array.getElem?_eq_some_iff.1 h.row).1
theorem Be.keep {w w' : World} {b : Nat} {op : Int} {p : Pay} {sl : Value} (h : Be w b op p sl) (hk : w'.heap[b]? = w.heap[b]?) : Be w' b op p sl := ⟨hk.trans h.row⟩
theorem Be.later {w w' : World} {b : Nat} {op : Int} {p : Pay} {sl : Value} (h : Be w b op p sl) (hb : Below w.heap.size w w') : Be w' b op p sl := h.keep (hb.block b h.lt)
theorem Be.but {w w' : World} {b g : Nat} {op : Int} {p : Pay} {sl : Value} (h : Be w b op p sl) (hb : But g w w') (hg : b ≠ g) : Be w' b op p sl := h.keep (hb.block b h.lt hg)
theorem Be.cells {w : World} {b : Nat} {op : Int} {p : Pay} {sl : Value} (h : Be w b op p sl) : Ce w b 0 op p sl := by
  unfold Ce World.cell?; rw [h.row]; exact ⟨rfl, rfl, rfl, rfl, rfl, rfl, rfl⟩
theorem Be.free {w : World} {b : Nat} {op : Int} {p : Pay} {sl : Value} (h : Be w b op p sl) : w.frozen? ⟨b, 0, none⟩ = false ∧ w.frozen? ⟨b, 1, none⟩ = false ∧ w.frozen? ⟨b, 2, none⟩ = false ∧ w.frozen? ⟨b, 3, none⟩ = false ∧ w.frozen? ⟨b, 4, none⟩ = false ∧ w.frozen? ⟨b, 5, none⟩ = false ∧ w.frozen? ⟨b, 6, none⟩ = false := by
  unfold World.frozen?; rw [h.row]; exact ⟨rfl, rfl, rfl, rfl, rfl, rfl, rfl⟩
/-- Block b is stored into, cell by cell. -/
def set7 (w : World) (b : Nat) (op : Int) (p : Pay) (sl : Value) : World :=
  ((((((w.setCell ⟨b, 0, none⟩ (.int .i64 op)).setCell ⟨b, 1, none⟩ (.int .i64 p.1)).setCell ⟨b, 2, none⟩ (.int .i64 p.2.1)).setCell ⟨b, 3, none⟩ (.string p.2.2.1)).setCell ⟨b, 4, none⟩ (.string p.2.2.2.1)).setCell ⟨b, 5, none⟩ (.string p.2.2.2.2)).setCell ⟨b, 6, none⟩ sl
theorem set7_heap (w : World) (b : Nat) (op : Int) (p : Pay) (sl : Value) {k : Nat} (hk : k ≠ b) : (set7 w b op p sl).heap[k]? = w.heap[k]? := by
  unfold set7
  rw [Below.heap_setCell _ _ _ _ hk, Below.heap_setCell _ _ _ _ hk, Below.heap_setCell _ _ _ _ hk, Below.heap_setCell _ _ _ _ hk, Below.heap_setCell _ _ _ _ hk, Below.heap_setCell _ _ _ _ hk, Below.heap_setCell _ _ _ _ hk]
theorem set7_size (w : World) (b : Nat) (op : Int) (p : Pay) (sl : Value) : (set7 w b op p sl).heap.size = w.heap.size := by simp [set7, World.setCell]
theorem But.set7 {g : Nat} {a w : World} (h : But g a w) {b : Nat} (hb : a.heap.size ≤ b) (op : Int) (p : Pay) (sl : Value) : But g a (set7 w b op p sl) :=
  ((((((h.new hb 0 _).new hb 1 _).new hb 2 _).new hb 3 _).new hb 4 _).new hb 5 _).new hb 6 _
theorem Ex.set7 {Q : Nat → Prop} {w : World} {t : Tr} {v : Value} (h : Ex Q w t v) {b : Nat} (hb : ¬ Q b) (op : Int) (p : Pay) (sl : Value) : Ex Q (set7 w b op p sl) t v :=
  h.keep fun k hq _ => set7_heap _ _ _ _ _ (by rintro rfl; exact hb hq)
theorem Ex.but {Q : Nat → Prop} {w w' : World} {t : Tr} {v : Value} {g : Nat} (h : Ex Q w t v) (hb : But g w w') (hg : ¬ Q g) : Ex Q w' t v :=
  h.keep fun k hq hk => hb.block k hk (by rintro rfl; exact hg hq)
theorem Ex.later {Q : Nat → Prop} {w w' : World} {t : Tr} {v : Value} (h : Ex Q w t v) (hb : Below w.heap.size w w') : Ex Q w' t v :=
  h.keep fun k hq hk => hb.block k hk

theorem bal {a w : World} (h : Below a.heap.size a w) (o : Obj) : Below a.heap.size a (w.alloc o) := h.alloc h.size o

theorem Be.set4 {w : World} {b : Nat} {op : Int} {k i : Int} {x t m : ByteArray} {sl : Value} (h : Be w b op (k, i, x, t, m) sl) (s : ByteArray) : Be (w.setCell ⟨b, 4, none⟩ (.string s)) b op (k, i, x, s, m) sl := ⟨by simp [World.setCell, Array.getElem?_modify, h.row]⟩
theorem Be.other {w : World} {b : Nat} {op : Int} {p : Pay} {sl : Value} (h : Be w b op p sl) {r : Nat} (hr : b ≠ r) (o : Nat) (v : Value) : Be (w.setCell ⟨r, o, none⟩ v) b op p sl := h.keep (Below.heap_setCell _ _ _ _ hr)
abbrev zE : Obj := .cells #[.int .i64 0, .int .i64 0, .int .i64 0, .string ⟨#[]⟩, .string ⟨#[]⟩, .string ⟨#[]⟩, .slice none 0 0] 63

end Go.Proofs.YtnlaaejdianfjaaGreat
namespace Go.Proofs.YtnlaaejdianfjaaGreat
open Go.RowKit
set_option linter.unusedVariables false

end Go.Proofs.YtnlaaejdianfjaaGreat
namespace Go.Proofs.YtnlaaejdianfjaaGreat
open Go.RowKit
set_option linter.unusedVariables false

end Go.Proofs.YtnlaaejdianfjaaGreat
namespace Go.Proofs.YtnlaaejdianfjaaGreat
open Go.RowKit
set_option linter.unusedVariables false

end Go.Proofs.YtnlaaejdianfjaaGreat
namespace Go.Proofs.YtnlaaejdianfjaaGreat
open Go.RowKit
set_option linter.unusedVariables false

end Go.Proofs.YtnlaaejdianfjaaGreat
namespace Go.Proofs.YtnlaaejdianfjaaGreat
open Go.RowKit
set_option linter.unusedVariables false

end Go.Proofs.YtnlaaejdianfjaaGreat
namespace Go.Proofs.YtnlaaejdianfjaaGreat
open Go.RowKit
set_option linter.unusedVariables false

end Go.Proofs.YtnlaaejdianfjaaGreat
