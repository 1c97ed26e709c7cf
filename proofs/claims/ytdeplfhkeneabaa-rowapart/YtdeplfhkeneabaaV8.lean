/- The walk of value.Key. -/
import Derived.Test.YtdeplfhkeneabaaV7
namespace Go.Proofs.Ytdeplfhkeneabaa
open Go.RowKit
set_option linter.unusedVariables false

theorem box3 (w : World) (a b c : Value) (t : TypeId) : (w.alloc (.cells #[a, b, c] t)).cell? ⟨w.heap.size, 0, none⟩ = some a ∧ (w.alloc (.cells #[a, b, c] t)).cell? ⟨w.heap.size, 1, none⟩ = some b ∧ (w.alloc (.cells #[a, b, c] t)).cell? ⟨w.heap.size, 2, none⟩ = some c :=
  ⟨by simp [go_sem], by simp [go_sem], by simp [go_sem]⟩

set_option maxRecDepth 100000 in
set_option maxHeartbeats 1000000 in
theorem key_own (ao : Option Addr) (n c : Nat) (bs : List Int) (k i : Int) (s : ByteArray) (w : World) (h : Rd .u8 w ao n c bs) (hn : n ≤ 1000) (hs : s.size ≤ 1000) (hf : Fits i) (hk : k = 1 ∨ k = 2) :
    Calls Try.prog 24 #[.slice ao n c, .agg #[.int .i64 k, .int .i64 i, .string s]] w fun e w' => ∃ v, e = .returned v ∧ Own w.heap.size w' v (bs ++ keyL k i (nums s)) ∧ Below w.heap.size w w' ∧ v ≠ .slice none 0 0 := by
  obtain ⟨i0, hi, hz0, hz1, hz2⟩ := info_parts Try.info5
  have hlen := h.len
  subst hlen
  obtain ⟨c0, c1, c2⟩ := box3 w (.int .i64 k) (.int .i64 i) (.string s) 35
  have hb0 : Below w.heap.size w (w.alloc (.cells #[.int .i64 k, .int .i64 i, .string s] 35)) := (Below.refl _ _).alloc (Nat.le_refl _) _
  have hnl := nums_len s
  go_enter Try.func24, Try.ntmps24
  go_upto_region 1 with fail
  generalize w.alloc (.cells #[.int .i64 k, .int .i64 i, .string s] 35) = W at *
  replace h := h.later hb0
  go_wp2_with (at_make; refine wpList_make_own _ rfl _ _ 23 rfl W.heap.size 5 i0 (.int .u8 0) 1 Try.underlying23 hi hz0 hz1 .i64 .i64 _ (bs.length + 9 + s.size) rfl rfl (by omega) (by rw [hz2]; omega) (by unfold maxLen; omega) (Nat.le_refl _) ?_)
  intro w1 hown1 hg1
  have hB1 : Below W.heap.size W w1 := (Below.refl W.heap.size W).grown hg1 (Nat.le_refl _) (fun k hk => by cases hk)
  have ho1 : Own W.heap.size w1 _ [] := hown1
  clear hg1 hown1
  go_wp2_with (at_builtin; refine wpList_app rfl (.tmp 14) (.tmp 15) 23 rfl W.heap.size _ _ [] bs rfl rfl ho1 (SrcB.ofRd (h.later hB1)) (by simp; omega) hB1.size ?_)
  intro v2 w2 ho2 hb2 hn2
  replace hn2 : v2 ≠ .slice none 0 0 := hn2 (by simp)
  have hB2 : Below W.heap.size W w2 := hB1.trans hb2
  have d0 := cell_later hB2 c0
  have d1 := cell_later hB2 c1
  have d2 := cell_later hB2 c2
  clear ho1 hB1 hb2 hi
  rcases hk with rfl | rfl
  · have HP : Hid (∀ v3 w3, _) := fun v3 w3 (h3 : Own W.heap.size w3 v3 (bs ++ [1])) (hB3 : W.heap.size ≤ w3.heap.size) => putInt_any W.heap.size v3 (bs ++ [1]) i hf w3 h3 hB3 (by simp; omega)
    go_wp2_with (first | (at_builtin; refine wpList_app rfl (.tmp 21) (.tmp 22) 23 rfl W.heap.size _ _ bs [1] rfl rfl (ho2.alloc _) (SrcB.one w2 1) (by simp; omega) (by have := hB2.size; simp; omega) ?_) | fail)
    intro v3 w3 ho3 hb3 hn3
    replace hn3 : v3 ≠ .slice none 0 0 := hn3 hn2
    have hB3 : Below W.heap.size W w3 := (hB2.alloc hB2.size _).trans hb3
    replace d1 := cell_later hB3 c1
    clear d0 d2 ho2 hb3 hn2 hB2 c0 c1 c2
    go_wp2_with fail
    refine Calls.mono (HP.out v3 w3 ho3 hB3.size) ?_
    rintro e w4 ⟨v4, rfl, ho4, hb4, hn4⟩
    replace hn4 := hn4 hn3
    have hB4 : Below W.heap.size W w4 := hB3.trans hb4
    clear HP ho3 hb4 hB3 hn3 d1
    go_wp2
    go_ret
    refine ⟨_, rfl, ?_, hb0.trans (hB4.mono hb0.size), hn4⟩
    have e : bs ++ keyL 1 i (nums s) = bs ++ [1] ++ be 8 (turn i) := by rw [keyL, if_pos rfl]; simp
    rw [e]
    exact ho4.base hb0.size
  · clear hf
    go_wp2_with (first | (at_builtin; refine wpList_app rfl (.tmp 30) (.tmp 31) 23 rfl W.heap.size _ _ bs [2] rfl rfl (ho2.alloc _) (SrcB.one w2 2) (by simp; omega) (by have := hB2.size; simp; omega) ?_) | fail)
    intro v3 w3 ho3 hb3 hn3
    replace hn3 : v3 ≠ .slice none 0 0 := hn3 hn2
    have hB3 : Below W.heap.size W w3 := (hB2.alloc hB2.size _).trans hb3
    replace d2 := cell_later hB3 c2
    clear d0 d1 ho2 hb3 hn2 hB2 c0 c1 c2
    go_wp2_with (first | (at_builtin; refine wpList_app rfl (.tmp 33) (.tmp 35) 9 rfl W.heap.size _ _ (bs ++ [2]) (nums s) rfl rfl ho3 (SrcB.ofText w3 s) (by simp; omega) hB3.size ?_) | fail)
    intro v4 w4 ho4 hb4 hn4
    replace hn4 : v4 ≠ .slice none 0 0 := hn4 hn3
    have hB4 : Below W.heap.size W w4 := hB3.trans hb4
    clear ho3 hb4 hn3 hB3 d2
    replace ho4 : Own W.heap.size w4 v4 (bs ++ 2 :: nums s) := by simpa using ho4
    go_wp2_with (first | (at_builtin; refine wpList_app rfl (.tmp 37) (.tmp 38) 23 rfl W.heap.size _ _ (bs ++ 2 :: nums s) [0] rfl rfl (ho4.alloc _) (SrcB.one w4 0) (by simp; omega) (by have := hB4.size; simp; omega) ?_) | fail)
    intro v5 w5 ho5 hb5 hn5
    replace hn5 : v5 ≠ .slice none 0 0 := hn5 hn4
    have hB5 : Below W.heap.size W w5 := (hB4.alloc hB4.size _).trans hb5
    clear ho4 hb5 hn4 hB4
    go_wp2
    go_ret
    refine ⟨_, rfl, ?_, hb0.trans (hB5.mono hb0.size), hn5⟩
    rw [keyL, if_neg (by omega)]
    have := ho5.base hb0.size
    simpa using this

/-- The same, read. -/
theorem key_rd (ao : Option Addr) (n c : Nat) (bs : List Int) (k i : Int) (s : ByteArray) (w : World) (h : Rd .u8 w ao n c bs) (hn : n ≤ 1000) (hs : s.size ≤ 1000) (hf : Fits i) (hk : k = 1 ∨ k = 2) :
    Calls Try.prog 24 #[.slice ao n c, .agg #[.int .i64 k, .int .i64 i, .string s]] w fun e w' => ∃ oo q, e = .returned (.slice oo (bs ++ keyL k i (nums s)).length q) ∧ Rd .u8 w' oo (bs ++ keyL k i (nums s)).length q (bs ++ keyL k i (nums s)) ∧ Below w.heap.size w w' := by
  refine Calls.mono (key_own ao n c bs k i s w h hn hs hf hk) ?_
  rintro e w1 ⟨v, rfl, hown, hB, _⟩
  obtain ⟨oo, q, hv, hr⟩ := hown.rd
  exact ⟨oo, q, by rw [hv], hr, hB⟩

end Go.Proofs.Ytdeplfhkeneabaa
