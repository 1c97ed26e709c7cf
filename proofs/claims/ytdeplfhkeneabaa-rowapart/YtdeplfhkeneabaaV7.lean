/- The walks of value's putInt and Key. -/
import Derived.Test.YtdeplfhkeneabaaV3
import Derived.Test.YtdeplfhkeneabaaV2
namespace Go.Proofs.Ytdeplfhkeneabaa
open Go.RowKit
set_option linter.unusedVariables false

theorem xor_pow {n x : Nat} (h : x < 2 ^ n) : x ^^^ 2 ^ n = 2 ^ n + x := by
  apply Nat.eq_of_testBit_eq
  intro i
  rw [Nat.testBit_xor, Nat.testBit_two_pow]
  rcases Nat.lt_trichotomy i n with k | k | k
  · rw [Nat.testBit_two_pow_add_gt k, decide_eq_false (by omega)]; simp
  · subst k
    rw [Nat.testBit_two_pow_add_eq, Nat.testBit_lt_two_pow h]; simp
  · have h1 : x < 2 ^ i := Nat.lt_trans h (Nat.pow_lt_pow_right (by omega) k)
    have h2 : 2 ^ n + x < 2 ^ i := by
      have : 2 ^ (n + 1) ≤ 2 ^ i := Nat.pow_le_pow_right (by omega) k
      rw [Nat.pow_succ] at this
      omega
    rw [Nat.testBit_lt_two_pow h1, Nat.testBit_lt_two_pow h2, decide_eq_false (by omega)]; rfl
theorem xor_pow' {n x : Nat} (h : x < 2 ^ n) : (2 ^ n + x) ^^^ 2 ^ n = x := by
  rw [← xor_pow h, Nat.xor_assoc, Nat.xor_self, Nat.xor_zero]

theorem be_take {u j : Nat} (h : j < 8) : (be 8 u).take (j + 1) = (be 8 u).take j ++ [((u / 256 ^ (7 - j) % 256 : Nat) : Int)] := by
  rcases (by omega : j = 0 ∨ j = 1 ∨ j = 2 ∨ j = 3 ∨ j = 4 ∨ j = 5 ∨ j = 6 ∨ j = 7) with rfl | rfl | rfl | rfl | rfl | rfl | rfl | rfl <;> simp [be]

/-- The highest bit turned. -/
theorem turn_bits {n : Int} (h : Fits n) : bits BinOp.xor IntKind.u64 (IntKind.u64.wrap n) 9223372036854775808 = ((turn n : Nat) : Int) := by
  rw [IntKind.wrap_u64]
  obtain ⟨u, hu⟩ : ∃ u : Nat, n % 18446744073709551616 = (u : Int) := ⟨(n % 18446744073709551616).toNat, by omega⟩
  rw [hu, show (9223372036854775808 : Int) = ((2 ^ 63 : Nat) : Int) from rfl, bits_xor_u64_nat u (2 ^ 63) (by omega) (by decide)]
  unfold Fits at h
  by_cases h0 : 0 ≤ n
  · rw [xor_pow (by omega)]
    unfold turn
    omega
  · obtain ⟨x, hx⟩ : ∃ x : Nat, u = 2 ^ 63 + x := ⟨u - 2 ^ 63, by omega⟩
    rw [hx, xor_pow' (by omega)]
    unfold turn
    omega

set_option maxRecDepth 100000 in
set_option maxHeartbeats 1000000 in
theorem putInt_any (B : Nat) (v : Value) (l : List Int) (n : Int) (hf : Fits n) (w : World) (hown : Own B w v l) (hB : B ≤ w.heap.size) (hl : l.length ≤ 2000) :
    Calls Try.prog 31 #[v, .int .i64 n] w fun e w' => ∃ v', e = .returned v' ∧ Own B w' v' (l ++ be 8 (turn n)) ∧ Below B w w' ∧ NN v v' := by
  have ht := turn_bits hf
  have hlt := turn_lt hf
  clear hf
  generalize turn n = u at *
  go_enter Try.func31, Try.ntmps31
  go_wp2
  go_loopw [0, 6] (fun v' i wr => ∃ j : Nat, j ≤ 8 ∧ i = .int .i64 (56 - 8 * (j : Int)) ∧ (∃ out : List Int, Own B wr v' out ∧ Hid (out = l ++ (be 8 u).take j)) ∧ Below B w wr ∧ NN v v') (fun _ i _ => (intOf i + 8).toNat)
  case atStart => exact ⟨0, by omega, rfl, ⟨l, hown, by simp [Hid]⟩, Below.refl _ _, NN.refl _⟩
  case round =>
    obtain ⟨j, hj, rfl, ⟨out, ho, HE⟩, hb, hn⟩ := hrel
    by_cases hlt : j < 8
    · have hx : (u : Int) / 2 ^ (56 - 8 * j) % 256 = ((u / 256 ^ (7 - j) % 256 : Nat) : Int) := by
        rw [show 56 - 8 * j = 8 * (7 - j) from by omega, Int.pow_mul]
        rfl
      have HE2 : Hid (out ++ [((u / 256 ^ (7 - j) % 256 : Nat) : Int)] = l ++ (be 8 u).take (j + 1)) := by rw [Hid, be_take hlt, HE.out, List.append_assoc]
      have hol : out.length ≤ 2008 := by rw [HE.out, List.length_append, List.length_take, be_len]; omega
      generalize ((u / 256 ^ (7 - j) % 256 : Nat) : Int) = x at *
      clear HE hown
      go_wp2_with (at_builtin; refine wpList_app rfl (.tmp 14) (.tmp 19) 23 rfl B _ _ out [x] rfl rfl (ho.alloc _) (SrcB.one wr x) (by simp; omega) (by have := hb.size; simp; omega) ?_)
      intro v2 w2 ho2 hb2 hn2
      have hb3 : Below B w w2 := (hb.alloc (Nat.le_trans hB hb.size) _).trans hb2
      have hn3 : NN v v2 := hn.trans hn2
      clear hb2 hn2 hn ho hb
      go_wp2
      go_roundw
      case rel => exact ⟨j + 1, by omega, by go_num, ⟨_, ho2, HE2⟩, hb3, hn3⟩
      case measure => simp only [intOf]; omega
    · obtain rfl : j = 8 := by omega
      go_wp2
      go_ret
      refine ⟨_, rfl, ?_, hb, hn⟩
      rw [HE.out, List.take_of_length_le (by rw [be_len]; omega)] at ho
      exact ho

end Go.Proofs.Ytdeplfhkeneabaa
