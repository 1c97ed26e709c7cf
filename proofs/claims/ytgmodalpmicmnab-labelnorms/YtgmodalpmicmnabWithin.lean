/- The walk of 'label.within' and of 'label.Flows' at tags that rise: is each tag of the first among those of the second? Nothing is turned. -/
import Derived.Test.YtgmodalpmicmnabRises
namespace Go.Proofs.Ytgmodalpmicmnab
open Go.RowKit
set_option linter.unusedVariables false

/-- The look as the code does it. -/
def withinB : List Int → List Int → Bool
  | [], _ => true
  | x :: xs, ys => match ys.dropWhile (fun y => decide (y < x)) with
    | [] => false
    | y :: r => if y = x then withinB xs (y :: r) else false

theorem withinB_skip {x y : Int} (xs r : List Int) (h : y < x) : withinB (x :: xs) (y :: r) = withinB (x :: xs) r := by
  simp [withinB, h]
theorem withinB_end (x : Int) (xs : List Int) : withinB (x :: xs) [] = false := rfl
theorem withinB_miss {x y : Int} (xs r : List Int) (h : x < y) : withinB (x :: xs) (y :: r) = false := by
  have h1 : ¬ y < x := by omega
  have h2 : ¬ y = x := by omega
  simp [withinB, h1, h2]
theorem withinB_hit (x : Int) (xs r : List Int) : withinB (x :: xs) (x :: r) = withinB xs (x :: r) := by
  simp [withinB]

set_option maxHeartbeats 1000000 in
theorem within_any (ao bo : Option Addr) (n c m d : Nat) (xs ys : List Int) (w : World) (ha : Rd .u16 w ao n c xs) (hb : Rd .u16 w bo m d ys) :
    Calls Try.prog 16 #[.slice ao n c, .slice bo m d] w fun e w' => e = .returned (.bool (withinB xs ys)) ∧ w' = w := by
  have hlen := ha.len
  have hcap := ha.cap
  have hmax := ha.max
  go_enter Try.func16, Try.ntmps16
  go_wp2
  go_loop [1, 9] (fun v i => ∃ k m' d' : Nat, ∃ bo' : Option Addr, ∃ ys' : List Int, k ≤ n ∧ i = .int .i64 k ∧ v = .slice bo' m' d' ∧ Rd .u16 w bo' m' d' ys' ∧ Hid (withinB xs ys = withinB (xs.drop k) ys')) (fun _ i => n - (intOf i).toNat)
  case atStart => exact ⟨0, m, d, bo, ys, by omega, rfl, rfl, hb, rfl⟩
  case round =>
    obtain ⟨k, m', d', bo', ys', hk, rfl, rfl, hb', HE⟩ := hrel
    by_cases hlt : k < n
    · obtain ⟨b, o, rfl, hc⟩ := ha.cells (by omega)
      have hck := hc k hlt
      go_wp2
      go_loop [1] (fun v => ∃ m' d' : Nat, ∃ bo' : Option Addr, ∃ ys' : List Int, v = .slice bo' m' d' ∧ Rd .u16 w bo' m' d' ys' ∧ Hid (withinB xs ys = withinB (nth xs k :: xs.drop (k + 1)) ys')) (fun v => lenOf v)
      case atStart => exact ⟨m', d', bo', ys', rfl, hb', by rw [← drop_nth (by omega)]; exact HE⟩
      case round =>
        clear HE hb'
        obtain ⟨m', d', bo', ys', rfl, hb', HE⟩ := hrel
        have hl' := hb'.len
        have hm' := hb'.max
        have hc' := hb'.cap
        cases ys' with
        | nil =>
          obtain rfl : m' = 0 := by simpa using hl'.symm
          go_wp2
          go_ret
          exact ⟨ret_bool (by rw [HE.out, withinB_end]), rfl⟩
        | cons y r =>
          obtain ⟨q, rfl⟩ : ∃ q, m' = q + 1 := ⟨r.length, by simpa using hl'.symm⟩
          obtain ⟨b', o', rfl, hcy⟩ := hb'.cells (by omega)
          have hc0 := hcy 0 (by omega)
          rw [nth_zero, Nat.add_zero] at hc0
          have hcmp : y < nth xs k ∨ y = nth xs k ∨ nth xs k < y := by omega
          rcases hcmp with hcmp | hcmp | hcmp
          · go_wp2
            go_round
            case rel =>
              exact ⟨q, d' - 1, _, r, rfl, hb'.tail _ _ rfl (fun hq => by rw [if_neg (by omega)]) (by split <;> simp), by rw [← withinB_skip _ _ hcmp]; exact HE⟩
            case measure => simp only [lenOf]; omega
          · subst hcmp
            go_wp2
            go_round
            case rel => exact ⟨k + 1, q + 1, d', _, _, by omega, by go_num, rfl, hb', by rw [← withinB_hit]; exact HE⟩
            case measure => simp only [intOf]; omega
          · have hne : (y != nth xs k) = true := by rw [bne_iff_ne]; omega
            go_wp2
            go_ret
            exact ⟨ret_bool (by rw [HE.out, withinB_miss _ _ hcmp]), rfl⟩
    · go_wp2
      go_ret
      refine ⟨ret_bool ?_, rfl⟩
      rw [HE.out, List.drop_eq_nil_of_le (by omega)]; rfl

set_option maxHeartbeats 400000 in
theorem flows_any (ao bo : Option Addr) (n c m d : Nat) (xs ys : List Int) (w : World) (ha : Rd .u16 w ao n c xs) (hb : Rd .u16 w bo m d ys) (hx : risesB xs = true) (hy : risesB ys = true) :
    Calls Try.prog 9 #[.slice ao n c, .slice bo m d] w fun e w' => e = .returned (.bool (withinB xs ys)) ∧ Below w.heap.size w w' := by
  go_enter Try.func9, Try.ntmps9
  go_wp2_with fail
  refine (ordered_same ao n c xs w ha hx).mono ?_
  rintro e w1 ⟨rfl, hb1⟩
  go_wp2_with fail
  refine (ordered_same bo m d ys w1 (hb.later hb1) hy).mono ?_
  rintro e w2 ⟨rfl, hb2⟩
  have hb12 : Below w.heap.size w w2 := hb1.trans (hb2.mono hb1.size)
  go_wp2_with fail
  refine (within_any ao bo n c m d xs ys w2 (ha.later hb12) (hb.later hb12)).mono ?_
  rintro e w3 ⟨rfl, rfl⟩
  go_wp2
  go_ret
  exact ⟨rfl, hb12⟩

end Go.Proofs.Ytgmodalpmicmnab
