/- The walk of the document's own Parse. -/
import Derived.Test.YtlnijapabhlbeaaN3
namespace Go.Proofs.Ytlnijapabhlbeaa
open Go.RowKit
set_option linter.unusedVariables false

set_option maxRecDepth 100000 in
theorem refParse_any (s : ByteArray) (hs : s.size ≤ 9223372036854775807) (w : World) : Calls Try.prog 30 #[.string s] w fun e w' => e = .returned (pA (bs s)) ∧ w' = w := by
  by_cases h0 : s.size = 0
  · have hp : pA (bs s) = .tuple #[.int .i64 0, .int .i64 3] := by
      rw [pA, show isNum (bs s) = false from by rw [isNum, bs_length]; simp [h0]]; rfl
    rw [hp]
    clear hp
    go_enter Try.func30, Try.ntmps30
    go_wp2
    go_ret2
    exact ⟨rfl, rfl⟩
  · go_enter Try.func30, Try.ntmps30
    go_wp2
    go_loopw [4, 5, 6] (fun v f i wr => ∃ k : Nat, k ≤ s.size ∧ i = .int .i64 k ∧ ((bs s).take k).all isDig = true ∧ (∃ z : Int, v = .int .i64 z ∧ (Fits (val ((bs s).take k)) → f = .bool false ∧ z = val ((bs s).take k)) ∧ (¬ Fits (val ((bs s).take k)) → f = .bool true)) ∧ wr = w) (fun _ _ i _ => s.size - (intOf i).toNat)
    case atStart => exact ⟨0, by omega, rfl, by simp, ⟨0, rfl, fun _ => ⟨rfl, rfl⟩, fun h => absurd (show Fits ((val ([] : List UInt8) : Nat) : Int) from by decide) h⟩, rfl⟩
    case round =>
      obtain ⟨k, hk, rfl, hd, ⟨z, rfl, c1, c2⟩, rfl⟩ := hrel
      have HD : Hid _ := hd
      clear hd
      by_cases hlt : k < s.size
      · have hat : Hid _ := bs_at s k hlt
        cases hx : isDig s[k] with
        | false =>
          have hp : pA (bs s) = .tuple #[.int .i64 0, .int .i64 3] := by
            rw [pA, show isNum (bs s) = false from by rw [isNum, all_not hat.out hx, Bool.and_false]]; rfl
          replace hp : Hid _ := hp
          rw [isDig, Bool.and_eq_false_iff, decide_eq_false_iff_not, decide_eq_false_iff_not] at hx
          clear c1 c2
          by_cases hlo : ((s[k]).toNat : Int) < 48
          · have f1 : decide (((s[k]).toNat : Int) < 48) = true := by simpa using hlo
            clear hx
            go_wp2
            go_ret2
            exact ⟨by rw [hp.out]; rfl, rfl⟩
          · have f1 : decide (((s[k]).toNat : Int) < 48) = false := by simpa using hlo
            have f2 : decide (57 < ((s[k]).toNat : Int)) = true := by simp; omega
            clear hx
            go_wp2
            go_ret2
            exact ⟨by rw [hp.out]; rfl, rfl⟩
        | true =>
          have f := hx
          rw [isDig, Bool.and_eq_true, decide_eq_true_iff, decide_eq_true_iff] at f
          obtain ⟨d1, d2⟩ := f
          have f1 : decide (((s[k]).toNat : Int) < 48) = false := by simp; omega
          have f2 : decide (57 < ((s[k]).toNat : Int)) = false := by simp; omega
          have hall : Hid _ := all_take hat.out HD.out hx
          have hv : Hid _ := val_take hat.out
          clear hx
          by_cases hf : Fits (val ((bs s).take k))
          · obtain ⟨rfl, rfl⟩ := c1 hf
            clear c2 c1
            generalize hz : val ((bs s).take k) = z at *
            replace hz : Hid _ := hz
            have hn : ((val ((bs s).take (k + 1)) : Nat) : Int) = (z : Int) * 10 + ((s[k].toNat : Int) - 48) := by rw [hv.out]; omega
            obtain ⟨g1, g2⟩ := hf
            by_cases hf' : Fits (val ((bs s).take (k + 1)))
            · have g3 : decide ((9223372036854775807 - ((s[k].toNat : Int) - 48)) / 10 < (z : Int)) = false := by rw [hn] at hf'; unfold Fits at hf'; simp; omega
              have b1 : (z : Int) * 10 ≤ 9223372036854775807 := by rw [hn] at hf'; unfold Fits at hf'; omega
              have b2 : (z : Int) * 10 + ((s[k].toNat : Int) - 48) ≤ 9223372036854775807 := by rw [hn] at hf'; unfold Fits at hf'; omega
              replace hn : Hid _ := hn
              replace hf' : Hid _ := hf'
              go_wp2
              go_roundw
              case rel => exact ⟨k + 1, by omega, by go_num, hall.out, ⟨_, rfl, fun _ => ⟨rfl, hn.out.symm⟩, fun h => absurd hf'.out h⟩, trivial⟩
              case measure => simp only [intOf]; omega
            · have g3 : decide ((9223372036854775807 - ((s[k].toNat : Int) - 48)) / 10 < (z : Int)) = true := by rw [hn] at hf'; unfold Fits at hf'; simp; omega
              replace hn : Hid _ := hn
              replace hf' : Hid _ := hf'
              go_wp2
              go_roundw
              case rel => exact ⟨k + 1, by omega, by go_num, hall.out, ⟨_, rfl, fun h => absurd h hf'.out, fun h => rfl⟩, trivial⟩
              case measure => simp only [intOf]; omega
          · have e := c2 hf
            subst e
            have hf' : ¬ Fits (val ((bs s).take (k + 1))) := by rw [hv.out]; unfold Fits at *; omega
            replace hf' : Hid _ := hf'
            clear c1 c2 hf
            go_wp2
            go_roundw
            case rel => exact ⟨k + 1, by omega, by go_num, hall.out, ⟨_, rfl, fun h => absurd h hf'.out, fun h => rfl⟩, trivial⟩
            case measure => simp only [intOf]; omega
      · have hall := HD.out
        rw [List.take_of_length_le (by rw [bs_length]; omega)] at hall c1 c2
        have hp : pA (bs s) = nA (val (bs s)) := by rw [pA, show isNum (bs s) = true from by rw [isNum, hall, Bool.and_true, bs_length]; simp; omega]; rfl
        by_cases hf : Fits (val (bs s))
        · obtain ⟨rfl, rfl⟩ := c1 hf
          rw [nA_in hf] at hp
          replace hp : Hid _ := hp
          clear c1 c2 hf hall
          go_wp2
          go_ret2
          exact ⟨by rw [hp.out]; rfl, rfl⟩
        · have e := c2 hf
          subst e
          rw [nA_out hf] at hp
          replace hp : Hid _ := hp
          clear c1 c2 hf hall
          go_wp2
          go_ret2
          exact ⟨by rw [hp.out]; rfl, rfl⟩
end Go.Proofs.Ytlnijapabhlbeaa
