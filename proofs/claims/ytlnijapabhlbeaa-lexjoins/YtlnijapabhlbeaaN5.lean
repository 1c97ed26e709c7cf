/- The walks of num's Show and of the document's. -/
import Derived.Test.YtlnijapabhlbeaaN2
import Derived.Lib.ItoaLen
namespace Go.Proofs.Ytlnijapabhlbeaa
open Go.RowKit
set_option linter.unusedVariables false


/-- How far the digits are told: t is what stands there, r what is left of m. -/
def Shown (m : Nat) (t : List UInt8) (r : Nat) : Prop := (t = [] ∧ r = m) ∨ (t ≠ [] ∧ ((r = 0 ∧ t = Lib.decDigits m) ∨ (0 < r ∧ Lib.decDigits r ++ t = Lib.decDigits m)))
/-- For the measure: a text with nothing in it counts one. -/
def bare : Value → Nat | .string s => if s.size = 0 then 1 else 0 | _ => 0

theorem bare_nil : bare (.string ⟨#[]⟩) = 1 := rfl
theorem bare_cons (x : UInt8) (t : List UInt8) : bare (.string ⟨(x :: t).toArray⟩) = 0 := by simp [bare, ByteArray.size]
theorem bare_le (v : Value) : bare v ≤ 1 := by unfold bare; split <;> (try split) <;> omega
theorem dec_one {u : Nat} (h : u < 10) : Lib.decDigits u = [UInt8.ofNat (48 + u)] := Lib.decDigits_one h
theorem dec_more {u : Nat} (h : ¬ u < 10) : Lib.decDigits u = Lib.decDigits (u / 10) ++ [UInt8.ofNat (48 + u % 10)] := by rw [Lib.decDigits, dif_neg h]

/-- The last digit of r. -/
def dgt (r : Nat) : UInt8 := UInt8.ofNat (48 + r % 10)
theorem dgt_nat (r : Nat) : ((dgt r).toNat : Int) = 48 + (r : Int) % 10 := by
  have : (UInt8.ofNat (48 + r % 10)).toNat = 48 + r % 10 := by rw [UInt8.toNat_ofNat']; omega
  rw [dgt, this]; omega
theorem cat_str (x : UInt8) (t : List UInt8) : (⟨#[x]⟩ : ByteArray) ++ ⟨t.toArray⟩ = ⟨(x :: t).toArray⟩ := by
  apply ByteArray.ext
  simp [ByteArray.data_append]

theorem shown_step {m r : Nat} {t : List UInt8} (h : Shown m t r) (hgo : 0 < r ∨ t = []) : Shown m (dgt r :: t) (r / 10) := by
  rw [dgt]
  refine .inr ⟨by simp, ?_⟩
  rcases h with ⟨rfl, rfl⟩ | ⟨ht, ⟨rfl, rfl⟩ | ⟨hr, he⟩⟩
  · by_cases h10 : r < 10
    · exact .inl ⟨by omega, by rw [dec_one h10, Nat.mod_eq_of_lt h10]⟩
    · exact .inr ⟨by omega, by rw [dec_more h10]⟩
  · rcases hgo with hgo | hgo
    · omega
    · exact absurd hgo ht
  · by_cases h10 : r < 10
    · exact .inl ⟨by omega, by rw [← he, dec_one h10, Nat.mod_eq_of_lt h10]; rfl⟩
    · exact .inr ⟨by omega, by rw [← he, dec_more h10]; simp⟩

theorem dec_ne (u : Nat) : Lib.decDigits u ≠ [] := by
  by_cases h : u < 10
  · rw [dec_one h]; simp
  · rw [dec_more h]; simp

theorem shown_end {m r : Nat} {t : List UInt8} (h : Shown m t r) (hr : r = 0) (ht : t ≠ []) : t = Lib.decDigits m := by
  rcases h with ⟨rfl, _⟩ | ⟨_, ⟨_, h⟩ | ⟨h, _⟩⟩
  · exact absurd rfl ht
  · exact h
  · omega

theorem shown_len {m r : Nat} {t : List UInt8} (h : Shown m t r) : t.length ≤ (Lib.decDigits m).length := by
  rcases h with ⟨rfl, _⟩ | ⟨_, ⟨_, rfl⟩ | ⟨_, h⟩⟩
  · simp
  · simp
  · rw [← h]; simp

/-- A slice of one byte, made a text. -/
theorem one_byte (w : World) (r : Nat) : (convert 33 9 (.slice (some ⟨w.heap.size, 0, none⟩) 1 1)).run Try.prog (w.alloc (.cells #[.int .u8 (48 + (r : Int) % 10)] 5)) = .ok (.string ⟨#[dgt r]⟩) (w.alloc (.cells #[.int .u8 (48 + (r : Int) % 10)] 5)) := by
  refine run_convert_bytes_back (P := Try.prog) (w.alloc (.cells #[.int .u8 (48 + (r : Int) % 10)] 5)) 33 9 5 ⟨w.heap.size, 0, none⟩ 1 [dgt r] Try.underlying33 Try.underlying5 Try.underlying9 ?_
  intro j hj
  obtain rfl : j = 0 := by simpa using hj
  rw [List.getElem_cons_zero, dgt_nat]
  simp [Addr.add, World.cell?_alloc_at]

theorem dec_len {m : Nat} (h : m ≤ 9223372036854775808) : (Lib.decDigits m).length ≤ 21 := by
  have := Lib.itoa_length_le (-(m : Int)) (by omega) (by omega)
  by_cases h0 : 1 ≤ m
  · rw [Lib.itoa_neg m h0] at this
    simp at this
    omega
  · obtain rfl : m = 0 := by omega
    simp [dec_one]

theorem itoa_neg' {a : Int} {m : Nat} (hm : a.natAbs = m) (h : a < 0) : Lib.itoa a = 45 :: Lib.decDigits m := by rw [Lib.itoa, if_pos h, hm]
theorem itoa_pos' {a : Int} {m : Nat} (hm : a.natAbs = m) (h : ¬ a < 0) : Lib.itoa a = Lib.decDigits m := by rw [Lib.itoa, if_neg h, ← hm]; congr 1; omega
theorem ret_str {a b : ByteArray} (h : a = b) : Ending.returned (.string a) = .returned (.string b) := by rw [h]

set_option maxRecDepth 100000 in
theorem refShow_any (a : Int) (ha : Fits a) (w : World) : Calls Try.prog 13 #[.int .i64 a] w fun e w' => e = .returned (.string ⟨(Lib.itoa a).toArray⟩) ∧ Below w.heap.size w w' := by
  have HS : Hid _ := size_any a ha w
  generalize hm : a.natAbs = m at HS
  have hm64 : m ≤ 9223372036854775808 := by unfold Fits at ha; omega
  have hml := dec_len hm64
  replace hm : Hid _ := hm
  clear ha
  go_enter Try.func13, Try.ntmps13
  go_wp2_with fail
  refine Calls.mono HS.out ?_
  rintro e w' ⟨rfl, rfl⟩
  clear HS
  go_wp2
  go_loopw [3, 4] (fun s n wr => ∃ (t : List UInt8) (r : Nat), s = .string ⟨t.toArray⟩ ∧ n = .int .u64 r ∧ r ≤ m ∧ Shown m t r ∧ Below w'.heap.size w' wr) (fun s n _ => (intOf n).toNat + bare s)
  case atStart => exact ⟨[], m, rfl, rfl, Nat.le_refl _, .inl ⟨rfl, rfl⟩, Below.refl _ _⟩
  case round =>
    obtain ⟨t, r, rfl, rfl, hr, hS, hb⟩ := hrel
    have hlen : t.length ≤ 21 := Nat.le_trans (shown_len hS) hml
    have hc := one_byte wr r
    by_cases hr0 : r = 0
    · subst hr0
      cases t with
      | nil =>
        have hc0 : (convert 33 9 (.slice (some ⟨wr.heap.size, 0, none⟩) 1 1)).run Try.prog (wr.alloc (.cells #[.int .u8 48] 5)) = .ok (.string ⟨#[dgt 0]⟩) (wr.alloc (.cells #[.int .u8 48] 5)) := hc
        have hnext : Hid _ := shown_step hS (.inr rfl)
        clear hc hS
        go_wp2
        rw [cat_str]
        go_roundw
        case rel => exact ⟨_, _, rfl, rfl, Nat.zero_le _, hnext.out, hb.alloc hb.size _⟩
        case measure => simp only [intOf, bare_nil, bare_cons]; omega
      | cons x t =>
        have hend : Hid _ := shown_end hS rfl (by simp)
        have hlen' : t.length ≤ 20 := by simpa using hlen
        have hno : ¬ 9223372036854775807 < 1 + (t.length + 1) := by omega
        clear hc hS hlen
        by_cases h0 : a < 0
        · have g1 : decide (a < 0) = true := by simpa using h0
          go_wp2
          rw [cat_str]
          go_ret
          exact ⟨ret_str (by rw [itoa_neg' hm.out h0, hend.out]), hb⟩
        · have g1 : decide (a < 0) = false := by simpa using h0
          go_wp2
          go_ret
          exact ⟨ret_str (by rw [itoa_pos' hm.out (by omega), hend.out]), hb⟩
    · have g1 : decide ((0 : Int) < (r : Int)) = true := by simp; omega
      have g2 : decide (0 < r) = true := by simp; omega
      have hnext : Hid _ := shown_step hS (.inl (by omega))
      clear hS
      go_wp2
      rw [cat_str]
      go_roundw
      case rel => exact ⟨_, r / 10, rfl, by go_num, by omega, hnext.out, hb.alloc hb.size _⟩
      case measure => simp only [intOf, bare_cons]; omega
end Go.Proofs.Ytlnijapabhlbeaa
