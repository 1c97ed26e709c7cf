/- The walk of the document's TakeKey. -/
import Derived.Test.YtdeplfhkeneabaaVa
namespace Go.Proofs.Ytdeplfhkeneabaa
open Go.RowKit
set_option linter.unusedVariables false

set_option maxRecDepth 100000 in
set_option maxHeartbeats 1000000 in
theorem refTake_any (ao : Option Addr) (n c : Nat) (bs : List Int) (w : World) (h : Rd .u8 w ao n c bs) (hu : U8 bs) :
    Calls Try.prog 21 #[.slice ao n c] w fun e w' => e = .returned (tkR bs) ∧ Below w.heap.size w w' := by
  have hlen := h.len
  have hcap := h.cap
  have hmax := h.max
  have hb0 : ∀ x y z, Below w.heap.size w (w.alloc (.cells #[x, y, z] 35)) := fun x y z => (Below.refl _ _).alloc (Nat.le_refl _) _
  cases bs with
  | nil =>
    obtain rfl : n = 0 := by simpa using hlen.symm
    rw [tkR_nil]
    go_enter Try.func21, Try.ntmps21
    go_wp2
    refine bodyPost_ret (v := tkA 0 0 [] 0 2) (by simp [results, Try.results21, tkA, strOfNums, go_sem]) rfl ⟨rfl, hb0 _ _ _⟩
  | cons x r =>
    obtain ⟨q, rfl⟩ : ∃ q, n = q + 1 := ⟨r.length, by simpa using hlen.symm⟩
    have hlr : r.length = q := by simpa using hlen
    obtain ⟨b, o, rfl, hc⟩ := h.cells (by omega)
    have hc0 := hc 0 (by omega)
    rw [nth_zero, Nat.add_zero] at hc0
    replace hc0 := cell_later (hb0 (.int .i64 0) (.int .i64 0) (.string ⟨#[]⟩)) hc0
    have HC : Hid (∀ j, j < q → (w.alloc (.cells #[.int .i64 0, .int .i64 0, .string ⟨#[]⟩] 35)).cell? ⟨b, o + (j + 1), none⟩ = some (.int .u8 (nth r j))) := fun j hj => by
      have := hc (j + 1) (by omega)
      rw [nth_succ] at this
      exact cell_later (hb0 _ _ _) this
    have HU : Hid (U8 r) := fun z hz => hu z (by simp [hz])
    have HL : Hid (r.length = q) := hlr
    clear hc hu hlen
    by_cases h1 : x = 1
    · subst h1
      rw [tkR_one]
      by_cases h8 : r.length < 8
      · rw [if_pos h8]
        have hq : q < 8 := by omega
        clear hlr h8 h
        go_enter Try.func21, Try.ntmps21
        go_wp2
        refine bodyPost_ret (v := tkA 0 0 [] 0 2) (by simp [results, Try.results21, tkA, strOfNums, go_sem]) rfl ⟨rfl, hb0 _ _ _⟩
      · rw [if_neg h8]
        have hq : 8 ≤ q := by omega
        clear hlr h8 h
        go_enter Try.func21, Try.ntmps21
        go_wp2
        go_loopw [5, 6] (fun v i wr => ∃ j m : Nat, j ≤ 8 ∧ i = .int .i64 ((j : Int) + 1) ∧ v = .int .u64 m ∧ Hid ((m : Int) = num (r.take j)) ∧ wr = w.alloc (.cells #[.int .i64 0, .int .i64 0, .string ⟨#[]⟩] 35)) (fun _ i _ => 9 - (intOf i).toNat)
        case atStart => exact ⟨0, 0, by omega, rfl, rfl, rfl, rfl⟩
        case round =>
          obtain ⟨j, m, hj, rfl, rfl, HE, rfl⟩ := hrel
          by_cases hlt : j < 8
          · have hck := HC.out j (by omega)
            have hx := HU.out _ (nth_mem (xs := r) (i := j) (by rw [HL.out]; omega))
            have hm := num_take_lt HU.out (j := j) (by rw [HL.out]; omega)
            rw [← HE.out] at hm
            have hm' : m < 72057594037927936 := by
              have : 256 ^ j ≤ 256 ^ 7 := Nat.pow_le_pow_right (by omega) (by omega)
              have e7 : 256 ^ 7 = 72057594037927936 := by decide
              omega
            have HN : Hid (((m * 256 + (nth r j).toNat : Nat) : Int) = num (r.take (j + 1))) := by
              rw [Hid, num_take (by rw [HL.out]; omega), ← HE.out]
              omega
            generalize nth r j = x at *
            clear HE hm
            go_wp2
            go_roundw
            case rel => exact ⟨j + 1, m * 256 + x.toNat, by omega, by go_num, by rw [show ((m : Int) * 256 + x) = ((m * 256 + x.toNat : Nat) : Int) from by omega], HN, trivial⟩
            case measure => simp only [intOf]; omega
          · obtain rfl : j = 8 := by omega
            have hm := num_take_lt HU.out (j := 8) (by rw [HL.out]; exact hq)
            rw [← HE.out] at hm
            have hback := turn_back (m := m) (by have e8 : 256 ^ 8 = 18446744073709551616 := by decide
                                                 omega)
            clear hm
            go_wp2
            refine bodyPost_ret (v := tkA 1 (num (r.take 8) - 9223372036854775808) [] 9 0) ?_ rfl ⟨rfl, hb0 _ _ _⟩
            rw [← HE.out]
            simp [results, Try.results21, tkA, strOfNums, go_sem]
    by_cases h2 : x = 2
    · subst h2
      rw [tkR_two]
      have hsub : ∀ j, j ≤ q → Rd .u8 (w.alloc (.cells #[.int .i64 0, .int .i64 0, .string ⟨#[]⟩] 35)) (some ⟨b, if c = 1 then o else o + 1, none⟩) j (c - 1) (r.take j) := fun j hj => by
        by_cases hc1 : c = 1
        · obtain rfl : j = 0 := by omega
          rw [if_pos hc1]
          exact ⟨by simp, by omega, by omega, fun e => by simp at e, fun hp => by omega⟩
        · rw [if_neg hc1]
          have := (h.later (hb0 (.int .i64 0) (.int .i64 0) (.string ⟨#[]⟩))).sub (lo := 1) (hi := 1 + j) (by omega) (by omega) (some ⟨b, o + 1, none⟩) j (c - 1) (by omega) rfl (fun _ => rfl) (by simp)
          simpa using this
      have HV : Hid (∀ j, j < q → (convert 23 9 (.slice (some ⟨b, o + 1, none⟩) j (c - 1))).run Try.prog (w.alloc (.cells #[.int .i64 0, .int .i64 0, .string ⟨#[]⟩] 35)) = .ok (.string (strOfNums (r.take j))) (w.alloc (.cells #[.int .i64 0, .int .i64 0, .string ⟨#[]⟩] 35))) := fun j hj => by
        have := hsub j (by omega)
        rw [if_neg (by omega)] at this
        exact conv_all this
      clear hsub hlr h h1
      go_enter Try.func21, Try.ntmps21
      go_wp2
      go_loopw [7] (fun i wr => ∃ j : Nat, j ≤ q ∧ j ≤ 30 ∧ i = .int .i64 ((j : Int) + 1) ∧ Hid (scanE 0 r = scanE j (r.drop j) ∧ scanN 0 r = scanN j (r.drop j)) ∧ wr = w.alloc (.cells #[.int .i64 0, .int .i64 0, .string ⟨#[]⟩] 35)) (fun i _ => q + 1 - (intOf i).toNat)
      case atStart => exact ⟨0, by omega, by omega, rfl, ⟨rfl, rfl⟩, rfl⟩
      case round =>
        obtain ⟨j, hj, hj30, rfl, HE, rfl⟩ := hrel
        by_cases hlt : j < q
        · have hck := HC.out j hlt
          have HD : Hid (r.drop j = nth r j :: r.drop (j + 1)) := drop_nth (by rw [HL.out]; exact hlt)
          rw [HD.out] at HE
          generalize nth r j = x at *
          by_cases hx0 : x = 0
          · subst hx0
            have HA : Hid (txA r = tkA 2 0 (r.take j) ((j : Int) + 2) 0) := by
              have e1 : scanE 0 r = 0 := HE.out.1.trans scan_zero.1
              have e2 : scanN 0 r = j := HE.out.2.trans scan_zero.2
              rw [Hid, txA, e1, if_pos rfl, e2]
            have hv := HV.out j hlt
            clear HE HD
            go_wp2
            rw [HA.out]
            refine bodyPost_ret (v := tkA 2 0 (r.take j) ((j : Int) + 2) 0) (by simp [results, Try.results21, tkA, go_sem]; omega) rfl ⟨rfl, hb0 _ _ _⟩
          · have hx1 : (x == 0) = false := by simpa using hx0
            cases hx : okB x with
            | false =>
              have HA : Hid (txA r = tkA 0 0 [] 0 3) := by
                have e1 : scanE 0 r = 3 := HE.out.1.trans (scan_form hx0 (.inr hx))
                rw [Hid, txA, e1, if_neg (by omega)]
              clear HE HD
              by_cases hlo : x < 32
              · have f1 : decide (x < 32) = true := by simpa using hlo
                clear hx
                go_wp2
                rw [HA.out]
                refine bodyPost_ret (v := tkA 0 0 [] 0 3) (by simp [results, Try.results21, tkA, strOfNums, go_sem]) rfl ⟨rfl, hb0 _ _ _⟩
              · have f1 : decide (x < 32) = false := by simpa using hlo
                have f2 : decide (126 < x) = true := by
                  rw [okB, Bool.and_eq_false_iff, decide_eq_false_iff_not, decide_eq_false_iff_not] at hx
                  simp; omega
                clear hx
                go_wp2
                rw [HA.out]
                refine bodyPost_ret (v := tkA 0 0 [] 0 3) (by simp [results, Try.results21, tkA, strOfNums, go_sem]) rfl ⟨rfl, hb0 _ _ _⟩
            | true =>
              have f := okB_iff.1 hx
              have f1 : decide (x < 32) = false := by simp; omega
              have f2 : decide (126 < x) = false := by simp; omega
              by_cases h30 : j = 30
              · subst h30
                have HA : Hid (txA r = tkA 0 0 [] 0 3) := by
                  have e1 : scanE 0 r = 3 := HE.out.1.trans (scan_form hx0 (.inl rfl))
                  rw [Hid, txA, e1, if_neg (by omega)]
                clear HE HD hx f
                go_wp2
                rw [HA.out]
                refine bodyPost_ret (v := tkA 0 0 [] 0 3) (by simp [results, Try.results21, tkA, strOfNums, go_sem]) rfl ⟨rfl, hb0 _ _ _⟩
              · have HE2 : Hid (scanE 0 r = scanE (j + 1) (r.drop (j + 1)) ∧ scanN 0 r = scanN (j + 1) (r.drop (j + 1))) := by
                  have g := scan_go (r := r.drop (j + 1)) hx0 h30 hx
                  exact ⟨HE.out.1.trans g.1, HE.out.2.trans g.2⟩
                have f3 : decide ((30 : Int) < (j : Int) + 1) = false := by simp; omega
                clear HE HD hx f
                go_wp2
                go_roundw
                case rel => exact ⟨j + 1, by omega, by omega, by go_num, HE2, trivial⟩
                case measure => simp only [intOf]; omega
        · have HA : Hid (txA r = tkA 0 0 [] 0 2) := by
            have e1 : scanE 0 r = 2 := by rw [HE.out.1, List.drop_eq_nil_of_le (by rw [HL.out]; omega)]; rfl
            rw [Hid, txA, e1, if_neg (by omega)]
          clear HE
          go_wp2
          rw [HA.out]
          refine bodyPost_ret (v := tkA 0 0 [] 0 2) (by simp [results, Try.results21, tkA, strOfNums, go_sem]) rfl ⟨rfl, hb0 _ _ _⟩
    · have g1 : (x == 1) = false := by simpa using h1
      have g2 : (x == 2) = false := by simpa using h2
      rw [tkR_else r h1 h2]
      clear h
      go_enter Try.func21, Try.ntmps21
      go_wp2
      refine bodyPost_ret (v := tkA 0 0 [] 0 3) (by simp [results, Try.results21, tkA, strOfNums, go_sem]) rfl ⟨rfl, hb0 _ _ _⟩

end Go.Proofs.Ytdeplfhkeneabaa
