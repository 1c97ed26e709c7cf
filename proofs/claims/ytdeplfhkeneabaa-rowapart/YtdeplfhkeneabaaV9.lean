/- The walks of value's takeInt, takeText, Take. -/
import Derived.Test.YtdeplfhkeneabaaV8
import Derived.Test.YtdeplfhkeneabaaV4
import Derived.LoopN
namespace Go.Proofs.Ytdeplfhkeneabaa
open Go.RowKit
set_option linter.unusedVariables false

/-- What is told of bytes: a value, how many bytes, a fault. -/
def tkA (k i : Int) (t : List Int) (m e : Int) : Value := .tuple #[.agg #[.int .i64 k, .int .i64 i, .string (strOfNums t)], .int .i64 m, .int .i64 e]

theorem or_join {x y : Nat} (hx : x < 72057594037927936) (hy : y < 256) : bits BinOp.or IntKind.u64 ((x : Int) * 256) (y : Int) = (x : Int) * 256 + (y : Int) := by
  have e : (x : Int) * 256 = ((x * 256 : Nat) : Int) := by omega
  rw [e, bits_or_u64_nat _ _ (by omega) (by omega)]
  have h := Nat.shiftLeft_add_eq_or_of_lt (i := 8) (b := y) (by omega) x
  rw [Nat.shiftLeft_eq] at h
  rw [show x * 256 = x * 2 ^ 8 from rfl, ← h]
  omega

theorem or_join2 {m : Nat} {x : Int} (hm : m < 72057594037927936) (hx : 0 ≤ x ∧ x ≤ 255) : bits BinOp.or IntKind.u64 (IntKind.u64.wrap ((m : Int) * 256)) (IntKind.u64.wrap x) = ((m * 256 + x.toNat : Nat) : Int) := by
  have e1 : IntKind.u64.wrap ((m : Int) * 256) = (m : Int) * 256 := by rw [IntKind.wrap_u64]; omega
  have e2 : IntKind.u64.wrap x = ((x.toNat : Nat) : Int) := by rw [IntKind.wrap_u64]; omega
  rw [e1, e2, or_join hm (by omega)]
  omega
theorem turn_back {m : Nat} (hm : m < 18446744073709551616) : IntKind.i64.wrap (bits BinOp.xor IntKind.u64 (m : Int) 9223372036854775808) = (m : Int) - 9223372036854775808 := by
  rw [show (9223372036854775808 : Int) = ((2 ^ 63 : Nat) : Int) from rfl, bits_xor_u64_nat m (2 ^ 63) (by omega) (by decide), IntKind.wrap_i64]
  by_cases h0 : m < 2 ^ 63
  · rw [xor_pow h0]; omega
  · obtain ⟨x, hx⟩ : ∃ x : Nat, m = 2 ^ 63 + x := ⟨m - 2 ^ 63, by omega⟩
    rw [hx, xor_pow' (by omega)]
    omega
theorem num_take_lt {r : List Int} {j : Nat} (h : U8 r) (hj : j ≤ r.length) : 0 ≤ num (r.take j) ∧ num (r.take j) < ((256 ^ j : Nat) : Int) := by
  have := num_le (l := r.take j) fun x hx => h x (List.mem_of_mem_take hx)
  rwa [List.length_take, Nat.min_eq_left hj] at this

set_option maxRecDepth 100000 in
set_option maxHeartbeats 1000000 in
theorem takeInt_any (ao : Option Addr) (n c : Nat) (r : List Int) (w : World) (h : Rd .u8 w ao n c (1 :: r)) (hu : U8 r) :
    Calls Try.prog 28 #[.slice ao n c] w fun e w' => e = .returned (if r.length < 8 then tkA 0 0 [] 0 2 else tkA 1 (num (r.take 8) - 9223372036854775808) [] 9 0) ∧ Below w.heap.size w w' := by
  have hlen := h.len
  have hcap := h.cap
  have hmax := h.max
  have hb0 : Below w.heap.size w (w.alloc (.cells #[.int .i64 0, .int .i64 0, .string ⟨#[]⟩] 35)) := (Below.refl _ _).alloc (Nat.le_refl _) _
  rw [List.length_cons] at hlen
  obtain ⟨b, o, rfl, hc⟩ := h.cells (by omega)
  by_cases h8 : r.length < 8
  · rw [if_pos h8]
    have hn9 : n < 9 := by omega
    go_enter Try.func28, Try.ntmps28
    go_wp2
    refine bodyPost_ret (v := tkA 0 0 [] 0 2) (by simp [results, Try.results28, tkA, strOfNums, go_sem]) rfl ⟨rfl, hb0⟩
  · rw [if_neg h8]
    have hn9 : ¬ n < 9 := by omega
    have HC : Hid (∀ j, j < 8 → (w.alloc (.cells #[.int .i64 0, .int .i64 0, .string ⟨#[]⟩] 35)).cell? ⟨b, o + 1 + j, none⟩ = some (.int .u8 (nth r j))) := fun j hj => by
      have := hc (j + 1) (by omega)
      rw [nth_succ] at this
      rw [show o + 1 + j = o + (j + 1) from by omega]
      exact cell_later hb0 this
    clear hc h
    have HU : Hid (U8 r) := hu
    have HL : Hid (8 ≤ r.length) := by rw [Hid]; omega
    clear hu h8 hlen
    go_enter Try.func28, Try.ntmps28
    go_wp2
    go_loopw [5, 15] (fun v i wr => ∃ j m : Nat, j ≤ 8 ∧ i = .int .i64 j ∧ v = .int .u64 m ∧ Hid ((m : Int) = num (r.take j)) ∧ wr = w.alloc (.cells #[.int .i64 0, .int .i64 0, .string ⟨#[]⟩] 35)) (fun _ i _ => 8 - (intOf i).toNat)
    case atStart => exact ⟨0, 0, by omega, rfl, rfl, rfl, rfl⟩
    case round =>
      obtain ⟨j, m, hj, rfl, rfl, HE, rfl⟩ := hrel
      by_cases hlt : j < 8
      · have hck := HC.out j hlt
        have hx := HU.out _ (nth_mem (xs := r) (i := j) (by have := HL.out; omega))
        have hm := num_take_lt HU.out (j := j) (by have := HL.out; omega)
        rw [← HE.out] at hm
        have hm' : m < 72057594037927936 := by
          have : 256 ^ j ≤ 256 ^ 7 := Nat.pow_le_pow_right (by omega) (by omega)
          have e7 : 256 ^ 7 = 72057594037927936 := by decide
          omega
        have hor := or_join2 hm' hx
        have HN : Hid (((m * 256 + (nth r j).toNat : Nat) : Int) = num (r.take (j + 1))) := by
          rw [Hid, num_take (by have := HL.out; omega), ← HE.out]
          omega
        generalize nth r j = x at *
        generalize m * 256 + x.toNat = m' at *
        clear HE hm hm' hx
        go_wp2
        go_roundw
        case rel => exact ⟨j + 1, m', by omega, by go_num, rfl, HN, trivial⟩
        case measure => simp only [intOf]; omega
      · obtain rfl : j = 8 := by omega
        have hm := num_take_lt HU.out (j := 8) HL.out
        rw [← HE.out] at hm
        have hback := turn_back (m := m) (by have e8 : 256 ^ 8 = 18446744073709551616 := by decide
                                             omega)
        clear hm
        go_wp2
        refine bodyPost_ret (v := tkA 1 (num (r.take 8) - 9223372036854775808) [] 9 0) ?_ rfl ⟨rfl, ?_⟩
        · rw [← HE.out]
          simp [results, Try.results28, tkA, strOfNums, go_sem]
        · exact (Below.refl _ _).alloc (Nat.le_refl _) _

/-- Bytes made a text. -/
theorem conv_all {w : World} {ao : Option Addr} {n c : Nat} {xs : List Int} (h : Rd .u8 w ao n c xs) : (convert 23 9 (.slice ao n c)).run Try.prog w = .ok (.string (strOfNums xs)) w := by
  by_cases hn : 0 < n
  · obtain ⟨b, o, rfl, hc⟩ := h.cells hn
    exact run_convert_bytes_arg w 23 5 Try.underlying23 Try.underlying5 b o n c xs h.len (fun i hi => by rw [hc i hi]; rfl) 9 Try.underlying9
  · obtain rfl : n = 0 := by omega
    obtain rfl : xs = [] := List.eq_nil_of_length_eq_zero h.len
    rcases ao with _ | a
    · exact run_convert_bytes_nil w 23 5 Try.underlying23 Try.underlying5 0 c 9 Try.underlying9
    · rw [run_convert_bytes_string w 23 9 5 _ 0 c Try.underlying23 Try.underlying5 Try.underlying9, run_bytesToString w a 0 c [] (by simp [loadCells, loadCellsFrom])]
      rfl

/-- What is told of a text's bytes. -/
def txA (r : List Int) : Value := if scanE 0 r = 0 then tkA 2 0 (r.take (scanN 0 r)) (scanN 0 r + 2) 0 else tkA 0 0 [] 0 (scanE 0 r)

theorem scan_zero {i : Nat} {r : List Int} : scanE i (0 :: r) = 0 ∧ scanN i (0 :: r) = i := by simp [scanE, scanN]
theorem scan_form {i : Nat} {c : Int} {r : List Int} (h : c ≠ 0) (k : i = 30 ∨ okB c = false) : scanE i (c :: r) = 3 := by rw [scanE, if_neg h, if_pos k]
theorem scan_go {i : Nat} {c : Int} {r : List Int} (h : c ≠ 0) (k : i ≠ 30) (g : okB c = true) : scanE i (c :: r) = scanE (i + 1) r ∧ scanN i (c :: r) = scanN (i + 1) r := by
  have : ¬ (i = 30 ∨ okB c = false) := by rw [g]; simp [k]
  rw [scanE, scanN, if_neg h, if_neg this, if_neg h, if_neg this]
  exact ⟨rfl, rfl⟩

set_option maxRecDepth 100000 in
set_option maxHeartbeats 1000000 in
theorem takeText_any (ao : Option Addr) (n c : Nat) (r : List Int) (w : World) (h : Rd .u8 w ao n c (2 :: r)) :
    Calls Try.prog 29 #[.slice ao n c] w fun e w' => e = .returned (txA r) ∧ Below w.heap.size w w' := by
  have hlen := h.len
  have hcap := h.cap
  have hmax := h.max
  have hb0 : ∀ x y z, Below w.heap.size w (w.alloc (.cells #[x, y, z] 35)) := fun x y z => (Below.refl _ _).alloc (Nat.le_refl _) _
  rw [List.length_cons] at hlen
  obtain ⟨b, o, rfl, hc⟩ := h.cells (by omega)
  by_cases hr : r = []
  · subst hr
    obtain rfl : n = 1 := by simpa using hlen.symm
    have e : txA [] = tkA 0 0 [] 0 2 := rfl
    rw [e]
    clear e hlen hc h
    go_enter Try.func29, Try.ntmps29
    go_wp2
    all_goals
      refine wp_loop_rounds 1 ?_
      rw [rounds_succ]
      go_wp2
      refine bodyPost_ret (v := tkA 0 0 [] 0 2) (by simp [results, Try.results29, tkA, strOfNums, go_sem]) rfl ⟨rfl, hb0 _ _ _⟩
  · have hrl : 0 < r.length := List.length_pos_iff.2 hr
    have hsub : ∀ j, j ≤ r.length → Rd .u8 (w.alloc (.cells #[.int .i64 0, .int .i64 0, .string ⟨#[]⟩] 35)) (some ⟨b, o + 1, none⟩) j (c - 1) (r.take j) := fun j hj => by
      have := (h.later (hb0 (.int .i64 0) (.int .i64 0) (.string ⟨#[]⟩))).sub (lo := 1) (hi := 1 + j) (by omega) (by omega) (some ⟨b, o + 1, none⟩) j (c - 1) (by omega) rfl (fun _ => rfl) (by simp)
      simpa using this
    have HV : Hid (∀ j, j ≤ r.length → (convert 23 9 (.slice (some ⟨b, o + 1, none⟩) j (c - 1))).run Try.prog (w.alloc (.cells #[.int .i64 0, .int .i64 0, .string ⟨#[]⟩] 35)) = .ok (.string (strOfNums (r.take j))) (w.alloc (.cells #[.int .i64 0, .int .i64 0, .string ⟨#[]⟩] 35))) := fun j hj => conv_all (hsub j hj)
    have HC : Hid (∀ j, j < r.length → (w.alloc (.cells #[.int .i64 0, .int .i64 0, .string ⟨#[]⟩] 35)).cell? ⟨b, o + 1 + j, none⟩ = some (.int .u8 (nth r j))) := fun j hj => by
      have := hc (j + 1) (by omega)
      rw [nth_succ] at this
      rw [show o + 1 + j = o + (j + 1) from by omega]
      exact cell_later (hb0 _ _ _) this
    clear hc h hsub hr
    obtain ⟨N, hN⟩ : ∃ N, N = r.length := ⟨_, rfl⟩
    obtain rfl : n = N + 1 := by omega
    have HL : Hid (N = r.length) := hN
    rw [← hN] at HC HV hrl
    clear hN hlen
    go_enter Try.func29, Try.ntmps29
    go_wp2
    go_loopw [10] (fun i wr => ∃ j : Nat, j ≤ N ∧ j ≤ 30 ∧ i = .int .i64 j ∧ Hid (scanE 0 r = scanE j (r.drop j) ∧ scanN 0 r = scanN j (r.drop j)) ∧ wr = w.alloc (.cells #[.int .i64 0, .int .i64 0, .string ⟨#[]⟩] 35)) (fun i _ => N - (intOf i).toNat)
    case atStart => exact ⟨0, by omega, by omega, rfl, ⟨rfl, rfl⟩, rfl⟩
    case round =>
      obtain ⟨j, hj, hj30, rfl, HE, rfl⟩ := hrel
      by_cases hlt : j < N
      · have hck := HC.out j hlt
        have HD : Hid (r.drop j = nth r j :: r.drop (j + 1)) := drop_nth (by rw [← HL.out]; exact hlt)
        rw [HD.out] at HE
        generalize nth r j = x at *
        by_cases hx0 : x = 0
        · subst hx0
          have HA : Hid (txA r = tkA 2 0 (r.take j) ((j : Int) + 2) 0) := by
            have e1 : scanE 0 r = 0 := HE.out.1.trans scan_zero.1
            have e2 : scanN 0 r = j := HE.out.2.trans scan_zero.2
            rw [Hid, txA, e1, if_pos rfl, e2]
          have hv := HV.out j (by omega)
          clear HE HD
          go_wp2
          rw [HA.out]
          refine bodyPost_ret (v := tkA 2 0 (r.take j) ((j : Int) + 2) 0) (by simp [results, Try.results29, tkA, go_sem]) rfl ⟨rfl, hb0 _ _ _⟩
        · have hx1 : (x == 0) = false := by simpa using hx0
          by_cases h30 : j = 30
          · subst h30
            have HA : Hid (txA r = tkA 0 0 [] 0 3) := by
              have e1 : scanE 0 r = 3 := HE.out.1.trans (scan_form hx0 (.inl rfl))
              rw [Hid, txA, e1, if_neg (by omega)]
            clear HE HD
            go_wp2
            rw [HA.out]
            refine bodyPost_ret (v := tkA 0 0 [] 0 3) (by simp [results, Try.results29, tkA, strOfNums, go_sem]) rfl ⟨rfl, hb0 _ _ _⟩
          · have HM := mayByte_any x (w.alloc (.cells #[.int .i64 0, .int .i64 0, .string ⟨#[]⟩] 35))
            have hj31 : ((j : Int) == 30) = false := by simp; omega
            cases hx : okB x with
            | false =>
              rw [hx] at HM
              have HA : Hid (txA r = tkA 0 0 [] 0 3) := by
                have e1 : scanE 0 r = 3 := HE.out.1.trans (scan_form hx0 (.inr hx))
                rw [Hid, txA, e1, if_neg (by omega)]
              replace HM : Hid _ := HM
              clear HE HD hx
              go_wp2_with fail
              refine Calls.mono HM.out ?_
              rintro e w1 ⟨rfl, rfl⟩
              clear HM
              go_wp2
              rw [HA.out]
              refine bodyPost_ret (v := tkA 0 0 [] 0 3) (by simp [results, Try.results29, tkA, strOfNums, go_sem]) rfl ⟨rfl, hb0 _ _ _⟩
            | true =>
              rw [hx] at HM
              have HE2 : Hid (scanE 0 r = scanE (j + 1) (r.drop (j + 1)) ∧ scanN 0 r = scanN (j + 1) (r.drop (j + 1))) := by
                have g := scan_go (r := r.drop (j + 1)) hx0 h30 hx
                exact ⟨HE.out.1.trans g.1, HE.out.2.trans g.2⟩
              replace HM : Hid _ := HM
              clear HE HD hx
              go_wp2_with fail
              refine Calls.mono HM.out ?_
              rintro e w1 ⟨rfl, rfl⟩
              clear HM
              go_wp2
              go_roundw
              case rel => exact ⟨j + 1, by omega, by omega, by go_num, HE2, trivial⟩
              case measure => simp only [intOf]; omega
      · have HA : Hid (txA r = tkA 0 0 [] 0 2) := by
          have e1 : scanE 0 r = 2 := by rw [HE.out.1, List.drop_eq_nil_of_le (by rw [← HL.out]; omega)]; rfl
          rw [Hid, txA, e1, if_neg (by omega)]
        clear HE
        go_wp2
        rw [HA.out]
        refine bodyPost_ret (v := tkA 0 0 [] 0 2) (by simp [results, Try.results29, tkA, strOfNums, go_sem]) rfl ⟨rfl, hb0 _ _ _⟩

end Go.Proofs.Ytdeplfhkeneabaa
