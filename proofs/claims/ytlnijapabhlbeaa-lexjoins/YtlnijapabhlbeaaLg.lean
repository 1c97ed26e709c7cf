/- The walk of LexNames. -/
import Derived.Test.YtlnijapabhlbeaaLf
namespace Go.Proofs.Ytlnijapabhlbeaa
open Go.RowKit
set_option linter.unusedVariables false

/-- The signs of names. -/
def nl : List UInt8 := [97, 98, 99, 100, 101, 102, 103, 104, 105, 106, 107, 108, 109, 110, 111, 112, 113, 114, 115, 116, 117, 118, 119, 120, 121, 122, 95, 48, 49, 50, 51, 52, 53, 54, 55, 56, 57]
theorem nl_tab : ∀ r, r < 37 → isN (nl.getD r 0) = true ∧ (r < 27 → isL (nl.getD r 0) = true) := by decide
theorem str_index (s : ByteArray) (r : Nat) (h : r < s.size) (w : World) : (Instr.index 9 (.string s) (.int .i64 (r : Int))).run Try.prog w = .ok (.int .u8 (s[r].toNat : Int)) w := by go_simp
theorem nl_index (r : Nat) (hr : r < 37) (w : World) : (Instr.index 9 (.string ⟨#[97, 98, 99, 100, 101, 102, 103, 104, 105, 106, 107, 108, 109, 110, 111, 112, 113, 114, 115, 116, 117, 118, 119, 120, 121, 122, 95, 48, 49, 50, 51, 52, 53, 54, 55, 56, 57]⟩) (.int .i64 (r : Int))).run Try.prog w = .ok (.int .u8 ((nl.getD r 0).toNat : Int)) w := by
  have h := str_index ⟨nl.toArray⟩ r hr w
  have e : (⟨nl.toArray⟩ : ByteArray)[r]'hr = nl.getD r 0 := by
    have h2 : r < nl.length := hr
    rw [List.getD, List.getElem?_eq_getElem h2]
    rfl
  rw [e] at h
  exact h

/-- A name, up to so many signs. -/
def Nm (l : List UInt8) : Prop := l.all isN = true ∧ (0 < l.length → (l[0]?).any isL = true)
theorem Nm.snoc {l : List UInt8} (h : Nm l) {c : UInt8} (hc : isN c = true) (h0 : l.length = 0 → isL c = true) : Nm (l ++ [c]) := by
  refine ⟨by rw [List.all_append, h.1]; simp [hc], fun _ => ?_⟩
  cases l with
  | nil => exact h0 rfl
  | cons x r => exact h.2 (by simp)

set_option maxRecDepth 100000 in
set_option maxHeartbeats 2000000 in
theorem names_any (ao : Option Addr) (n c : Nat) (xs : List Int) (w : World) (h : Rd .u8 w ao n c xs) (hu : ∀ x ∈ xs, 0 ≤ x ∧ x ≤ 255) : Calls Try.prog 7 #[.slice ao n c] w fun e w' => e = .returned (.bool true) ∧ Below w.heap.size w w' := by
  have hlen := h.len
  have hcap := h.cap
  have hmax := h.max
  have HB : Hid _ := begun_any w
  by_cases hn : n = 0
  · subst hn
    clear h
    go_enter Try.func7, Try.ntmps7
    go_wp2_with fail
    refine Calls.mono HB.out ?_
    rintro e w1 ⟨rfl, hb1⟩
    go_wp2
    go_ret
    exact ⟨rfl, hb1⟩
  by_cases h30 : 30 < n
  · have g0 : ((n : Int) == 0) = false := by simp; omega
    have g1 : decide ((30 : Int) < (n : Int)) = true := by simp; omega
    clear h
    go_enter Try.func7, Try.ntmps7
    go_wp2_with fail
    refine Calls.mono HB.out ?_
    rintro e w1 ⟨rfl, hb1⟩
    go_wp2
    go_ret
    exact ⟨rfl, hb1⟩
  have g0 : ((n : Int) == 0) = false := by simp; omega
  have g1 : decide ((30 : Int) < (n : Int)) = false := by simp; omega
  obtain ⟨b, o, rfl, hc⟩ := h.cells (by omega)
  have HH : Hid (∀ i, i < n → w.cell? ⟨b, o + i, none⟩ = some (.int .u8 (nth xs i))) := hc
  have HU : Hid (∀ i, i < n → 0 ≤ nth xs i ∧ nth xs i ≤ 255) := fun i hi => hu _ (nth_mem (by omega))
  clear hc h hu hlen
  go_enter Try.func7, Try.ntmps7
  go_wp2_with fail
  refine Calls.mono HB.out ?_
  rintro e w1 ⟨rfl, hb1⟩
  clear HB
  go_wp2
  clear g0 g1
  go_loopw [3, 4] (fun s i wr => ∃ (k : Nat) (l : List UInt8), k ≤ n ∧ i = .int .i64 k ∧ l.length = k ∧ Hid (Nm l) ∧ Own w.heap.size wr s (lz l) ∧ Below w.heap.size w wr) (fun _ i _ => n - (intOf i).toNat)
  case atStart => exact ⟨0, [], by omega, rfl, rfl, ⟨rfl, fun h => by simp at h⟩, Own.nil _ _, hb1⟩
  case round =>
    obtain ⟨k, l, hk, rfl, hl, HN, ho, hB⟩ := hrel
    by_cases hlt : k < n
    · have c0 := cell_later hB (HH.out k hlt)
      obtain ⟨x0, x1⟩ := HU.out k hlt
      generalize nth xs k = x at *
      have hwx : IntKind.i64.wrap x = x := by rw [IntKind.wrap_i64]; omega
      by_cases hk0 : k = 0
      · obtain ⟨r, hr⟩ : ∃ r : Nat, r = x.toNat % 27 := ⟨_, rfl⟩
        have hr27 : r < 27 := by omega
        have e1 : x.tmod 27 = (r : Int) := by rw [Int.tmod_eq_emod_of_nonneg x0]; omega
        have e2 : IntKind.i64.wrap (r : Int) = r := by rw [IntKind.wrap_i64]; omega
        have e3 : 0 ≤ x.tmod 37 ∧ x.tmod 37 < 37 := ⟨Int.tmod_nonneg _ x0, Int.tmod_lt_of_pos _ (by omega)⟩
        have e4 : IntKind.i64.wrap (x.tmod 37) = x.tmod 37 := by rw [IntKind.wrap_i64]; omega
        have hix := nl_index r (by omega)
        have HT := nl_tab r (by omega)
        have HM := hid (HN.out.snoc HT.1 (fun _ => HT.2 hr27))
        generalize nl.getD r 0 = d at *
        subst hk0
        rw [Nat.add_zero] at c0
        replace hl := hid hl
        clear HT hr hr27
        go_wp2_with (first | (at_builtin; refine wpList_app rfl (.tmp 39) (.tmp 42) 33 rfl w.heap.size _ _ (lz l) [(d.toNat : Int)] rfl rfl (ho.alloc _) (SrcB.one wr (d.toNat : Int)) (by rw [lz_len, hl.out]; simp) (by have := hB.size; simp; omega) ?_) | fail)
        intro v' w4 hO4 hb4 _
        have hB4 := (hB.alloc hB.size (.cells #[.int .u8 (d.toNat : Int)] 5)).trans hb4
        rw [← lz_snoc] at hO4
        clear ho hb4
        go_wp2
        go_roundw
        case rel => exact ⟨1, l ++ [d], by omega, by go_num, by have := hl.out; simp [this], HM, hO4, hB4⟩
        case measure => simp only [intOf]; omega
      · obtain ⟨r, hr⟩ : ∃ r : Nat, r = x.toNat % 37 := ⟨_, rfl⟩
        have hr37 : r < 37 := by omega
        have e1 : x.tmod 37 = (r : Int) := by rw [Int.tmod_eq_emod_of_nonneg x0]; omega
        have e2 : IntKind.i64.wrap (r : Int) = r := by rw [IntKind.wrap_i64]; omega
        have gk : ((k : Int) == 0) = false := by simp; omega
        have hix := nl_index r (by omega)
        have HT := nl_tab r (by omega)
        have HM := hid (HN.out.snoc HT.1 (fun h => absurd (hl.symm.trans h) hk0))
        generalize nl.getD r 0 = d at *
        replace hl := hid hl
        clear HT hr hr37
        go_wp2_with (first | (at_builtin; refine wpList_app rfl (.tmp 39) (.tmp 42) 33 rfl w.heap.size _ _ (lz l) [(d.toNat : Int)] rfl rfl (ho.alloc _) (SrcB.one wr (d.toNat : Int)) (by rw [lz_len, hl.out]; simp; omega) (by have := hB.size; simp; omega) ?_) | fail)
        intro v' w4 hO4 hb4 _
        have hB4 := (hB.alloc hB.size (.cells #[.int .u8 (d.toNat : Int)] 5)).trans hb4
        rw [← lz_snoc] at hO4
        clear ho hb4
        go_wp2
        go_roundw
        case rel => exact ⟨k + 1, l ++ [d], by omega, by go_num, by have := hl.out; simp [this], HM, hO4, hB4⟩
        case measure => simp only [intOf]; omega
    · obtain rfl : k = n := by omega
      obtain ⟨ao2, c2, hv, hrd⟩ := ho.rd
      subst hv
      have hz : (⟨l.toArray⟩ : ByteArray).size = l.length := by simp [ByteArray.size]
      have hall : (bs ⟨l.toArray⟩).all isN = true := by rw [bs_mk]; exact HN.out.1
      have hg0 : got isL ⟨l.toArray⟩ 0 = true := by rw [got, bs_mk]; exact HN.out.2 (by omega)
      have HX : Hid (∀ w, _) := fun w => lex_any ⟨l.toArray⟩ (by rw [hz]; omega) w
      have HW : Hid (∀ w, _) := fun w => word_any ⟨l.toArray⟩ w
      have HC : Hid (∀ w', Below wr.heap.size wr w' → (convert 33 9 (.slice ao2 k c2)).run Try.prog w' = .ok (.string ⟨l.toArray⟩) w') := fun w' hb => by
        have h1 := conv_all (hrd.later hb)
        rw [lz_str, lz_len, hl] at h1
        exact h1
      have h1 := hid (fun h => lex_name hall hg0 h)
      have h2 := hid (fun h => lex_long hall hg0 h (by rw [hz]; omega))
      have h3 := hid (fun h => wl_short _ (isW_iff.1 h) : isW ⟨l.toArray⟩ = true → (⟨l.toArray⟩ : ByteArray).size ≤ 8)
      rw [lz_len, hl]
      rw [hl] at hz
      clear hall hg0 HN hrd hlt ho
      generalize (⟨l.toArray⟩ : ByteArray) = S at *
      have hcv := HC.out wr (Below.refl _ _)
      go_wp2_with fail
      refine Calls.mono (HX.out _) ?_
      rintro e w3 ⟨ao3, n3, c3, ts, p3, f3, rfl, hr, hx, hb⟩
      have hB3 := Below.on hB hb
      clear hcv HX hB
      have hcv := HC.out w3 hb
      go_wp2_with fail
      refine Calls.mono (HW.out _) ?_
      rintro e w4 ⟨rfl, hb4⟩
      have hB4 := Below.on hB3 hb4
      have hr4 := hr.later hb4
      have hcap3 := hr.cap
      have hmax3 := hr.max
      have HC4 := fun m => HC.out (w4.drewN m) (Below.on hb (below_drewN hb4 m))
      clear hcv HW hB3 hr
      replace HC4 : ∀ m, (convert 33 9 (.slice ao2 k c2)).run Try.prog (w4.drewN m) = .ok (.string S) (w4.drewN m) := HC4
      clear HC
      cases hw : isW S with
      | true =>
        have hs8 := h3.out hw
        have hx1 := h1.out (by omega)
        rw [hw, if_pos rfl] at hx1
        obtain ⟨rfl, rfl, rfl⟩ := hx1.det hx
        obtain rfl : n3 = 2 := hr4.len.symm
        obtain ⟨b3, o3, rfl, hc⟩ := hr4.cells (by omega)
        have k0 := (hc 0 (by omega)).1
        have k1 := (hc 0 (by omega)).2.1
        simp only [tth, List.getElem?_cons_zero, Option.getD_some] at k0 k1
        rw [Nat.zero_mul, Nat.add_zero] at k0 k1
        clear hx1 hx hr4 hc h1 h2 h3
        go_wp2
        go_quiet (fail)
        go_wp2
        go_ret
        exact ⟨rfl, below_drewN hB4 _⟩
      | false =>
        by_cases h16 : 16 < S.size
        · have hx1 := h2.out h16
          obtain ⟨rfl, rfl, rfl⟩ := hx1.det hx
          have g16 : decide ((16 : Int) < (k : Int)) = true := by simp; omega
          clear hx1 hx hr4 h1 h2 h3
          go_wp2
          go_ret
          exact ⟨rfl, hB4⟩
        · have hx1 := h1.out (by omega)
          rw [hw, if_neg (by simp)] at hx1
          obtain ⟨rfl, rfl, rfl⟩ := hx1.det hx
          obtain rfl : n3 = 2 := hr4.len.symm
          obtain ⟨b3, o3, rfl, hc⟩ := hr4.cells (by omega)
          have k0 := (hc 0 (by omega)).1
          have k1 := (hc 0 (by omega)).2.1
          have g16 : decide ((16 : Int) < (k : Int)) = false := by simp; omega
          simp only [tth, List.getElem?_cons_zero, Option.getD_some] at k0 k1
          rw [Nat.zero_mul, Nat.add_zero] at k0 k1
          clear hx1 hx hr4 hc h1 h2 h3
          go_wp2
          go_quiet (fail)
          go_wp2
          go_ret
          exact ⟨rfl, below_drewN hB4 _⟩

end Go.Proofs.Ytlnijapabhlbeaa
