import Derived.Test.YtbmfehacnigknaaQlah
namespace Go.Proofs.Ytbmfehacnigknaa
open Go.RowKit
set_option linter.unusedVariables false
set_option linter.unusedSimpArgs false

/-- Which rows may be. -/
def mayRw (V : List Vt) : Bool := (V.all fun v => mayV v.1 v.2.1 (nums v.2.2)) && (decide (1 ≤ V.length) && decide (V.length ≤ 6))
set_option maxRecDepth 100000 in
set_option maxHeartbeats 4000000 in
theorem refMayRow_any {V : List Vt} (hsz : ∀ v ∈ V, v.2.2.size ≤ 9223372036854775807) {Q : Nat → Prop} {w : World} {a : Option Addr} {n c : Nat} (h : RowIs eVal Q w (.slice a n c) V) :
    Calls Try.prog 19 #[.slice a n c] w fun e w' => e = .returned (.bool (mayRw V)) ∧ Below w.heap.size w w' := by
  obtain ⟨hn, hnc, hcm⟩ := row_lens h
  have HR : Hid (∀ w', Below w.heap.size w w' → RowIs eVal Q w' (.slice a n c) V) := hid fun w' hb => h.keep (by decide) fun b _ hl => hb.block b hl
  have HSz : Hid _ := hid hsz
  clear h hsz
  go_enter Try.func19, Try.ntmps19
  go_wp2
  go_loopw [3] (fun v3 wr => ∃ k : Nat, k ≤ n ∧ v3 = .int .i64 k ∧ Below w.heap.size w wr ∧ Hid (∀ i (h1 : i < V.length), i < k → mayV V[i].1 V[i].2.1 (nums V[i].2.2) = true)) (fun i _ => n - (intOf i).toNat)
  case atStart => exact ⟨0, Nat.zero_le _, rfl, Below.refl _ _, hid fun i h1 h2 => absurd h2 (by omega)⟩
  case round =>
    obtain ⟨k, hk, rfl, hB, HD⟩ := hrel
    by_cases hlt : k < n
    · obtain ⟨b, o, rfl, -, c0, c1, c2⟩ := val1 (HR.out wr hB) (k := k) (by omega)
      have hs := HSz.out _ (List.getElem_mem (l := V) (n := k) (by omega))
      obtain ⟨x, hx⟩ : ∃ x, V[k]'(by omega) = x := ⟨_, rfl⟩
      rw [hx] at c0 c1 c2 hs
      have HX : Hid _ := hid hx
      have HM := refMay_any x.1 x.2.1 x.2.2 hs wr
      have hkm : (k : Int) < (n : Int) := by omega
      have hwk : IntKind.i64.wrap ((k : Int) + 1) = (k : Int) + 1 := by
        show (if (true && decide (((k : Int) + 1) % (2 ^ 64 : Int) ≥ (2 ^ (64 - 1) : Int))) = true then ((k : Int) + 1) % (2 ^ 64 : Int) - (2 ^ 64 : Int) else ((k : Int) + 1) % (2 ^ 64 : Int)) = _
        rw [if_neg (by simp; omega)]
        omega
      cases hm : mayV x.1 x.2.1 (nums x.2.2) with
      | true =>
        rw [hm] at HM
        replace HM : Hid _ := hid HM
        have HN : Hid (∀ i (h1 : i < V.length), i < k + 1 → mayV V[i].1 V[i].2.1 (nums V[i].2.2) = true) := hid fun i h1 h2 => by
          by_cases he : i < k
          · exact HD.out i h1 he
          · obtain rfl : i = k := by omega
            rw [HX.out]; exact hm
        clear hm hs hx
        go_wp2_with fail
        refine Calls.mono HM.out ?_
        rintro e w4 ⟨rfl, hb4⟩
        have hB4 := Below.on hB hb4
        clear HM hb4 hB c0 c1 c2
        go_wp2
        go_roundw
        case rel => exact ⟨k + 1, by omega, by go_num, hB4, HN⟩
        case measure => simp only [intOf]; omega
      | false =>
        rw [hm] at HM
        replace HM : Hid _ := hid HM
        have HF : Hid (mayRw V = false) := hid (by
          unfold mayRw
          rw [Bool.and_eq_false_iff]
          left
          rw [List.all_eq_false]
          exact ⟨V[k]'(by omega), List.getElem_mem _, by rw [HX.out, hm]; decide⟩)
        clear hm hs hx HD
        go_wp2_with fail
        refine Calls.mono HM.out ?_
        rintro e w4 ⟨rfl, hb4⟩
        have hB4 := Below.on hB hb4
        clear HM hb4 hB c0 c1 c2
        go_wp2
        go_ret
        exact ⟨ret_bool HF.out.symm, hB4⟩
    · obtain rfl : k = n := by omega
      have HT : Hid (mayRw V = (decide (1 ≤ k) && decide (k ≤ 6))) := hid (by
        unfold mayRw
        rw [hn, show (V.all fun v => mayV v.1 v.2.1 (nums v.2.2)) = true from by
          rw [List.all_eq_true]
          intro v hv
          obtain ⟨i, hi, rfl⟩ := List.mem_iff_getElem.1 hv
          exact HD.out i hi (by omega)]
        rfl)
      by_cases h1 : 1 ≤ k
      · have g1 : decide ((1 : Int) ≤ (k : Int)) = true := by simp; omega
        have g2 : decide ((k : Int) ≤ 6) = decide (k ≤ 6) := by rw [Bool.eq_iff_iff]; simp; omega
        go_wp2
        go_ret
        exact ⟨by rw [HT.out]; first | rfl | (congr 2; simp [h1]), hB⟩
      · have g1 : decide ((1 : Int) ≤ (k : Int)) = false := by simp; omega
        go_wp2
        go_ret
        exact ⟨by rw [HT.out]; first | rfl | (congr 2; simp; omega), hB⟩
def nmT (i : Nat) : ByteArray := if i % 2 = 0 then ⟨#[116]⟩ else ⟨#[117]⟩
def nmN (i : Nat) : ByteArray := if i / 2 = 0 then ⟨#[97]⟩ else if i / 2 = 1 then ⟨#[98]⟩ else ⟨#[99]⟩
abbrev itK (i : Nat) : It := (0, nmT i, nmN i)
def cK (n : Nat) : List It := (List.range n).map itK
theorem cK_len (n : Nat) : (cK n).length = n := by simp [cK]
theorem cK_col : ∀ n, n < 7 → ∀ k, k < n → fidx (itV (nmT k) (nmN k)) (cK n) = k ∧ ((cK n).drop (k + 1)).any (itV (nmT k) (nmN k)) = false := by decide +kernel
theorem cK_one : ∀ n, n < 7 → ∀ k, k < n → k + 1 = n → k % 2 = 0 → fidx (itV ⟨#[]⟩ (nmN k)) (cK n) = k ∧ ((cK n).drop (k + 1)).any (itV ⟨#[]⟩ (nmN k)) = false := by decide +kernel
theorem colV_of {C : List It} {V : List Vt} {tb nm : ByteArray} {k : Nat} (hk : k < V.length) (h : fidx (itV tb nm) C = k ∧ (C.drop (k + 1)).any (itV tb nm) = false) : colV C V tb nm = (V[k], 0) := by
  unfold colV
  rw [h.1, if_pos ⟨by omega, by rw [Int.toNat_natCast]; exact h.2⟩, Int.toNat_natCast, List.getElem?_eq_getElem hk]
  rfl
abbrev xCol (tb nm : ByteArray) : Pg × Tg := ((2, 0, 0, ⟨#[]⟩, tb, nm), .nil)
abbrev xCe (tb nm : ByteArray) (v : Vt) : Pg × Tg := ((8, nP), .node 0 0 (2, 0, 0, ⟨#[]⟩, tb, nm) .nil (.node 0 0 (litV v) .nil .nil))
theorem evE_col {C : List It} {V : List Vt} {tb nm : ByteArray} {k : Nat} (hk : k < V.length) (h : fidx (itV tb nm) C = k ∧ (C.drop (k + 1)).any (itV tb nm) = false) : evE C V (xCol tb nm) = (V[k], 0) := by
  rw [evE_nz, evT_col rfl rfl, colV_of hk h]
  exact nz_ok rfl
theorem hoE_col {C : List It} {V : List Vt} {tb nm : ByteArray} {k : Nat} (hk : k < V.length) (h : fidx (itV tb nm) C = k ∧ (C.drop (k + 1)).any (itV tb nm) = false) (h12 : V[k].1 = 1 ∨ V[k].1 = 2) : hoE C V (xCe tb nm V[k]) = (true, 0) := by
  have e : evT C V (xCe tb nm V[k]) = (trV true, 0) := by
    rw [evT_two (u := xCol tb nm) (v := (litV V[k], .nil)) (show (5 : Int) ≤ 8 ∧ (8 : Int) ≤ 13 by decide) rfl, evT_col rfl rfl, colV_of hk h, evT_lit (x := (litV V[k], .nil)) rfl rfl]
    show madeP 8 [V[k], V[k]] = _
    show cmpdP 8 V[k] V[k] = _
    unfold cmpdP
    rw [if_neg (by omega), cmpVt_zero.2 rfl]
    rfl
  unfold hoE
  rw [e]
  rfl

end Go.Proofs.Ytbmfehacnigknaa
