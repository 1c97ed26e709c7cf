import Derived.Test.YtmfoenhbldacfaaQaf
/- A record laid. -/
namespace Go.Proofs.Ytmfoenhbldacfaa
open Go.RowKit
set_option linter.unusedVariables false

theorem Low.uniq {B : List Int} {R : List (List Int)} {k L M : Nat} (h : Low B R k L) (m : Low B R k M) : L = M :=
  Nat.le_antisymm (m.gr L h.le h.lo) (h.gr M m.le m.lo)

theorem layE_long {R : List (List Int)} {s : Nat} {b : List Int} (h : b.length = 0 ∨ 200 < b.length) : layE R s b = 7 := by
  rw [layE, if_pos]
  rcases h with h | h
  · exact .inl (List.eq_nil_of_length_eq_zero h)
  · exact .inr h
theorem layE_full {R : List (List Int)} {s : Nat} {b : List Int} (h0 : b.length ≠ 0) (h1 : b.length ≤ 200) (h : ¬ 0 ≤ freeR (setR R s b)) : layE R s b = 25 := by
  rw [layE, if_neg, if_pos (by omega)]
  rintro (k | k)
  · subst k; simp at h0
  · omega
theorem layE_ok {R : List (List Int)} {s : Nat} {b : List Int} (h0 : b.length ≠ 0) (h1 : b.length ≤ 200) (h : 0 ≤ freeR (setR R s b)) : layE R s b = 0 := by
  rw [layE, if_neg, if_neg (by omega)]
  rintro (k | k)
  · subst k; simp at h0
  · omega

theorem lay_long {w : World} {g : Nat} {B : List Int} {R : List (List Int)} (h : Pi w g B R allP) (s : Int) {ao : Option Addr} {n c : Nat} (hn : n = 0 ∨ 200 < n) (hn2 : n ≤ 9223372036854775807) :
    Calls Try.prog 31 #[.pointer (some ⟨g, 0, none⟩), .int .i64 s, .slice ao n c] w fun e w' => e = .returned (.int .i64 7) ∧ w' = w := by
  rcases hn with rfl | hn
  · go_enter Try.func31, Try.ntmps31
    go_wp2
    go_ret
    exact ⟨rfl, rfl⟩
  · have g1 : ((n : Int) == 0) = false := by simp; omega
    have g2 : decide ((200 : Int) < (n : Int)) = true := by simp; omega
    go_enter Try.func31, Try.ntmps31
    go_wp2
    go_ret
    exact ⟨rfl, rfl⟩

theorem lay_full {w : World} {g : Nat} {B : List Int} {R : List (List Int)} (h : Pi w g B R allP) (s : Nat) (hs : s ≤ R.length) {ao : Option Addr} {n c : Nat} (h0 : 0 < n) (h1 : n ≤ 200) (b : List Int) (hbn : b.length = n) (hf : ¬ 0 ≤ freeR (setR R s b)) :
    Calls Try.prog 31 #[.pointer (some ⟨g, 0, none⟩), .int .i64 (s : Int), .slice ao n c] w fun e w' => e = .returned (.int .i64 25) ∧ Below w.heap.size w w' := by
  have H := fits_any h s n hs (by omega) b hbn
  rw [decide_eq_false hf] at H
  replace H : Hid _ := H
  have g1 : ((n : Int) == 0) = false := by simp; omega
  have g2 : decide ((200 : Int) < (n : Int)) = false := by simp; omega
  have g3 : ¬ (200 : Int) < (n : Int) := by omega
  clear hf hbn
  go_enter Try.func31, Try.ntmps31
  go_wp2_with fail
  refine Calls.mono H.out ?_
  rintro e w1 ⟨rfl, hb⟩
  go_wp2
  go_ret
  exact ⟨rfl, hb⟩

theorem setR_set {R : List (List Int)} {s : Nat} (h : s < R.length) (b : List Int) : setR (R.set s []) s b = setR R s b := by
  rw [setR, setR, if_pos h, if_pos (by simpa using h), List.set_set]

set_option maxRecDepth 100000 in
set_option maxHeartbeats 1000000 in
theorem lay_ok {w : World} {g : Nat} {B : List Int} {R : List (List Int)} (h : Pi w g B R allP) (s : Nat) (hs : s ≤ R.length) {ao : Option Addr} {n c : Nat} (h0 : 0 < n) (h1 : n ≤ 200) (b : List Int) (hb : Rd .u8 w ao n c b) (hby : By b)
    (hao : ∀ a, ao = some a → a.block ≠ g) (hf : 0 ≤ freeR (setR R s b)) :
    Calls Try.prog 31 #[.pointer (some ⟨g, 0, none⟩), .int .i64 (s : Int), .slice ao n c] w fun e w' => e = .returned (.int .i64 0) ∧ (∃ B', Pi w' g B' (setR R s b) allP) ∧ Rest g w w' := by
  have hbl := hb.len
  have H := fits_any h s n hs (by omega) b hbl
  rw [decide_eq_true hf] at H
  replace H : Hid _ := H
  have g1 : ((n : Int) == 0) = false := by simp; omega
  have g2 : decide ((200 : Int) < (n : Int)) = false := by simp; omega
  have g3 : ¬ (200 : Int) < (n : Int) := by omega
  have hml := setR_len hs b
  have hmf : 4 * (max R.length (s + 1)) + n + tot (setR R s b) ≤ 248 + n := by simp only [freeR, hml] at hf; omega
  have hmt := setR_tot hs b
  have hmt2 : 4 * (max R.length (s + 1)) + n ≤ 248 := by have := tot_ge (setR R s b) s; rw [setR_same hs, hbl] at this; omega
  have HH : Hid (∀ w', Below w.heap.size w w' → _) := fun w' hb => has_any (h.later hb) (s : Int)
  rw [hasZ_nat] at HH
  have HWP : Hid (rc R s ≠ [] → ∀ w', Below w.heap.size w w' → _) := fun hn w' hb => wipe_any (h.later hb) s hn
  have hPi : Hid (∀ w', Below w.heap.size w w' → Pi w' g B R allP) := fun w' hb => h.later hb
  obtain ⟨S, hS⟩ : ∃ S, setR R s b = S := ⟨_, rfl⟩
  rw [hS] at hf hml hmf hmt ⊢
  obtain ⟨bad, had⟩ : ∃ a, ao = some a := by
    obtain ⟨b', o', e, _⟩ := hb.cells h0
    exact ⟨_, e⟩
  subst had
  have hag := hao _ rfl
  have hbr : Hid (∀ w', Rest g w w' → Rd .u8 w' (some bad) n c b) := fun w' hr => hb.rest hr (fun a ha => by cases ha; exact hag)
  have hbn : b ≠ [] := by intro e; rw [e] at hbl; simp at hbl; omega
  clear h hao hb
  go_enter Try.func31, Try.ntmps31
  go_wp2_with fail
  refine Calls.mono H.out ?_
  rintro e w1 ⟨rfl, hb1⟩
  go_wp2_with fail
  refine Calls.mono (HH.out _ hb1) ?_
  rintro e w2 ⟨rfl, hb2⟩
  have hb3 := bthen hb1 hb2
  clear H HH hb1 hb2
  go_upto_if 25 with fail
  go_cut [] (fun wc => ∃ R1 B1, Pi wc g B1 R1 allP ∧ R1.length = R.length ∧ rc R1 s = [] ∧ setR R1 s b = S ∧ Rest g w wc)
  case first =>
    by_cases he : rc R s = []
    · have e : (!(rc R s).isEmpty) = false := by simp [he]
      rw [e]
      have h3 := hPi.out _ hb3
      replace he : Hid _ := he
      replace hS : Hid _ := hS
      go_wp2
      go_meet
      exact ⟨R, B, h3, rfl, he.out, hS.out, Rest.of hb3⟩
    · have e : (!(rc R s).isEmpty) = true := by simpa using he
      rw [e]
      have HW : Hid _ := HWP.out he _ hb3
      have hlt := rc_lt he
      have hS2 : Hid _ := (setR_set hlt b).trans hS
      replace hlt : Hid _ := hlt
      replace hb3 : Hid _ := hb3
      clear HWP hPi hS e he hmt
      go_wp2_with fail
      refine Calls.mono HW.out ?_
      rintro e w3 ⟨rfl, ⟨B1, h3⟩, hr3⟩
      go_wp2
      go_meet
      exact ⟨_, B1, h3, by simp, by simp [rc, hlt.out], hS2.out, (Rest.of hb3.out).trans hr3⟩
  case rest =>
    obtain ⟨R1, B1, p1, hl1, he1, hS1, hr1⟩ := hcut
    have hI1 := p1.iv
    have hmt1 := setR_tot (R := R1) (s := s) (by omega) b
    rw [hS1, he1] at hmt1
    have hfz := hf
    have hff : 8 + 4 * (max R.length (s + 1)) + n + tot R1 ≤ 256 := by
      have h9 := hf
      simp only [freeR, hml] at h9
      simp at hmt1
      omega
    obtain ⟨q, hq⟩ : ∃ q, max R.length (s + 1) = q := ⟨_, rfl⟩
    obtain ⟨r, hrl⟩ : ∃ r, R.length = r := ⟨_, rfl⟩
    rw [hq] at hff hmt2 hml
    rw [hrl] at hl1 hs
    have hq2 : max (r : Int) ((s : Int) + 1) = (q : Int) := by omega
    have hrq : r ≤ q := by omega
    have hq61 : q ≤ 62 := by omega
    have hr61 : r ≤ 61 := by
      by_cases e : r ≤ 61
      · exact e
      · omega
    have hs61 : s ≤ 61 := by omega
    have HM : Hid (∀ w', Below wc.heap.size wc w' → _) := fun w' hb => many_any (p1.later hb)
    have HL : Hid (∀ w', Below wc.heap.size wc w' → _) := fun w' hb => lowest_any (p1.later hb)
    have HS : Hid (∀ w', _) := fun w' => slotAt_any q w' (by omega)
    have HP : Hid (∀ w', Below wc.heap.size wc w' → _) := fun w' hb => pack_any (p1.later hb) (by omega)
    have hp1 : Hid (∀ w', Below wc.heap.size wc w' → Pi w' g B1 R1 allP) := fun w' hb => p1.later hb
    have hq3 : q = max R1.length (s + 1) := by rw [hl1]; omega
    replace hq3 : Hid _ := hq3
    rw [hl1] at HM HL
    replace hl1 : Hid _ := hl1
    replace he1 : Hid _ := he1
    replace hS1 : Hid _ := hS1
    replace hml : Hid _ := hml
    replace hf : Hid _ := hf
    replace hr1 : Hid _ := hr1
    have hbb := Below.refl wc.heap.size wc
    clear hmt1 hq hrl hI1 hmf hmt hS HWP hPi hb3 hfz p1
    go_upto_region 7 with fail
    go_cut [7] (fun v wd => v = .int .i64 (q : Int) ∧ Below wc.heap.size wc wd)
    case first =>
      go_wp2_with fail
      refine Calls.mono (HM.out _ hbb) ?_
      rintro e w3 ⟨rfl, hb3⟩
      go_wp2
      all_goals
        go_meet
        exact ⟨by first | rfl | (congr 1; omega), hb3⟩
    case rest =>
      obtain ⟨rfl, hb3⟩ := hcut
      go_wp2_with fail
      refine Calls.mono (HL.out _ hb3) ?_
      rintro e w4 ⟨⟨L, rfl, hL⟩, hb4⟩
      have hb5 := bthen hb3 hb4
      have hLle := hL.le
      replace hL : Hid _ := hL
      clear hb3 hb4 hq2
      go_upto_if 41 with (first | (go_at_call 49; refine Calls.mono (HS.out _) ?_; rintro e w5 ⟨rfl, rfl⟩))
      go_cut [] (fun wd => ∃ B2, Pi wd g B2 R1 allP ∧ Hid (∀ M, Low B2 R1 r M → 8 + 4 * q + n ≤ M) ∧ Rest g w wd)
      case first =>
        by_cases ht : L < 8 + 4 * q + n
        · have ht2 : decide ((L : Int) - (n : Int) < ((8 + 4 * q : Nat) : Int)) = true := decide_eq_true (by omega)
          have ht3 : (L : Int) - (n : Int) < 8 + 4 * (q : Int) := by omega
          have HP2 : Hid _ := HP.out _ hb5
          clear HP HL HM HS ht
          go_wp2_with fail
          refine Calls.mono HP2.out ?_
          rintro e w5 ⟨rfl, ⟨B2, p2, hlow⟩, hr2⟩
          have hfin : ∀ M, Low B2 R1 r M → 8 + 4 * q + n ≤ M := fun M hM => by
            have h1 := hM.gr (256 - tot R1) (by omega) (fun t _ hn => hlow t hn)
            omega
          replace hfin : Hid _ := hfin
          clear hlow HP2
          go_wp2
          go_meet
          exact ⟨B2, p2, hfin, (hr1.out.trans (Rest.of hb5)).trans hr2⟩
        · have ht2 : decide ((L : Int) - (n : Int) < ((8 + 4 * q : Nat) : Int)) = false := decide_eq_false (by omega)
          have ht3 : ¬ (L : Int) - (n : Int) < 8 + 4 * (q : Int) := by omega
          have hfin : ∀ M, Low B1 R1 r M → 8 + 4 * q + n ≤ M := fun M hM => by
            rw [hM.uniq hL.out]; omega
          replace hfin : Hid _ := hfin
          have hp2 := hp1.out _ hb5
          clear HP HL HM HS ht
          go_wp2
          go_meet
          exact ⟨B1, hp2, hfin, hr1.out.trans (Rest.of hb5)⟩
      case rest =>
        obtain ⟨B2, p2, hfin, hr2⟩ := hcut
        have HL2 := lowest_any p2
        rw [hl1.out] at HL2
        replace HL2 : Hid _ := HL2
        clear HL HM HS HP hL hLle hb5 hp1 hr1
        go_wp2_with fail
        refine Calls.mono HL2.out ?_
        rintro e w6 ⟨⟨M, rfl, hM⟩, hb6⟩
        have hM1 := hM.le
        have hM2 := hfin.out M hM
        have p3 := p2.later hb6
        have hr3 := hr2.trans (Rest.of hb6)
        have hrb := hbr.out _ hr3
        obtain ⟨at', hat⟩ : ∃ a, M - n = a := ⟨_, rfl⟩
        have hat1 : (M : Int) - (n : Int) = (at' : Int) := by omega
        have hwr : IntKind.i64.wrap ((M : Int) - (n : Int)) = (at' : Int) := by rw [IntKind.wrap_i64]; omega
        have hI2 := p3.iv
        have hlen := hI2.len
        have key := hI2.lay (s := s) (at' := at') (L := M) (b := b) (by have := hl1.out; omega) hbn hby he1.out (by rw [hS1.out]; exact hf.out) (fun t hn => hM.lo t (by have := rc_lt hn; have := hl1.out; omega) hn) (by rw [hbl]; omega) hM1 (by rw [← hq3.out]; omega)
        rw [hS1.out, ← hq3.out] at key
        replace key : Hid _ := key
        have hCUT := cut_from g at' (by omega)
        have hSM : Hid (∀ w', Pg w' g (spl B2 at' b) → _) := fun w' h' => setMany_any h' (by rw [spl_len (by omega)]; exact hlen) q (by omega)
        have hSS : Hid (∀ w', Pg w' g (putW (spl B2 at' b) 0 q) → _) := fun w' h' => setSlot_any h' (by rw [putW_len, spl_len (by omega)]; exact hlen) s at' n hs61 (by omega) (by omega)
        obtain ⟨d, hd⟩ : ∃ n, 256 - at' = n := ⟨_, rfl⟩
        rw [hd] at hCUT
        have hd3 : at' ≤ 256 := by omega
        have hd1 : n ≤ d := by omega
        have hd2 : at' + n ≤ B2.length := by omega
        have hp3 := p3.pg
        replace hbl : Hid _ := hbl
        clear hM hM2 hM1 hI2 hlen hd hat p2 p3 hb6 hr2 HL2 hfin hbr
        go_wp2_with (refine wpList_copy rfl (.tmp 53) (.tmp 54) rfl hp3 at' d d c n bad rfl rfl hrb hd1 hd2 ?_)
        intro w7 hp7 hr7
        have hr8 := hr3.trans hr7
        clear hr3 hr7 hrb hp3
        go_wp2_with fail
        refine Calls.mono (hSM.out _ hp7) ?_
        rintro e w8 ⟨rfl, hp8, hr9⟩
        have hr10 := hr8.trans hr9
        clear hr8 hr9 hp7 hSM
        go_wp2_with fail
        refine Calls.mono (hSS.out _ hp8) ?_
        rintro e w9 ⟨rfl, hp9, hr11⟩
        have hr12 := hr10.trans hr11
        clear hr10 hr11 hp8 hSS
        go_wp2
        go_ret
        refine ⟨rfl, ⟨_, ⟨?_, key.out⟩⟩, hr12⟩
        rw [layB, hbl.out]
        exact hp9

end Go.Proofs.Ytmfoenhbldacfaa
