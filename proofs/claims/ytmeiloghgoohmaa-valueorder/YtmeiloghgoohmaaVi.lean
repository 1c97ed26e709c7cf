/- The walk of ValueTexts. -/
import Derived.Test.YtmeiloghgoohmaaVd
namespace Go.Proofs.Ytmeiloghgoohmaa
open Go.RowKit
set_option linter.unusedVariables false

/-- Where the first nought stands, or the end. -/
def cut0 : List Int → Nat
  | [] => 0
  | c :: r => if c = 0 then 0 else cut0 r + 1

theorem cut0_le (l : List Int) : cut0 l ≤ l.length := by
  induction l with
  | nil => simp [cut0]
  | cons c r ih => rw [cut0]; split <;> simp; omega
/-- What is read of a text's bytes, with a nought behind them. -/
theorem scan_cut : ∀ (l : List Int) (i : Nat), i ≤ 30 → ((decide (i + cut0 l ≤ 30) && (l.take (cut0 l)).all okB) = true → scanE i (l ++ [0]) = 0 ∧ scanN i (l ++ [0]) = i + cut0 l) ∧ ((decide (i + cut0 l ≤ 30) && (l.take (cut0 l)).all okB) = false → scanE i (l ++ [0]) = 3)
  | [], i, hi => by
    refine ⟨fun _ => by simp [scanE, scanN, cut0], fun h => ?_⟩
    have e : decide (i + cut0 [] ≤ 30) = true := decide_eq_true (show i + cut0 [] ≤ 30 from hi)
    rw [e, List.take_nil] at h
    simp at h
  | c :: r, i, hi => by
    rw [List.cons_append, scanE, scanN, cut0]
    by_cases h0 : c = 0
    · rw [if_pos h0, if_pos h0, if_pos h0]
      refine ⟨fun _ => ⟨rfl, by simp⟩, fun h => ?_⟩
      have e : decide (i + 0 ≤ 30) = true := decide_eq_true (show i + 0 ≤ 30 from hi)
      rw [e, List.take_zero] at h
      simp at h
    · rw [if_neg h0, if_neg h0, if_neg h0]
      by_cases h1 : i = 30 ∨ okB c = false
      · rw [if_pos h1, if_pos h1]
        refine ⟨fun h => ?_, fun _ => rfl⟩
        rw [Bool.and_eq_true, decide_eq_true_iff, List.take_succ_cons, List.all_cons, Bool.and_eq_true] at h
        rcases h1 with h1 | h1
        · omega
        · rw [h1] at h; exact absurd h.2.1 (by simp)
      · rw [if_neg h1, if_neg h1]
        have hi' : i + 1 ≤ 30 := by
          have : i ≠ 30 := fun e => h1 (.inl e)
          omega
        have hc : okB c = true := by
          cases e : okB c with
          | true => rfl
          | false => exact absurd (.inr e) h1
        have ih := scan_cut r (i + 1) hi'
        rw [show i + 1 + cut0 r = i + (cut0 r + 1) from by omega] at ih
        rw [List.take_succ_cons, List.all_cons, hc, Bool.true_and]
        exact ih

theorem mayT_cut {l : List Int} : mayT (l.take (cut0 l)) = (decide (0 + cut0 l ≤ 30) && (l.take (cut0 l)).all okB) := by
  rw [mayT, List.length_take, Nat.min_eq_left (cut0_le l), Nat.zero_add]

/-- What Take tells of them. -/
theorem tk_text (l : List Int) : (mayT (l.take (cut0 l)) = true → tkR (2 :: (l ++ [0])) = tkA 2 0 (l.take (cut0 l)) ((cut0 l : Int) + 2) 0) ∧ (mayT (l.take (cut0 l)) = false → tkR (2 :: (l ++ [0])) = tkA 0 0 [] 0 3) := by
  have h := scan_cut l 0 (by omega)
  rw [← mayT_cut] at h
  rw [tkR_two, txA]
  refine ⟨fun hm => ?_, fun hm => ?_⟩
  · obtain ⟨e1, e2⟩ := h.1 hm
    rw [e1, if_pos rfl, e2, Nat.zero_add, List.take_append_of_le_length (cut0_le l)]
  · rw [h.2 hm, if_neg (by omega)]

/-- The least place of a nought among the first j, or m. -/
def cutTo (l : List Int) (j : Nat) : Nat := if cut0 (l.take j) < j then cut0 (l.take j) else l.length
theorem cut0_take_le (l : List Int) (j : Nat) : cut0 (l.take j) ≤ j := by
  have := cut0_le (l.take j)
  rw [List.length_take] at this
  omega
theorem cut0_take_stop : ∀ {l : List Int} {j : Nat}, cut0 (l.take j) < j → j ≤ l.length → cut0 (l.take (j + 1)) = cut0 (l.take j)
  | [], j, _, hj => by simp at hj; omega
  | c :: r, 0, h, _ => by omega
  | c :: r, j + 1, h, hj => by
    rw [List.take_succ_cons, List.take_succ_cons, cut0, cut0] at *
    split
    · rfl
    · rename_i hc
      rw [if_neg hc] at h
      rw [cut0_take_stop (by omega) (by simpa using hj)]
theorem cut0_take_hit : ∀ {l : List Int} {j : Nat}, cut0 (l.take j) = j → j < l.length → nth l j = 0 → cut0 (l.take (j + 1)) = j
  | [], j, _, hj, _ => by simp at hj
  | c :: r, 0, _, _, h => by
    rw [nth_zero] at h
    rw [List.take_succ_cons, cut0, if_pos h]
  | c :: r, j + 1, h, hj, hn => by
    rw [nth_succ] at hn
    rw [List.take_succ_cons, cut0] at h ⊢
    split at h
    · omega
    · rename_i hc
      rw [if_neg hc, cut0_take_hit (by omega) (by simpa using hj) hn]
theorem cut0_take_go : ∀ {l : List Int} {j : Nat}, cut0 (l.take j) = j → j < l.length → nth l j ≠ 0 → cut0 (l.take (j + 1)) = j + 1
  | [], j, _, hj, _ => by simp at hj
  | c :: r, 0, _, _, h => by
    rw [nth_zero] at h
    rw [List.take_succ_cons, cut0, if_neg h]
    simp [cut0]
  | c :: r, j + 1, h, hj, hn => by
    rw [nth_succ] at hn
    rw [List.take_succ_cons, cut0] at h ⊢
    split at h
    · omega
    · rename_i hc
      rw [if_neg hc, cut0_take_go (by omega) (by simpa using hj) hn]
theorem cutTo_zero (l : List Int) : cutTo l 0 = l.length := by simp [cutTo]
theorem cutTo_hit {l : List Int} {j : Nat} (hj : j < l.length) (h : nth l j = 0) : cutTo l (j + 1) = min (cutTo l j) j := by
  have hle := cut0_take_le l j
  unfold cutTo
  by_cases hs : cut0 (l.take j) < j
  · rw [cut0_take_stop hs (by omega), if_pos (by omega), if_pos hs]; omega
  · rw [cut0_take_hit (by omega) hj h, if_pos (by omega), if_neg hs]; omega
theorem cutTo_go {l : List Int} {j : Nat} (hj : j < l.length) (h : nth l j ≠ 0) : cutTo l (j + 1) = cutTo l j := by
  have hle := cut0_take_le l j
  unfold cutTo
  by_cases hs : cut0 (l.take j) < j
  · rw [cut0_take_stop hs (by omega), if_pos (by omega), if_pos hs]
  · rw [cut0_take_go (by omega) hj h, if_neg (by omega), if_neg hs]
theorem cutTo_end (l : List Int) : cutTo l l.length = cut0 l := by
  have := cut0_le l
  rw [cutTo, List.take_of_length_le (by omega)]
  split <;> omega

/-- Are the first j signs such as may be (and the whole not too long)? -/
def rightTo (l : List Int) (j : Nat) : Bool := decide (l.length ≤ 30) && (l.take j).all okB
theorem rightTo_succ {l : List Int} {j : Nat} (h : j < l.length) : rightTo l (j + 1) = (rightTo l j && okB (nth l j)) := by
  rw [rightTo, rightTo, List.take_add_one, List.all_append, nth, List.getElem?_eq_getElem h, Bool.and_assoc]
  simp
theorem rightTo_end (l : List Int) : rightTo l l.length = mayT l := by rw [rightTo, mayT, List.take_of_length_le (Nat.le_refl _)]
theorem okB_and (b : Bool) (x : Int) : ((b && decide (32 ≤ x)) && decide (x ≤ 126)) = (b && okB x) := by rw [okB, Bool.and_assoc]

theorem str_take {s : ByteArray} {j : Nat} (hj : j ≤ s.size) : nums (s.extract 0 j) = (nums s).take j := by
  rw [nums, nums, ByteArray.data_extract, Array.toList_extract, List.map_take]
  simp

theorem strOf_nums (s : ByteArray) : strOfNums (nums s) = s := by
  apply nums_inj
  exact nums_str fun x hx => by
    rw [nums] at hx
    obtain ⟨c, _, rfl⟩ := List.mem_map.1 hx
    have := c.toNat_lt
    omega
theorem nums_u8 (s : ByteArray) : U8 (nums s) := fun x hx => by
  rw [nums] at hx
  obtain ⟨c, _, rfl⟩ := List.mem_map.1 hx
  have := c.toNat_lt
  omega

theorem Own.lit (w : World) (x : Int) : Own w.heap.size (w.alloc (.cells #[.int .u8 x] 5)) (.slice (some ⟨w.heap.size, 0, none⟩) 1 1) [x] :=
  ⟨rfl, .inr ⟨w.heap.size, 1, #[.int .u8 x], rfl, Nat.le_refl _, heap_alloc_new w _, Nat.le_refl _, by unfold maxLen; omega, rfl, rfl⟩⟩

set_option maxRecDepth 100000 in
set_option maxHeartbeats 2000000 in
theorem texts_any (s : ByteArray) (hs : s.size ≤ 9223372036854775807) (w : World) : Calls Try.prog 7 #[.string s] w fun e w' => e = .returned (.bool true) ∧ Below w.heap.size w w' := by
  have H0 : Hid (∀ w, _) := fun w => begun_any w
  have hlen := nums_len s
  by_cases h60 : 60 < s.size
  · clear hlen
    go_enter Try.func7, Try.ntmps7
    go_wp2_with fail
    refine Calls.mono (H0.out _) ?_
    rintro e w1 ⟨rfl, hb1⟩
    clear H0
    go_wp2
    go_ret
    exact ⟨rfl, hb1⟩
  · replace hlen : Hid _ := hlen
    have HM : Hid (∀ w, _) := fun w => may_any 2 0 s hs w
    rw [show mayV 2 0 (nums s) = mayT (nums s) from by simp [mayV]] at HM
    have h30 : decide ((s.size : Int) ≤ 30) = decide ((nums s).length ≤ 30) := by rw [hlen.out, Bool.eq_iff_iff]; simp; omega
    replace h30 : Hid _ := h30
    go_enter Try.func7, Try.ntmps7
    go_wp2_with fail
    refine Calls.mono (H0.out _) ?_
    rintro e w1 ⟨rfl, hb1⟩
    clear H0
    go_upto_block 0 with fail
    go_cut [3, 4] (fun v3 v4 w' => v3 = .bool (mayT (nums s)) ∧ w' = w1)
    case first =>
      go_wp2_with fail
      go_loopw [3, 4] (fun v3 v4 wr => ∃ j : Nat, ∃ b : Bool, j ≤ s.size ∧ v4 = .int .i64 j ∧ v3 = .bool b ∧ Hid (b = rightTo (nums s) j) ∧ wr = w1) (fun _ v4 _ => s.size - (intOf v4).toNat)
      case atStart => exact ⟨0, _, by omega, rfl, rfl, by rw [Hid, h30.out]; simp [rightTo], rfl⟩
      case round =>
        obtain ⟨j, b, hj, rfl, rfl, HE, rfl⟩ := hrel
        by_cases hlt : j < s.size
        · have HX : Hid (rightTo (nums s) (j + 1) = (b && okB ((s[j].toNat : Int)))) := by rw [Hid, rightTo_succ (by rw [hlen.out]; exact hlt), ← HE.out, nums_nth s j hlt]
          clear HE
          cases b with
          | false =>
            go_wp2
            go_roundw
            case rel => exact ⟨j + 1, _, by omega, by go_num, rfl, by rw [Hid, HX.out]; rfl, trivial⟩
            case measure => simp only [intOf]; omega
          | true =>
            by_cases hlo : 32 ≤ ((s[j]).toNat : Int)
            · have f1 : decide (32 ≤ ((s[j]).toNat : Int)) = true := by simpa using hlo
              have HY : Hid (rightTo (nums s) (j + 1) = decide (((s[j]).toNat : Int) ≤ 126)) := by rw [Hid, HX.out, okB, f1]; rfl
              clear HX
              go_wp2
              go_roundw
              case rel => exact ⟨j + 1, _, by omega, by go_num, rfl, by rw [Hid, HY.out], trivial⟩
              case measure => simp only [intOf]; omega
            · have f1 : decide (32 ≤ ((s[j]).toNat : Int)) = false := by simpa using hlo
              have HY : Hid (rightTo (nums s) (j + 1) = false) := by rw [Hid, HX.out, okB, f1]; rfl
              clear HX
              go_wp2
              go_roundw
              case rel => exact ⟨j + 1, _, by omega, by go_num, rfl, by rw [Hid, HY.out], trivial⟩
              case measure => simp only [intOf]; omega
        · obtain rfl : j = s.size := by omega
          have HX : Hid (b = mayT (nums s)) := by rw [Hid, HE.out, ← hlen.out, rightTo_end]
          clear HE
          go_wp2_with fail
          go_meet
          exact ⟨by rw [HX.out], rfl⟩
    case rest =>
      obtain ⟨rfl, hw⟩ := hcut
      subst hw
      have hM2 := tk_text (nums s)
      have hnl := hlen.out
      have hcl := cut0_le (nums s)
      generalize mayT (nums s) = R at *
      have hB0 : Below w.heap.size w (wc.alloc (.cells #[.int .i64 2, .int .i64 0, .string s] 24)) := hb1.alloc hb1.size _
      go_wp2_with fail
      refine Calls.mono (HM.out _) ?_
      rintro e w2 ⟨rfl, hb2⟩
      have hB := Below.on hB0 hb2
      clear hb1 hB0 hb2 HM h30
      have ho2 := Own.lit w2 2
      have hB2 : Below w2.heap.size w2 (w2.alloc (.cells #[.int .u8 2] 5)) := (Below.refl _ _).alloc (Nat.le_refl _) _
      go_wp2_with (first | (at_builtin; refine wpList_app rfl (.tmp 46) (.tmp 47) 9 rfl w2.heap.size _ _ [2] (nums s) rfl rfl ho2 (SrcB.ofText _ s) (by simp; omega) hB2.size ?_) | fail)
      intro v3 w3 ho3 hb3 hn3
      have hB3 := hB2.trans hb3
      replace ho3 : Own w2.heap.size w3 v3 (2 :: nums s) := ho3
      clear hb3 hn3 hB2 ho2
      go_wp2_with (first | (at_builtin; refine wpList_app rfl (.tmp 48) (.tmp 49) 22 rfl w2.heap.size _ _ (2 :: nums s) [0] rfl rfl (ho3.alloc _) (SrcB.one w3 0) (by simp; omega) (by have := hB3.size; simp; omega) ?_) | fail)
      intro v4 w4 ho4 hb4 hn4
      have hB4 := (hB3.alloc hB3.size _).trans hb4
      replace ho4 : Own w2.heap.size w4 v4 (2 :: (nums s ++ [0])) := ho4
      clear hb4 hn4 hB3 ho3
      have hU : U8 (2 :: (nums s ++ [0])) := fun x hx => by
        rw [List.mem_cons, List.mem_append, List.mem_singleton] at hx
        rcases hx with rfl | hx | rfl
        · omega
        · exact nums_u8 s x hx
        · omega
      obtain ⟨ao, cq, hv4, hr4⟩ := ho4.rd
      obtain ⟨N, hN⟩ : ∃ N, N = (2 :: (nums s ++ [0])).length := ⟨_, rfl⟩
      rw [← hN] at hv4 hr4
      clear hN ho4
      subst hv4
      replace hB := Below.on hB hB4
      have HT := take_any _ _ _ _ _ hr4 hU
      obtain ⟨k, i, m, e, t, hk⟩ : ∃ k i m e : Int, ∃ t : ByteArray, tkR (2 :: (nums s ++ [0])) = .tuple #[.agg #[.int .i64 k, .int .i64 i, .string t], .int .i64 m, .int .i64 e] := ⟨_, _, _, _, _, rfl⟩
      rw [hk] at HT hM2
      replace HT : Hid _ := HT
      have HV : Hid _ := hM2
      clear hk hM2 hr4 hB4 hU
      go_wp2_with fail
      refine Calls.mono HT.out ?_
      rintro e5 w5 ⟨rfl, hb5⟩
      replace hB := Below.on hB hb5
      have hB6 : Below w.heap.size w (w5.alloc (.cells #[.int .i64 k, .int .i64 i, .string t] 24)) := hB.alloc hB.size _
      have C := Bx.new w5 k i t 24
      clear HT hb5 hB
      go_upto_region 14 with fail
      generalize w5.alloc (.cells #[.int .i64 k, .int .i64 i, .string t] 24) = Z at *
      go_upto_block 2 with fail
      go_cut [9, 10] (fun v9 v10 w' => v9 = .int .i64 (cut0 (nums s)) ∧ w' = Z)
      case first =>
        go_wp2_with fail
        go_loopw [9, 10] (fun v9 v10 wr => ∃ j : Nat, j ≤ s.size ∧ v10 = .int .i64 j ∧ v9 = .int .i64 (cutTo (nums s) j) ∧ wr = Z) (fun _ v10 _ => s.size - (intOf v10).toNat)
        case atStart => exact ⟨0, by omega, rfl, by rw [cutTo_zero, hlen.out], rfl⟩
        case round =>
          obtain ⟨j, hj, rfl, rfl, rfl⟩ := hrel
          by_cases hlt : j < s.size
          · have hat := nums_nth s j hlt
            by_cases h0 : ((s[j].toNat : Int)) = 0
            · have f1 : ((s[j].toNat : Int) == 0) = true := by simpa using h0
              have HN : Hid (cutTo (nums s) (j + 1) = min (cutTo (nums s) j) j) := cutTo_hit (by omega) (by rw [hat]; exact h0)
              generalize cutTo (nums s) j = q at *
              clear hat h0
              go_wp2
              go_roundw
              case rel => exact ⟨j + 1, by omega, by go_num, by rw [HN.out]; congr 1; split <;> omega, trivial⟩
              case measure => simp only [intOf]; omega
            · have f1 : ((s[j].toNat : Int) == 0) = false := by simpa using h0
              have HN : Hid (cutTo (nums s) (j + 1) = cutTo (nums s) j) := cutTo_go (by omega) (by rw [hat]; exact h0)
              generalize cutTo (nums s) j = q at *
              clear hat h0
              go_wp2
              go_roundw
              case rel => exact ⟨j + 1, by omega, by go_num, by rw [HN.out], trivial⟩
              case measure => simp only [intOf]; omega
          · obtain rfl : j = s.size := by omega
            have HN : Hid (cutTo (nums s) s.size = cut0 (nums s)) := by rw [Hid, ← hlen.out, cutTo_end]
            go_wp2_with fail
            go_meet
            exact ⟨by rw [HN.out], rfl⟩
      case rest =>
        obtain ⟨rfl, hw⟩ := hcut
        subst hw
        obtain ⟨c0, hc0⟩ : ∃ c, c = cut0 (nums s) := ⟨_, rfl⟩
        rw [← hc0] at HV hcl ⊢
        clear hc0
        have hcs : c0 ≤ s.size := by omega
        have hns : nums (s.extract 0 c0) = (nums s).take c0 := str_take hcs
        have HM2 : Hid (∀ w, _) := fun w => may_any 2 0 (s.extract 0 c0) (by rw [← nums_len, hns, List.length_take]; omega) w
        rw [show mayV 2 0 (nums (s.extract 0 c0)) = mayT (nums (s.extract 0 c0)) from by simp [mayV], hns] at HM2
        have hB7 : Below w.heap.size w (wc.alloc (.cells #[.int .i64 2, .int .i64 0, .string (s.extract 0 c0)] 24)) := hB6.alloc hB6.size _
        have D := Bx.new wc 2 0 (s.extract 0 c0) 24
        replace C := C.later ((Below.refl _ _).alloc (Nat.le_refl _) (.cells #[.int .i64 2, .int .i64 0, .string (s.extract 0 c0)] 24))
        go_upto_region 21 with fail
        generalize wc.alloc (.cells #[.int .i64 2, .int .i64 0, .string (s.extract 0 c0)] 24) = X at *
        cases em : mayT ((nums s).take c0) with
        | false =>
          rw [em] at HM2
          obtain ⟨rfl, rfl⟩ : m = 0 ∧ e = 3 := by
            have := HV.out.2 em
            simp [tkA] at this
            exact ⟨this.2.1, this.2.2⟩
          obtain ⟨d0, d1, d2⟩ := D
          clear HV em hns C
          go_wp2_with fail
          refine Calls.mono (HM2.out _) ?_
          rintro e6 w6 ⟨rfl, hb6⟩
          replace hB7 := Below.on hB7 hb6
          clear HM2
          go_wp2
          go_ret
          exact ⟨rfl, hB7⟩
        | true =>
          rw [em] at HM2
          obtain ⟨rfl, rfl, ht, rfl, rfl⟩ : k = 2 ∧ i = 0 ∧ t = s.extract 0 c0 ∧ m = (c0 : Int) + 2 ∧ e = 0 := by
            have h1 := HV.out.1 em
            simp [tkA] at h1
            exact ⟨h1.1.1, h1.1.2.1, by rw [h1.1.2.2, ← hns, strOf_nums], h1.2.1, h1.2.2⟩
          subst ht
          clear HV em
          obtain ⟨d0, d1, d2⟩ := D
          go_wp2_with fail
          refine Calls.mono (HM2.out _) ?_
          rintro e6 w6 ⟨rfl, hb6⟩
          replace hB7 := Below.on hB7 hb6
          replace d0 := cell_later hb6 d0
          replace d1 := cell_later hb6 d1
          replace d2 := cell_later hb6 d2
          obtain ⟨e0, e1, e2⟩ := C.later hb6
          clear HM2 C hns hb6
          generalize s.extract 0 c0 = S at *
          go_wp2
          go_ret
          exact ⟨rfl, hB7⟩

end Go.Proofs.Ytmeiloghgoohmaa
