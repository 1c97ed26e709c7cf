/- The walk of LexTexts. -/
import Derived.Test.YtlnijapabhlbeaaLf
namespace Go.Proofs.Ytlnijapabhlbeaa
open Go.RowKit
set_option linter.unusedVariables false

theorem sz_mk (l : List UInt8) : (⟨l.toArray⟩ : ByteArray).size = l.length := by show l.toArray.size = _; rw [List.size_toArray]
/-- Each mark twice. -/
def dbl : List UInt8 → List UInt8
  | [] => []
  | x :: r => if isB 39 x then x :: 39 :: dbl r else x :: dbl r
theorem dbl_app (l m : List UInt8) : dbl (l ++ m) = dbl l ++ dbl m := by
  induction l with
  | nil => rfl
  | cons x r ih =>
    rw [List.cons_append, dbl, dbl]
    split
    · rw [ih]; rfl
    · rw [ih]; rfl
theorem dbl_len (l : List UInt8) : l.length ≤ (dbl l).length ∧ (dbl l).length ≤ 2 * l.length := by
  induction l with
  | nil => simp [dbl]
  | cons x r ih =>
    rw [dbl]
    split <;> simp <;> omega
theorem quo_marks (x y : UInt8) (r : List UInt8) (h : isB 39 x = true) (h2 : isB 39 y = true) : quo (x :: y :: r) = (x :: (quo r).1, (quo r).2.1 + 2, (quo r).2.2) := by
  rw [quo, if_pos h, if_pos h2]
theorem quo_dbl : ∀ l : List UInt8, l.all isT = true → quo (dbl l ++ [39]) = (l, (dbl l).length + 1, true)
  | [], _ => by simp [dbl, quo, isB]
  | x :: l, h => by
    rw [List.all_cons, Bool.and_eq_true] at h
    have ih := quo_dbl l h.2
    rw [dbl]
    split
    · rename_i hx
      rw [List.cons_append, List.cons_append, quo_marks _ _ _ hx (by decide), ih]
      simp
    · rename_i hx
      rw [List.cons_append, quo_cons _ _ (by simpa using hx), if_pos h.1, ih]
      simp
theorem isT_39 {x : UInt8} (h : isB 39 x = true) : isT x = true := by
  rw [isB, decide_eq_true_iff] at h
  rw [isT, h]; rfl
theorem quo_dbl_bad : ∀ (a : List UInt8) (x : UInt8) (r : List UInt8), a.all isT = true → isT x = false → (quo (dbl (a ++ x :: r) ++ [39])).2 = ((dbl a).length, false)
  | [], x, r, _, hx => by
    have h39 : isB 39 x = false := by
      cases e : isB 39 x with
      | false => rfl
      | true => rw [isT_39 e] at hx; cases hx
    show (quo (dbl (x :: r) ++ [39])).2 = (0, false)
    rw [dbl, if_neg (by rw [h39]; simp), List.cons_append, quo_cons _ _ h39, if_neg (by rw [hx]; simp)]
  | y :: a, x, r, h, hx => by
    rw [List.all_cons, Bool.and_eq_true] at h
    have ih := quo_dbl_bad a x r h.2 hx
    rw [List.cons_append, dbl, dbl]
    split
    · rename_i hy
      rw [List.cons_append, List.cons_append, quo_marks _ _ _ hy (by decide)]
      simp [ih]
    · rename_i hy
      rw [List.cons_append, quo_cons _ _ (by simpa using hy), if_pos h.1]
      simp [ih]

/-- What Lex tells of a text between marks. -/
theorem word_quo {s : ByteArray} {q : List UInt8} (hl : bs s = 39 :: q) : wordW s 0 = quoW s 0 ∧ (bs s).drop 1 = q := by
  have hsz : s.size = q.length + 1 := by rw [← bs_length, hl]; simp
  have hg : ∀ p : UInt8 → Bool, got p s 0 = p 39 := fun p => by rw [got, hl]; rfl
  refine ⟨?_, by rw [hl]; rfl⟩
  rw [wordW, till_stop (by rw [hg]; decide), endW, if_neg (by omega), oneW_quo (by rw [hg]; decide) (by rw [hg]; decide) (by rw [hg]; decide)]
theorem lex_quo {s : ByteArray} {l : List UInt8} (hl : bs s = 39 :: (dbl l ++ [39])) (h : l.all isT = true) (h30 : l.length ≤ 30) : LexR s [(4, ⟨l.toArray⟩, 0, 0), (6, ⟨#[]⟩, 0, (s.size : Int))] 0 0 := by
  have hd := dbl_len l
  have hsz : s.size = (dbl l).length + 2 := by rw [← bs_length, hl]; simp
  obtain ⟨h1, h2⟩ := word_quo hl
  refine lx_one ?_ (by show (4 : Int) ≠ 6; omega) (by omega)
  rw [h1, quoW, Nat.zero_add, h2, quo_dbl l h, if_pos rfl, if_neg (by show ¬ 30 < l.length; omega), hsz]
  simp [wrd]; omega
theorem lex_quo_long {s : ByteArray} {l : List UInt8} (hl : bs s = 39 :: (dbl l ++ [39])) (h : l.all isT = true) (h30 : 30 < l.length) (h60 : l.length ≤ 60) : LexR s [] 0 7 := by
  have hd := dbl_len l
  have hsz : s.size = (dbl l).length + 2 := by rw [← bs_length, hl]; simp
  obtain ⟨h1, h2⟩ := word_quo hl
  refine lx_flt (k := 0) ?_ (by decide) (by omega)
  rw [h1, quoW, Nat.zero_add, h2, quo_dbl l h, if_pos rfl, if_pos (by show 30 < l.length; omega)]
theorem lex_quo_bad {s : ByteArray} {l a r : List UInt8} {x : UInt8} (hl : bs s = 39 :: (dbl l ++ [39])) (e : l = a ++ x :: r) (h : a.all isT = true) (hx : isT x = false) (h60 : l.length ≤ 60) : LexR s [] ((1 + (dbl a).length : Nat) : Int) 4 := by
  have hd := dbl_len l
  have hsz : s.size = (dbl l).length + 2 := by rw [← bs_length, hl]; simp
  obtain ⟨h1, h2⟩ := word_quo hl
  refine lx_flt ?_ (by decide) (by omega)
  rw [h1, quoW, Nat.zero_add, h2, e, quo_dbl_bad a x r h hx, if_neg (by simp)]

/-- Up to k the first byte that may not be, or none. -/
def Bd (l : List UInt8) (k : Nat) (z : Int) : Prop := (z = -1 ∧ (l.take k).all isT = true) ∨ (0 ≤ z ∧ ∃ a x r, l = a ++ x :: r ∧ a.all isT = true ∧ isT x = false ∧ z = ((1 + (dbl a).length : Nat) : Int))
theorem Bd.good {l : List UInt8} {k : Nat} {z : Int} {x : UInt8} (h : Bd l k z) (hx : l[k]? = some x) (ht : isT x = true) : Bd l (k + 1) z := by
  rcases h with ⟨h1, h2⟩ | h
  · refine .inl ⟨h1, ?_⟩
    rw [List.take_add_one, hx, List.all_append, h2]
    simp [ht]
  · exact .inr h
theorem Bd.first {l : List UInt8} {k : Nat} {z z' : Int} {x : UInt8} (h : Bd l k z) (hz : z < 0) (hx : l[k]? = some x) (ht : isT x = false) (e : z' = ((1 + (dbl (l.take k)).length : Nat) : Int)) : Bd l (k + 1) z' := by
  rcases h with ⟨h1, h2⟩ | ⟨h1, _⟩
  · refine .inr ⟨by omega, l.take k, x, l.drop (k + 1), ?_, h2, ht, e⟩
    obtain ⟨hk, hx'⟩ := List.getElem?_eq_some_iff.1 hx
    rw [← hx', ← List.drop_eq_getElem_cons hk, List.take_append_drop]
  · omega
theorem Bd.later {l : List UInt8} {k : Nat} {z : Int} (h : Bd l k z) (hz : 0 ≤ z) (j : Nat) : Bd l j z := by
  rcases h with ⟨h1, h2⟩ | h
  · omega
  · exact .inr h
theorem dbl_take {l : List UInt8} {k : Nat} {x : UInt8} (hx : l[k]? = some x) : dbl (l.take (k + 1)) = dbl (l.take k) ++ (if isB 39 x then [x, 39] else [x]) := by
  rw [List.take_add_one, hx, dbl_app]
  simp only [Option.toList_some, dbl]

theorem str_slice (s : ByteArray) (hs : s.size ≤ 60) (k : Nat) (h : k < s.size) (w : World) : (Instr.slice 9 (.string s) (some (.int .i64 (k : Int))) (some (.int .i64 ((k : Int) + 1))) none).run Try.prog w = .ok (.string ⟨#[s[k]]⟩) w := by
  have e : s.extract k (k + 1) = ⟨#[s[k]]⟩ := by
    apply ByteArray.ext
    apply Array.toList_inj.1
    have := bs_extract s k (k + 1)
    rw [bs, Nat.add_sub_cancel_left, drop_at h] at this
    exact this
  rw [← e]
  obtain ⟨m, hm⟩ : ∃ m, m = k + 1 := ⟨_, rfl⟩
  have hm2 : (k : Int) + 1 = (m : Int) := by omega
  rw [hm2, ← hm]
  have h1 : k ≤ m := by omega
  have h2 : m ≤ s.size := by omega
  clear hm hm2 e h
  go_simp

set_option maxRecDepth 100000 in
set_option maxHeartbeats 2000000 in
theorem texts_any (s : ByteArray) (hs : s.size ≤ 9223372036854775807) (w : World) : Calls Try.prog 5 #[.string s] w fun e w' => e = .returned (.bool true) ∧ Below w.heap.size w w' := by
  have HB : Hid _ := begun_any w
  by_cases h60 : 60 < s.size
  · go_enter Try.func5, Try.ntmps5
    go_wp2_with fail
    refine Calls.mono HB.out ?_
    rintro e w1 ⟨rfl, hb1⟩
    go_wp2
    go_ret
    exact ⟨rfl, hb1⟩
  have hs60 : s.size ≤ 60 := by omega
  have hbl := bs_length s
  replace hbl := hid hbl
  go_enter Try.func5, Try.ntmps5
  go_wp2_with fail
  refine Calls.mono HB.out ?_
  rintro e w1 ⟨rfl, hb1⟩
  clear HB
  go_wp2
  go_loopw [3, 4, 5] (fun t z i wr => ∃ (k : Nat) (q : Int), k ≤ s.size ∧ i = .int .i64 k ∧ z = .int .i64 q ∧ t = .string ⟨(39 :: dbl ((bs s).take k)).toArray⟩ ∧ Hid (Bd (bs s) k q) ∧ wr = w1) (fun _ _ i _ => s.size - (intOf i).toNat)
  case atStart => exact ⟨0, -1, by omega, rfl, rfl, rfl, .inl ⟨rfl, rfl⟩, rfl⟩
  case round =>
    obtain ⟨k, z, hk, rfl, rfl, rfl, HD, rfl⟩ := hrel
    by_cases hlt : k < s.size
    · have hat := hid (bs_at s k hlt)
      have hsl := str_slice s hs60 k hlt
      have hdt := hid (dbl_take (bs_at s k hlt))
      have hdl := (dbl_len ((bs s).take k)).2
      rw [List.length_take] at hdl
      have hz1 : (⟨(39 :: dbl ((bs s).take k)).toArray⟩ : ByteArray).size = 1 + (dbl ((bs s).take k)).length := by simp [ByteArray.size]; omega
      have hzs : (⟨(39 :: dbl ((bs s).take k)).toArray⟩ : ByteArray).size ≤ 121 := by omega
      replace hz1 := hid hz1
      have hc1 : (⟨(39 :: dbl ((bs s).take k)).toArray⟩ : ByteArray) ++ ⟨#[s[k]]⟩ = ⟨(39 :: (dbl ((bs s).take k) ++ [s[k]])).toArray⟩ := cat_lists (39 :: dbl ((bs s).take k)) [s[k]]
      have hz2 : (⟨(39 :: (dbl ((bs s).take k) ++ [s[k]])).toArray⟩ : ByteArray).size ≤ 122 := by
        have := hz1.out
        rw [sz_mk] at this ⊢
        rw [List.length_cons, List.length_append, List.length_singleton]
        rw [List.length_cons] at this
        omega
      have hc2 : (⟨(39 :: (dbl ((bs s).take k) ++ [s[k]])).toArray⟩ : ByteArray) ++ ⟨#[39]⟩ = ⟨(39 :: (dbl ((bs s).take k) ++ [s[k], 39])).toArray⟩ := (cat_lists (39 :: (dbl ((bs s).take k) ++ [s[k]])) [39]).trans (by simp)
      generalize hT1 : (⟨(39 :: dbl ((bs s).take k)).toArray⟩ : ByteArray) = T1 at *
      generalize hT2 : (⟨(39 :: (dbl ((bs s).take k) ++ [s[k]])).toArray⟩ : ByteArray) = T2 at *
      generalize hT3 : (⟨(39 :: (dbl ((bs s).take k) ++ [s[k], 39])).toArray⟩ : ByteArray) = T3 at *
      replace hT1 := hid hT1
      replace hT2 := hid hT2
      replace hT3 := hid hT3
      clear hdl
      by_cases h32 : s[k].toNat < 32
      · have ht : isT s[k] = false := by simp [isT]; omega
        have h39 : isB 39 s[k] = false := by simp [isB]; omega
        have g1 : decide ((s[k].toNat : Int) < 32) = true := by simp; omega
        have g3 : ((s[k].toNat : Int) == 39) = false := by simp; omega
        by_cases hz : z < 0
        · have g4 : decide (z < 0) = true := by simpa using hz
          have HN := hid (HD.out.first hz hat.out ht (z' := (T1.size : Int)) (by rw [hz1.out]))
          clear HD h32 ht hat
          go_wp2
          go_roundw
          case rel => exact ⟨k + 1, T1.size, by omega, by go_num, rfl, by rw [hdt.out, if_neg (by rw [h39]; simp), hT2.out], HN, trivial⟩
          case measure => simp only [intOf]; omega
        · have g4 : decide (z < 0) = false := by simp; omega
          have HN := hid (HD.out.later (by omega) (k + 1))
          clear HD h32 ht hat
          go_wp2
          go_roundw
          case rel => exact ⟨k + 1, z, by omega, by go_num, rfl, by rw [hdt.out, if_neg (by rw [h39]; simp), hT2.out], HN, trivial⟩
          case measure => simp only [intOf]; omega
      by_cases h126 : 126 < s[k].toNat
      · have ht : isT s[k] = false := by simp [isT]; omega
        have h39 : isB 39 s[k] = false := by simp [isB]; omega
        have g1 : decide ((s[k].toNat : Int) < 32) = false := by simp; omega
        have g2 : decide (126 < (s[k].toNat : Int)) = true := by simp; omega
        have g3 : ((s[k].toNat : Int) == 39) = false := by simp; omega
        by_cases hz : z < 0
        · have g4 : decide (z < 0) = true := by simpa using hz
          have HN := hid (HD.out.first hz hat.out ht (z' := (T1.size : Int)) (by rw [hz1.out]))
          clear HD h32 ht hat h126
          go_wp2
          go_roundw
          case rel => exact ⟨k + 1, T1.size, by omega, by go_num, rfl, by rw [hdt.out, if_neg (by rw [h39]; simp), hT2.out], HN, trivial⟩
          case measure => simp only [intOf]; omega
        · have g4 : decide (z < 0) = false := by simp; omega
          have HN := hid (HD.out.later (by omega) (k + 1))
          clear HD h32 ht hat h126
          go_wp2
          go_roundw
          case rel => exact ⟨k + 1, z, by omega, by go_num, rfl, by rw [hdt.out, if_neg (by rw [h39]; simp), hT2.out], HN, trivial⟩
          case measure => simp only [intOf]; omega
      have ht : isT s[k] = true := by simp [isT]; omega
      have g1 : decide ((s[k].toNat : Int) < 32) = false := by simp; omega
      have g2 : decide (126 < (s[k].toNat : Int)) = false := by simp; omega
      have HN := hid (HD.out.good hat.out ht)
      by_cases h39' : s[k].toNat = 39
      · have h39 : isB 39 s[k] = true := by simp [isB, h39']
        have g3 : ((s[k].toNat : Int) == 39) = true := by simp; omega
        clear HD h32 ht hat h126 h39'
        go_wp2
        go_roundw
        case rel => exact ⟨k + 1, z, by omega, by go_num, rfl, by rw [hdt.out, if_pos h39, hT3.out], HN, trivial⟩
        case measure => simp only [intOf]; omega
      · have h39 : isB 39 s[k] = false := by simp [isB, h39']
        have g3 : ((s[k].toNat : Int) == 39) = false := by simp; omega
        clear HD h32 ht hat h126 h39'
        go_wp2
        go_roundw
        case rel => exact ⟨k + 1, z, by omega, by go_num, rfl, by rw [hdt.out, if_neg (by rw [h39]; simp), hT2.out], HN, trivial⟩
        case measure => simp only [intOf]; omega
    · obtain rfl : k = s.size := by omega
      have hD := HD.out
      have e : (bs s).take s.size = bs s := List.take_of_length_le (by rw [hbl.out]; exact Nat.le_refl _)
      rw [e]
      have hdl := (dbl_len (bs s)).2
      rw [hbl.out] at hdl
      have hc : (⟨(39 :: dbl (bs s)).toArray⟩ : ByteArray) ++ ⟨#[39]⟩ = ⟨(39 :: (dbl (bs s) ++ [39])).toArray⟩ := cat_lists (39 :: dbl (bs s)) [39]
      have hz1 : (⟨(39 :: dbl (bs s)).toArray⟩ : ByteArray).size ≤ 121 := by simp [ByteArray.size]; omega
      have hz2 : (⟨(39 :: (dbl (bs s) ++ [39])).toArray⟩ : ByteArray).size ≤ 122 := by simp [ByteArray.size]; omega
      have H1 := hid (fun h h30 => lex_quo (s := ⟨(39 :: (dbl (bs s) ++ [39])).toArray⟩) (l := bs s) (bs_mk _) h h30)
      have H2 := hid (fun h h30 => lex_quo_long (s := ⟨(39 :: (dbl (bs s) ++ [39])).toArray⟩) (l := bs s) (bs_mk _) h h30 (by rw [hbl.out]; exact hs60))
      have H3 := hid (fun (a : List UInt8) (x : UInt8) (r : List UInt8) e h hx => lex_quo_bad (s := ⟨(39 :: (dbl (bs s) ++ [39])).toArray⟩) (l := bs s) (a := a) (x := x) (r := r) (bs_mk _) e h hx (by rw [hbl.out]; exact hs60))
      have HX : Hid (∀ w, _) := fun w => lex_any ⟨(39 :: (dbl (bs s) ++ [39])).toArray⟩ (by omega) w
      generalize (⟨(39 :: (dbl (bs s) ++ [39])).toArray⟩ : ByteArray) = T2 at *
      generalize (⟨(39 :: dbl (bs s)).toArray⟩ : ByteArray) = T1 at *
      clear HD hlt hk hdl
      go_wp2_with fail
      refine Calls.mono (HX.out _) ?_
      rintro e w3 ⟨ao3, n3, c3, ts, p3, f3, rfl, hr, hx, hb⟩
      have hB3 := Below.on hb1 hb
      clear HX hb hb1
      rcases hD with ⟨rfl, hall⟩ | ⟨hz0, a, x, r, el, ha, hx0, ez⟩
      · rw [e] at hall
        by_cases h30 : 30 < s.size
        · have hx1 := H2.out hall (by rw [hbl.out]; exact h30)
          obtain ⟨rfl, rfl, rfl⟩ := hx1.det hx
          clear hx1 hx hr H1 H2 H3 hall
          go_wp2
          go_ret
          exact ⟨rfl, hB3⟩
        · have hx1 := H1.out hall (by rw [hbl.out]; omega)
          have ebs : (⟨(bs s).toArray⟩ : ByteArray) = s := by
            apply ByteArray.ext
            simp [bs]
          rw [ebs] at hx1
          obtain ⟨rfl, rfl, rfl⟩ := hx1.det hx
          have hcap3 := hr.cap
          have hmax3 := hr.max
          obtain rfl : n3 = 2 := hr.len.symm
          obtain ⟨b3, o3, rfl, hcc⟩ := hr.cells (by omega)
          have k0 := (hcc 0 (by omega)).1
          have k1 := (hcc 0 (by omega)).2.1
          simp only [tth, List.getElem?_cons_zero, Option.getD_some] at k0 k1
          rw [Nat.zero_mul, Nat.add_zero] at k0 k1
          clear hx1 hx hr hcc H1 H2 H3 hall ebs e
          go_wp2
          go_ret
          exact ⟨rfl, hB3⟩
      · have hx1 := H3.out a x r el ha hx0
        rw [← ez] at hx1
        obtain ⟨rfl, rfl, rfl⟩ := hx1.det hx
        have g5 : decide (0 ≤ z) = true := by rw [decide_eq_true_iff]; exact hz0
        clear hx1 hx hr H1 H2 H3 el ha hx0 ez
        go_wp2
        go_ret
        exact ⟨rfl, hB3⟩

end Go.Proofs.Ytlnijapabhlbeaa
