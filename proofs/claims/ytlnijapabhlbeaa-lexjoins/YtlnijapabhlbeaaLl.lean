/- The walks of the document's one and Lex. -/
import Derived.Test.YtlnijapabhlbeaaLk
namespace Go.Proofs.Ytlnijapabhlbeaa
open Go.RowKit
set_option linter.unusedVariables false

theorem one_any (s : ByteArray) (hs : s.size ≤ 400) (j : Nat) (hj : j < s.size) (w : World) : Calls Try.prog 16 #[.string s, .int .i64 (j : Int)] w fun e w' => Ones (oneW s j) e ∧ Below w.heap.size w w' := by
  cases g1 : got isL s j with
  | true => rw [oneW_name g1]; exact one_name s hs j hj g1 w
  | false =>
    cases g2 : got isDig s j with
    | true => rw [oneW_num g1 g2]; exact one_num s hs j hj g1 g2 w
    | false =>
      cases g3 : got (isB 39) s j with
      | true => rw [oneW_quo g1 g2 g3]; exact one_quo s hs j hj g1 g2 g3 w
      | false => rw [oneW_sgn g1 g2 g3]; exact one_sgn s hs j hj g1 g2 g3 w

theorem word_same {s : ByteArray} {k : Nat} (h : got (isB 32) s k = true) : wordW s k = wordW s (k + 1) := by rw [wordW, wordW, till_step h]
theorem Lx.like {s : ByteArray} {k m : Nat} {l : List Tk} {a e : Int} (hw : wordW s k = wordW s m) (h : Lx s m l a e) : Lx s k l a e := by
  rcases h.step with ⟨h1, rfl, rfl, rfl⟩ | ⟨h1, h2, rfl, rfl, rfl⟩ | ⟨h1, h2, n, rfl, rfl, rfl, h3⟩ | ⟨h1, h2, rfl, h4, h3⟩
  · rw [← hw] at h1 ⊢; exact Lx.bad k h1
  · rw [← hw] at h1 h2 ⊢; exact Lx.fin k h1 h2
  · rw [← hw] at h1 h2 h3 ⊢; exact Lx.more k n h1 h2 h3
  · rw [← hw] at h1 h2 h3; exact Lx.far k a e h1 h2 h3 h4
theorem Up.space {s : ByteArray} {k : Nat} {l : List Tk} (u : Up s k l) (h : got (isB 32) s k = true) : Up s (k + 1) l := fun ts a e hx => u ts a e (hx.like (word_same h))
theorem word_one {s : ByteArray} {k : Nat} (hk : k < s.size) (h : got (isB 32) s k = false) : wordW s k = oneW s k := by rw [wordW, till_stop h, endW, if_neg (by omega)]

set_option maxRecDepth 100000 in
set_option maxHeartbeats 2000000 in
theorem refLex_any (s : ByteArray) (hs : s.size ≤ 9223372036854775807) (w : World) : Calls Try.prog 11 #[.string s] w fun e w' => ∃ ao n c ts a f, e = .returned (.tuple #[.slice ao n c, .int .i64 a, .int .i64 f]) ∧ RdT w' ao n c ts ∧ LexR s ts a f ∧ Below w.heap.size w w' := by
  by_cases h4 : 400 < s.size
  · go_enter Try.func11, Try.ntmps11
    go_wp2
    refine bodyPost_ret (v := .tuple #[.slice none 0 0, .int .i64 0, .int .i64 7]) (by simp [results, Try.results11]) rfl ⟨none, 0, 0, [], 0, 7, rfl, RdT.nil _, .inl ⟨h4, rfl, rfl, rfl⟩, Below.refl _ _⟩
  · have hs4 : s.size ≤ 400 := by omega
    have HW : Hid (∀ (k : Nat) (w' : World), k < s.size → _) := fun k w' hk => one_any s hs4 k hk w'
    go_enter Try.func11, Try.ntmps11
    go_wp2
    go_loopw [5, 6] (fun u i wr => ∃ (k : Nat) (l : List Tk), k ≤ s.size ∧ l.length ≤ k ∧ i = .int .i64 k ∧ OwnT w.heap.size wr u l ∧ Below w.heap.size w wr ∧ Hid (Up s k l)) (fun _ i _ => s.size - (intOf i).toNat)
    case atStart => exact ⟨0, [], Nat.zero_le _, Nat.le_refl _, rfl, OwnT.nil _ _, Below.refl _ _, Up.start s⟩
    case round =>
      obtain ⟨k, l, hk, hl, rfl, ho, hB, HU⟩ := hrel
      by_cases hlt : k < s.size
      · by_cases h32 : s[k].toNat = 32
        · have g1 : ((s[k].toNat : Int) == 32) = true := by simp; omega
          have HN := hid (HU.out.space (by rw [got_at hlt]; simp [isB, h32]))
          clear HW HU h32
          go_wp2
          go_roundw
          case rel => exact ⟨k + 1, l, by omega, by omega, by go_num, ho, hB, HN⟩
          case measure => simp only [intOf]; omega
        · have g1 : ((s[k].toNat : Int) == 32) = false := by simp; omega
          have hw := word_one hlt (by rw [got_at hlt]; simp [isB, h32])
          have H : Hid _ := HW.out k wr hlt
          have HE := hid (fun h => HU.out.bad h)
          have HM := hid (fun h1 h2 => HU.out.more h1 h2)
          have HO := hid (oneW_on hlt)
          rw [hw] at HE HM
          generalize oneW s k = W at *
          clear HW HU h32 hw
          obtain ⟨tk, nx, pl, er⟩ := W
          by_cases he : er = 0
          · subst he
            have hon := HO.out rfl
            have h6 : tk.1 ≠ 6 := hon.1
            have hn1 : k < nx := hon.2.1
            have hn2 : nx ≤ s.size := hon.2.2
            have HX := hid (HM.out rfl h6)
            clear hon HO HM HE
            go_wp2_with fail
            refine Calls.mono H.out ?_
            rintro e w1 ⟨⟨t, x, b, rfl, hO1, _⟩, hb1⟩
            obtain ⟨rfl, rfl⟩ : t = tk ∧ x = (nx : Int) := hO1 rfl
            have hB1 := Below.on hB hb1
            have ho1 := ho.later hb1
            clear H hb1 ho hB hO1
            unfold tkA
            go_wp2_with (first | (at_builtin; refine wpList_appT rfl (.tmp 36) (.tmp 38) rfl w.heap.size _ l (w1.heap.size + 1) t rfl rfl ((ho1.alloc _).alloc _) (by simpa using Ct.new (w1.alloc (.cells #[.int .i64 t.1, .string t.2.1, .int .i64 t.2.2.1, .int .i64 t.2.2.2] 30)) t 30) (by omega) (by have := hB1.size; simp; omega) ?_) | fail)
            intro v' w4 hO4 hb4 hk4
            have hB4 : Below w.heap.size w w4 := ((hB1.alloc hB1.size _).alloc (by have := hB1.size; simp; omega) _).trans hb4
            clear hk4 hb4 hB1 ho1
            go_wp2
            go_roundw
            case rel => exact ⟨nx, l ++ [t], hn2, by simp; omega, rfl, hO4, hB4, HX⟩
            case measure => simp only [intOf]; omega
          · have ge : (er == 0) = false := by simpa using he
            have HF := hid (HE.out he)
            clear HO HM HE
            go_wp2_with fail
            refine Calls.mono H.out ?_
            rintro e w1 ⟨⟨t, x, b, rfl, _, hO2⟩, hb1⟩
            obtain rfl : b = pl := hO2 he
            have hB1 := Below.on hB hb1
            clear H hb1 hO2
            unfold tkA
            go_wp2
            refine bodyPost_ret (v := .tuple #[.slice none 0 0, .int .i64 b, .int .i64 er]) (by simp [results, Try.results11]) rfl ⟨none, 0, 0, [], b, er, rfl, RdT.nil _, .inr ⟨hs4, HF.out⟩, hB1.alloc hB1.size _⟩
      · obtain rfl : k = s.size := by omega
        have HF := HU.out.fin (by rw [word_end]; rfl) (by rw [word_end]; rfl)
        rw [word_end] at HF
        replace HF : Lx s 0 (l ++ [(6, ⟨#[]⟩, 0, (s.size : Int))]) 0 0 := HF
        replace HF := hid HF
        clear HW HU
        go_wp2_with (first | (at_builtin; refine wpList_appT rfl (.tmp 41) (.tmp 45) rfl w.heap.size _ l wr.heap.size (6, ⟨#[]⟩, 0, (s.size : Int)) rfl rfl (ho.alloc _) (Ct.new wr (6, ⟨#[]⟩, 0, (s.size : Int)) 30) (by omega) (by have := hB.size; simp; omega) ?_) | fail)
        intro v' w4 hO4 hb4 hk4
        have hB4 : Below w.heap.size w w4 := (hB.alloc hB.size _).trans hb4
        obtain ⟨oo, q, hv, hrd⟩ := hO4.rd
        subst hv
        clear hk4 hb4 hB ho
        go_wp2
        refine bodyPost_ret (v := .tuple #[.slice oo (l ++ [((6, ⟨#[]⟩, 0, (s.size : Int)) : Tk)]).length q, .int .i64 0, .int .i64 0]) (by simp [results, Try.results11]) rfl ⟨oo, _, q, _, 0, 0, rfl, hrd, .inr ⟨hs4, HF.out⟩, hB4⟩

end Go.Proofs.Ytlnijapabhlbeaa
