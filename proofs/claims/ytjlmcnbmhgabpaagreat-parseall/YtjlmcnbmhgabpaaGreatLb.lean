/- The walk of lex.Lex. -/
import Derived.Test.YtjlmcnbmhgabpaaGreatLa
namespace Go.Proofs.YtjlmcnbmhgabpaaGreat
open Go.RowKit
set_option linter.unusedVariables false

theorem Lx.zero {s : ByteArray} {k : Nat} {l : List Tk} {a e : Int} (h : Lx s k l a e) (he : e = 0) : a = 0 := by
  rcases h.step with ⟨h1, _, _, rfl⟩ | ⟨_, _, _, rfl, _⟩ | ⟨_, _, _, _, rfl, _⟩ | ⟨_, _, _, h4, _⟩
  · exact absurd he h1
  · rfl
  · rfl
  · exact absurd he h4
theorem Lx.none {s : ByteArray} {k : Nat} {l : List Tk} {a e : Int} (h : Lx s k l a e) (he : e ≠ 0) : l = [] := by
  rcases h.step with ⟨_, rfl, _⟩ | ⟨_, _, _, _, rfl⟩ | ⟨_, _, _, _, _, rfl, _⟩ | ⟨_, _, rfl, _⟩
  · rfl
  · exact absurd rfl he
  · exact absurd rfl he
  · rfl

/-- Up to k the words l were read. -/
def Up (s : ByteArray) (k : Nat) (l : List Tk) : Prop := ∀ ts a e, Lx s k ts a e → (e = 0 → Lx s 0 (l ++ ts) a e) ∧ (e ≠ 0 → Lx s 0 [] a e)
theorem Up.start (s : ByteArray) : Up s 0 [] := fun ts a e h => ⟨fun _ => h, fun he => by rw [h.none he] at h; exact h⟩
theorem Up.more {s : ByteArray} {k : Nat} {l : List Tk} (u : Up s k l) (h1 : (wordW s k).er = 0) (h2 : (wordW s k).tk.1 ≠ 6) : Up s (wordW s k).nx (l ++ [(wordW s k).tk]) := by
  intro ts a e h
  refine ⟨fun he => ?_, fun he => ?_⟩
  · subst he
    obtain rfl := h.zero rfl
    have := (u _ _ _ (Lx.more k ts h1 h2 h)).1 rfl
    simpa using this
  · obtain rfl := h.none he
    exact (u _ _ _ (Lx.far k a e h1 h2 h he)).2 he
theorem Up.fin {s : ByteArray} {k : Nat} {l : List Tk} (u : Up s k l) (h1 : (wordW s k).er = 0) (h2 : (wordW s k).tk.1 = 6) : Lx s 0 (l ++ [(wordW s k).tk]) 0 0 := (u _ _ _ (Lx.fin k h1 h2)).1 rfl
theorem Up.bad {s : ByteArray} {k : Nat} {l : List Tk} (u : Up s k l) (h1 : (wordW s k).er ≠ 0) : Lx s 0 [] (wordW s k).pl (wordW s k).er := (u _ _ _ (Lx.bad k h1)).2 h1

theorem Rr.new (w : World) (s : ByteArray) : Rr (w.alloc (.cells #[.string s, .int .i64 0] 84)) w.heap.size s 0 := ⟨heap_alloc_new w _⟩
theorem Rr.same {w w' : World} {g : Nat} {s : ByteArray} {k : Nat} (h : Rr w g s k) (he : w'.heap[g]? = w.heap[g]?) : Rr w' g s k := ⟨he.trans h.row⟩

set_option maxRecDepth 100000 in
set_option maxHeartbeats 2000000 in
theorem lex_any (s : ByteArray) (hs : s.size ≤ 9223372036854775807) (w : World) : Calls Tryz.prog 15 #[.string s] w fun e w' => ∃ ao n c ts a f, e = .returned (.tuple #[.slice ao n c, .int .i64 a, .int .i64 f]) ∧ RdT w' ao n c ts ∧ LexR s ts a f ∧ Below w.heap.size w w' := by
  by_cases h4 : 400 < s.size
  · go_enter Tryz.func15, Tryz.ntmps15
    go_wp2
    refine bodyPost_ret (v := .tuple #[.slice none 0 0, .int .i64 0, .int .i64 7]) (by simp [results, Tryz.results15]) rfl ⟨none, 0, 0, [], 0, 7, rfl, RdT.nil _, .inl ⟨h4, rfl, rfl, rfl⟩, Below.refl _ _⟩
  · have hs4 : s.size ≤ 400 := by omega
    have HW : Hid (∀ (k : Nat) (w' : World), Rr w' w.heap.size s k → k ≤ s.size → _) := fun k w' hr hk => word_any' hr hs4 hk
    go_enter Tryz.func15, Tryz.ntmps15
    go_wp2
    go_loopw [2] (fun u wr => ∃ (k : Nat) (l : List Tk), k ≤ s.size ∧ l.length ≤ k ∧ Rr wr w.heap.size s k ∧ OwnT (w.heap.size + 1) wr u l ∧ Below w.heap.size w wr ∧ w.heap.size + 1 ≤ wr.heap.size ∧ Hid (Up s k l)) (fun _ wr => s.size - rdAt w.heap.size wr)
    case atStart => exact ⟨0, [], Nat.zero_le _, Nat.le_refl _, Rr.new w s, OwnT.nil _ _, (Below.refl _ _).alloc (Nat.le_refl _) _, by simp, Up.start s⟩
    case round =>
      obtain ⟨k, l, hk, hl, hr, ho, hB, hz, HU⟩ := hrel
      have hm := hr.at
      have H : Hid _ := HW.out k wr hr hk
      rw [wrA, tkA] at H
      have HO : Hid _ := wordW_on (s := s) (k := k) hk
      by_cases he : (wordW s k).er = 0
      · have HN : Hid ((wordW s k).tk.1 ≠ 6 → k < (wordW s k).nx ∧ (wordW s k).nx ≤ s.size) := fun h6 => by
          rcases HO.out he with h | h
          · exact absurd h.1 h6
          · exact h.2
        have HF : Hid ((wordW s k).tk.1 = 6 → Lx s 0 (l ++ [(wordW s k).tk]) 0 0) := fun h6 => HU.out.fin he h6
        have HM : Hid ((wordW s k).tk.1 ≠ 6 → Up s (wordW s k).nx (l ++ [(wordW s k).tk])) := fun h6 => HU.out.more he h6
        clear HW HO HU
        generalize wordW s k = W at *
        obtain ⟨tk, nx, pl, er⟩ := W
        replace he : er = 0 := he
        subst he
        go_wp2_with fail
        refine Calls.mono H.out ?_
        rintro e w1 ⟨rfl, hb1, hr1⟩
        have hr2 : Rr w1 w.heap.size s nx := hr1 (by first | trivial | rfl)
        have hB1 := hb1.below hB (Nat.le_refl _) hB.size
        have ho1 := ho.but hb1 (Nat.lt_succ_self _)
        have hz1 := Nat.le_trans hz hb1.size
        clear H hb1 hr1 ho hB hr
        go_wp2_with (first | (at_builtin; refine wpList_appT rfl (.tmp 23) (.tmp 25) rfl (w.heap.size + 1) _ l (w1.heap.size + 1) tk rfl rfl ((ho1.alloc _).alloc _) (by simpa using Ct.new (w1.alloc (.cells #[.int .i64 tk.1, .string tk.2.1, .int .i64 tk.2.2.1, .int .i64 tk.2.2.2] 45)) tk 45) (by omega) (by simp; omega) ?_) | fail)
        intro v' w4 hO4 hb4 hk4
        have hap : some w1.heap.size ≠ u2.ownBlock := ho1.apart (Nat.le_refl _)
        have hq := hk4 w1.heap.size (by omega) hap
        have c0 : w4.cell? ⟨w1.heap.size, 0, none⟩ = some (.int .i64 tk.1) := by
          refine (World.cell?_of_block (a := ⟨w1.heap.size, 0, none⟩) hq).trans ?_
          exact cell_later ((Below.refl _ _).alloc (Nat.le_refl _) _) (Ct.new w1 tk 45).1
        have hr4 := ((hr2.alloc (.cells #[.int .i64 tk.1, .string tk.2.1, .int .i64 tk.2.2.1, .int .i64 tk.2.2.2] 45)).alloc (.cells #[.int .i64 tk.1, .string tk.2.1, .int .i64 tk.2.2.1, .int .i64 tk.2.2.2] 45)).below hb4 (Nat.lt_succ_self _)
        have hB4 : Below w.heap.size w w4 := ((hB1.alloc hB1.size _).alloc (by have := hB1.size; simp; omega) _).trans (hb4.mono (Nat.le_succ _))
        have hz4 : w.heap.size + 1 ≤ w4.heap.size := Nat.le_trans (by simp; omega) hb4.size
        clear hk4 hap hq hb4 hr2 hB1 ho1 hz1
        by_cases h6 : tk.1 = 6
        · have HX := HF.out h6
          have g6 : (tk.1 == 6) = true := by simpa using h6
          clear HF HM HN
          obtain ⟨oo, q, hv, hrd⟩ := hO4.rd
          subst hv
          go_wp2
          refine bodyPost_ret (v := .tuple #[.slice oo (l ++ [tk]).length q, .int .i64 0, .int .i64 0]) (by simp [results, Tryz.results15]) rfl ⟨oo, (l ++ [tk]).length, q, l ++ [tk], 0, 0, rfl, hrd, .inr ⟨hs4, HX⟩, hB4⟩
        · have HX : Hid _ := HM.out h6
          obtain ⟨hn1, hn2⟩ := HN.out h6
          have g6 : (tk.1 == 6) = false := by simpa using h6
          have hm4 := hr4.at
          clear HF HM HN
          go_wp2
          go_roundw
          case rel => exact ⟨nx, l ++ [tk], hn2, by simp; omega, hr4, hO4, hB4, hz4, HX⟩
          case measure => omega
      · have HF : Hid _ := HU.out.bad he
        clear HW HO HU
        generalize wordW s k = W at *
        have ge : (W.er == 0) = false := by simpa using he
        go_wp2_with fail
        refine Calls.mono H.out ?_
        rintro e w1 ⟨rfl, hb1, hr1⟩
        have hB1 := hb1.below hB (Nat.le_refl _) hB.size
        clear H hb1 hr1
        go_wp2
        refine bodyPost_ret (v := .tuple #[.slice none 0 0, .int .i64 W.pl, .int .i64 W.er]) (by simp [results, Tryz.results15]) rfl ⟨none, 0, 0, [], W.pl, W.er, rfl, RdT.nil _, .inr ⟨hs4, HF.out⟩, hB1.alloc hB1.size _⟩

end Go.Proofs.YtjlmcnbmhgabpaaGreat
