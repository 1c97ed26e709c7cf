/- Two texts with a space between them: the second one's words, and all of it. -/
import Derived.Test.YtlnijapabhlbeaaLn
namespace Go.Proofs.Ytlnijapabhlbeaa
open Go.RowKit
set_option linter.unusedVariables false

/-- A word so many bytes further on. -/
def tsh (d : Nat) (t : Tk) : Tk := (t.1, t.2.1, t.2.2.1, t.2.2.2 + d)
/-- V tells what W tells, so many bytes further on. -/
def Sh (d : Nat) (W V : Wr) : Prop := V.er = W.er ∧ (W.er = 0 → V.tk = tsh d W.tk ∧ V.nx = d + W.nx) ∧ (W.er ≠ 0 → V.pl = W.pl + d)
theorem sh_flt (d k : Nat) (e : Int) (he : e ≠ 0) : Sh d (flt k e) (flt (d + k) e) := ⟨rfl, fun h => absurd h he, fun _ => by simp [flt]; omega⟩
theorem sh_wrd (d : Nat) (a : Int) (b : ByteArray) (c : Int) (p n : Nat) : Sh d (wrd (a, b, c, (p : Int)) n) (wrd (a, b, c, ((d + p : Nat) : Int)) (d + n)) := ⟨rfl, fun _ => ⟨by simp [wrd, tsh]; omega, rfl⟩, fun h => absurd rfl h⟩
theorem one_hi {s t u : ByteArray} (J : Jn s t u) (j : Nat) : Sh (s.size + 1) (oneW t j) (oneW u (s.size + 1 + j)) := by
  have e1 := J.hi isL j
  have e2 := J.hi isDig j
  have e3 := J.hi (isB 39) j
  cases g1 : got isL t j with
  | true =>
    rw [oneW_name (e1.trans g1), oneW_name g1, nameW, nameW, J.tillhi, J.exthi, show s.size + 1 + till isN t j - (s.size + 1 + j) = till isN t j - j from by omega]
    split
    · exact sh_flt _ _ _ (by decide)
    · exact sh_wrd _ _ _ _ _ _
  | false =>
    cases g2 : got isDig t j with
    | true =>
      rw [oneW_num (e1.trans g1) (e2.trans g2), oneW_num g1 g2, numW, numW, J.tillhi, J.hi, numV, numV, J.exthi]
      split
      · exact sh_flt _ _ _ (by decide)
      · split
        · exact sh_wrd _ _ _ _ _ _
        · exact sh_flt _ _ _ (by decide)
    | false =>
      cases g3 : got (isB 39) t j with
      | true =>
        have hd : (bs u).drop (s.size + 1 + j + 1) = (bs t).drop (j + 1) := J.drop (j + 1)
        rw [oneW_quo (e1.trans g1) (e2.trans g2) (e3.trans g3), oneW_quo g1 g2 g3, quoW, quoW, hd]
        split
        · split
          · exact sh_flt _ _ _ (by decide)
          · rw [show s.size + 1 + j + 1 + (quo ((bs t).drop (j + 1))).2.1 = s.size + 1 + (j + 1 + (quo ((bs t).drop (j + 1))).2.1) from by omega]
            exact sh_wrd _ _ _ _ _ _
        · rw [show s.size + 1 + j + 1 + (quo ((bs t).drop (j + 1))).2.1 = s.size + 1 + (j + 1 + (quo ((bs t).drop (j + 1))).2.1) from by omega]
          exact sh_flt _ _ _ (by decide)
      | false =>
        have es : sgn u (s.size + 1 + j) = sgn t j := by
          rw [sgn, sgn, J.hi, J.hi, J.hi, show s.size + 1 + j + 1 = s.size + 1 + (j + 1) from by omega, J.hi, J.hi]
        rw [oneW_sgn (e1.trans g1) (e2.trans g2) (e3.trans g3), oneW_sgn g1 g2 g3, sgnW, sgnW, es]
        split
        · exact sh_flt _ _ _ (by decide)
        · rw [show s.size + 1 + j + sgn t j = s.size + 1 + (j + sgn t j) from by omega, J.exthi]
          exact sh_wrd _ _ _ _ _ _
theorem word_hi {s t u : ByteArray} (J : Jn s t u) (k : Nat) : Sh (s.size + 1) (wordW t k) (wordW u (s.size + 1 + k)) := by
  have hz := J.size
  rw [wordW, wordW, J.tillhi, endW, endW]
  by_cases h : till (isB 32) t k = t.size
  · rw [if_pos h, if_pos (by omega)]
    exact sh_wrd _ _ _ _ _ _
  · rw [if_neg h, if_neg (by omega)]
    exact one_hi J _
theorem lx_hi {s t u : ByteArray} (J : Jn s t u) {k : Nat} {B : List Tk} {b f : Int} (h : Lx t k B b f) : (f = 0 → Lx u (s.size + 1 + k) (B.map (tsh (s.size + 1))) 0 0) ∧ (f ≠ 0 → Lx u (s.size + 1 + k) [] (b + ((s.size + 1 : Nat) : Int)) f) := by
  refine Lx.all (fun k B b f => (f = 0 → Lx u (s.size + 1 + k) (B.map (tsh (s.size + 1))) 0 0) ∧ (f ≠ 0 → Lx u (s.size + 1 + k) [] (b + ((s.size + 1 : Nat) : Int)) f)) ?_ ?_ ?_ ?_ h
  · intro k h1
    obtain ⟨w1, w2, w3⟩ := word_hi J k
    refine ⟨fun h => absurd h h1, fun _ => ?_⟩
    have := Lx.bad (s := u) (s.size + 1 + k) (by rw [w1]; exact h1)
    rw [w1, w3 h1] at this
    exact this
  · intro k h1 h2
    obtain ⟨w1, w2, w3⟩ := word_hi J k
    obtain ⟨w4, w5⟩ := w2 h1
    refine ⟨fun _ => ?_, fun h => absurd rfl h⟩
    have := Lx.fin (s := u) (s.size + 1 + k) (by rw [w1]; exact h1) (by rw [w4]; exact h2)
    rw [w4] at this
    exact this
  · intro k l h1 h2 h3 ih
    obtain ⟨w1, w2, w3⟩ := word_hi J k
    obtain ⟨w4, w5⟩ := w2 h1
    refine ⟨fun _ => ?_, fun h => absurd rfl h⟩
    have := Lx.more (s := u) (s.size + 1 + k) (l.map (tsh (s.size + 1))) (by rw [w1]; exact h1) (by rw [w4]; exact h2) (by rw [w5]; exact ih.1 rfl)
    rw [w4] at this
    exact this
  · intro k a e h1 h2 h3 h4 ih
    obtain ⟨w1, w2, w3⟩ := word_hi J k
    obtain ⟨w4, w5⟩ := w2 h1
    refine ⟨fun h => absurd h h4, fun _ => ?_⟩
    exact Lx.far (s := u) (s.size + 1 + k) _ _ (by rw [w1]; exact h1) (by rw [w4]; exact h2) (by rw [w5]; exact ih.2 h4) h4

/-- Places lie in the text. -/
def Inn (s : ByteArray) (z : Int) : Prop := 0 ≤ z ∧ z ≤ (s.size : Int)
theorem inn_of {s : ByteArray} {k : Nat} (h : k ≤ s.size) : Inn s (k : Int) := ⟨by omega, by omega⟩
theorem one_inn {s : ByteArray} {j : Nat} (hj : j < s.size) : Inn s (oneW s j).tk.2.2.2 ∧ Inn s (oneW s j).pl := by
  have h0 : Inn s 0 := ⟨by omega, by omega⟩
  have hJ : Inn s (j : Int) := inn_of (by omega)
  unfold oneW
  split
  · unfold nameW
    split
    · exact ⟨h0, hJ⟩
    · exact ⟨hJ, h0⟩
  · split
    · unfold numW
      split
      · exact ⟨h0, inn_of (till_le (by omega))⟩
      · split
        · exact ⟨hJ, h0⟩
        · exact ⟨h0, hJ⟩
    · split
      · unfold quoW
        split
        · split
          · exact ⟨h0, hJ⟩
          · exact ⟨hJ, h0⟩
        · refine ⟨h0, inn_of ?_⟩
          have := quo_end ((bs s).drop (j + 1))
          rw [List.length_drop, bs_length] at this
          omega
      · unfold sgnW
        split
        · exact ⟨h0, hJ⟩
        · exact ⟨hJ, h0⟩
theorem word_inn {s : ByteArray} {k : Nat} (hk : k ≤ s.size) : Inn s (wordW s k).tk.2.2.2 ∧ Inn s (wordW s k).pl := by
  have h2 := till_le (p := isB 32) hk
  unfold wordW endW
  split
  · exact ⟨inn_of h2, ⟨by simp [wrd], by simp [wrd]⟩⟩
  · exact one_inn (by omega)
theorem lx_inn {s : ByteArray} {k : Nat} {l : List Tk} {a e : Int} (h : Lx s k l a e) (hk : k ≤ s.size) : (∀ t ∈ l, Inn s t.2.2.2) ∧ Inn s a ∧ l.length ≤ s.size + 1 - k := by
  have h0 : Inn s 0 := ⟨by omega, by omega⟩
  refine Lx.all (fun k l a e => k ≤ s.size → (∀ t ∈ l, Inn s t.2.2.2) ∧ Inn s a ∧ l.length ≤ s.size + 1 - k) ?_ ?_ ?_ ?_ h hk
  · intro k h1 hk
    exact ⟨fun t ht => by simp at ht, (word_inn hk).2, by simp⟩
  · intro k h1 h2 hk
    exact ⟨fun t ht => by rw [List.mem_singleton.1 ht]; exact (word_inn hk).1, h0, by simp; omega⟩
  · intro k l h1 h2 h3 ih hk
    rcases wordW_on hk h1 with h4 | h4
    · exact absurd h4.1 h2
    · have := ih h4.2.2
      refine ⟨fun t ht => ?_, h0, by simp; omega⟩
      rcases List.mem_cons.1 ht with rfl | ht
      · exact (word_inn hk).1
      · exact this.1 t ht
  · intro k a e h1 h2 h3 h4 ih hk
    rcases wordW_on hk h1 with h5 | h5
    · exact absurd h5.1 h2
    · have := ih h5.2.2
      exact ⟨fun t ht => by simp at ht, this.2.1, by simp⟩

theorem lx_some {s : ByteArray} {k : Nat} {l : List Tk} {a e : Int} (h : Lx s k l a e) (he : e = 0) : 0 < l.length := by
  rcases h.step with ⟨h1, _, _, rfl⟩ | ⟨_, _, rfl, _⟩ | ⟨_, _, m, rfl, _⟩ | ⟨_, _, _, h4, _⟩
  · exact absurd he h1
  · simp
  · simp
  · exact absurd he h4

/-- What Lex tells of the three. -/
theorem joins {s t u : ByteArray} (J : Jn s t u) (hz : s.size + t.size < 400) {A B C : List Tk} {a b c e f g : Int} (hA : LexR s A a e) (hB : LexR t B b f) (hC : LexR u C c g) :
    (e ≠ 0 → a = (s.size : Int) ∨ (g = e ∧ c = a)) ∧ (e = 0 → f ≠ 0 → g = f ∧ c = b + ((s.size + 1 : Nat) : Int)) ∧
    (e = 0 → f = 0 → g = 0 ∧ ∃ A' y, A = A' ++ [y] ∧ 0 < B.length ∧ C = A' ++ B.map (tsh (s.size + 1))) := by
  have hu := J.size
  rcases hA with ⟨h, _⟩ | ⟨_, hA⟩
  · omega
  rcases hB with ⟨h, _⟩ | ⟨_, hB⟩
  · omega
  rcases hC with ⟨h, _⟩ | ⟨_, hC⟩
  · omega
  obtain ⟨p1, p2⟩ := lx_lo J hA (Nat.zero_le _)
  obtain ⟨q1, q2⟩ := lx_hi J hB
  refine ⟨fun he => ?_, fun he hf => ?_, fun he hf => ?_⟩
  · rcases p2 he with h | h
    · exact .inl h
    · obtain ⟨_, h1, h2⟩ := hC.det h
      exact .inr ⟨h2, h1⟩
  · obtain ⟨A', e1, e2⟩ := p1 he
    obtain ⟨_, h1, h2⟩ := hC.det ((e2 _ _ _ (q2 hf)).2 hf)
    exact ⟨h2, h1⟩
  · obtain ⟨A', e1, e2⟩ := p1 he
    obtain ⟨h0, h1, h2⟩ := hC.det ((e2 _ _ _ (q1 hf)).1 rfl)
    exact ⟨h2, A', _, e1, lx_some hB hf, h0⟩

end Go.Proofs.Ytlnijapabhlbeaa
