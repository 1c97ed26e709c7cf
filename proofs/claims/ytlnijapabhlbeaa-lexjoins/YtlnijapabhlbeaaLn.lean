/- Two texts with a space between them: their words. -/
import Derived.Test.YtlnijapabhlbeaaLm
namespace Go.Proofs.Ytlnijapabhlbeaa
open Go.RowKit
set_option linter.unusedVariables false

/-- u is s, a space, and t. -/
structure Jn (s t u : ByteArray) : Prop where
  eq : bs u = bs s ++ 32 :: bs t
theorem Jn.size {s t u : ByteArray} (h : Jn s t u) : u.size = s.size + 1 + t.size := by rw [← bs_length, h.eq, ← bs_length s, ← bs_length t]; simp; omega
theorem bs_inj {a b : ByteArray} (h : bs a = bs b) : a = b := ByteArray.ext (Array.toList_inj.1 h)
theorem Jn.lo {s t u : ByteArray} (h : Jn s t u) (p : UInt8 → Bool) {i : Nat} (hi : i < s.size) : got p u i = got p s i := by
  rw [got, got, h.eq, List.getElem?_append_left (by rw [bs_length]; exact hi)]
theorem Jn.mid {s t u : ByteArray} (h : Jn s t u) (p : UInt8 → Bool) : got p u s.size = p 32 := by
  rw [got, h.eq, List.getElem?_append_right (by rw [bs_length]; exact Nat.le_refl _), bs_length, Nat.sub_self]; rfl
theorem Jn.hi {s t u : ByteArray} (h : Jn s t u) (p : UInt8 → Bool) (i : Nat) : got p u (s.size + 1 + i) = got p t i := by
  rw [got, got, h.eq, List.getElem?_append_right (by rw [bs_length]; omega), bs_length, show s.size + 1 + i - s.size = i + 1 from by omega, List.getElem?_cons_succ]
theorem Jn.le {s t u : ByteArray} (h : Jn s t u) {p : UInt8 → Bool} (hp : p 32 = false) {i : Nat} (hi : i ≤ s.size) : got p u i = got p s i := by
  cases Nat.lt_or_ge i s.size with
  | inl h1 => exact h.lo p h1
  | inr h1 =>
    obtain rfl : i = s.size := by omega
    rw [h.mid, hp, got_end (Nat.le_refl _)]
theorem got_within {p : UInt8 → Bool} {s : ByteArray} : ∀ (n : Nat) {k i : Nat}, s.size - k = n → k ≤ i → i < till p s k → got p s i = true := by
  intro n
  induction n with
  | zero =>
    intro k i h h1 h2
    rw [till_stop (got_end (by omega))] at h2
    omega
  | succ n ih =>
    intro k i h h1 h2
    cases hg : got p s k with
    | false => rw [till_stop hg] at h2; omega
    | true =>
      by_cases e : i = k
      · rw [e]; exact hg
      · rw [till_step hg] at h2
        exact ih (by omega) (by omega) h2
theorem Jn.till {s t u : ByteArray} (h : Jn s t u) {p : UInt8 → Bool} (hp : p 32 = false) {k : Nat} (hk : k ≤ s.size) : till p u k = till p s k := by
  have hle := till_le (p := p) hk
  exact till_eq _ rfl (till_ge p s k) (fun i h1 h2 => by rw [h.lo p (by omega)]; exact got_within _ rfl h1 h2) (by rw [h.le hp hle]; exact got_till p s k)
theorem Jn.drop {s t u : ByteArray} (h : Jn s t u) (k : Nat) : (bs u).drop (s.size + 1 + k) = (bs t).drop k := by
  rw [h.eq, ← bs_length s, show (bs s).length + 1 + k = (bs s).length + (k + 1) from by omega, List.drop_append, List.drop_of_length_le (by omega), List.nil_append, Nat.add_sub_cancel_left, List.drop_succ_cons]
theorem Jn.tillhi {s t u : ByteArray} (h : Jn s t u) (p : UInt8 → Bool) (k : Nat) : Go.Proofs.Ytlnijapabhlbeaa.till p u (s.size + 1 + k) = s.size + 1 + Go.Proofs.Ytlnijapabhlbeaa.till p t k := by
  unfold Go.Proofs.Ytlnijapabhlbeaa.till
  rw [h.drop]; omega
theorem Jn.ext {s t u : ByteArray} (h : Jn s t u) {j m : Nat} (hj : j ≤ m) (hm : m ≤ s.size) : u.extract j m = s.extract j m := by
  apply bs_inj
  rw [bs_extract, bs_extract, h.eq, List.drop_append_of_le_length (by rw [bs_length]; omega), List.take_append_of_le_length (by rw [List.length_drop, bs_length]; omega)]
theorem Jn.exthi {s t u : ByteArray} (h : Jn s t u) (a b : Nat) : u.extract (s.size + 1 + a) (s.size + 1 + b) = t.extract a b := by
  apply bs_inj
  rw [bs_extract, bs_extract, h.drop, show s.size + 1 + b - (s.size + 1 + a) = b - a from by omega]

theorem quo_app (r : List UInt8) : ∀ (n : Nat) (l : List UInt8), l.length ≤ n → ((quo l).2.2 = true ∨ (quo l).2.1 < l.length) → quo (l ++ 32 :: r) = quo l := by
  intro n
  induction n with
  | zero =>
    intro l h hq
    obtain rfl : l = [] := List.eq_nil_of_length_eq_zero (by omega)
    rw [quo_nil] at hq
    simp at hq
  | succ n ih =>
    intro l h hq
    match l, h, hq with
    | [], _, hq => rw [quo_nil] at hq; simp at hq
    | [x], _, hq =>
      cases hx : isB 39 x with
      | true =>
        have e1 : quo [x] = ([], 1, true) := by rw [quo, if_pos hx]
        have e2 : quo (x :: 32 :: r) = ([], 1, true) := by rw [quo, if_pos hx, if_neg (by decide)]
        rw [List.singleton_append, e1, e2]
      | false =>
        rw [List.singleton_append, quo_cons _ _ hx, quo_cons _ _ hx]
        rw [quo_cons _ _ hx] at hq
        cases ht : isT x with
        | true => rw [ht, if_pos rfl, quo_nil] at hq; simp at hq
        | false => simp
    | x :: y :: q, h, hq =>
      cases hx : isB 39 x with
      | true =>
        cases hy : isB 39 y with
        | true =>
          rw [quo_marks _ _ _ hx hy] at hq ⊢
          rw [List.cons_append, List.cons_append, quo_marks _ _ _ hx hy, ih q (by simp at h; omega) (by simpa using hq)]
        | false => rw [List.cons_append, List.cons_append, quo, if_pos hx, if_neg (by rw [hy]; simp), quo, if_pos hx, if_neg (by rw [hy]; simp)]
      | false =>
        rw [List.cons_append, quo_cons _ _ hx, quo_cons _ _ hx]
        rw [quo_cons _ _ hx] at hq
        cases ht : isT x with
        | false => simp
        | true =>
          rw [ht, if_pos rfl] at hq
          have := ih (y :: q) (by simpa using h) (by simpa using hq)
          rw [this]

theorem numV_lo {s t u : ByteArray} (h : Jn s t u) {j m : Nat} (hj : j ≤ m) (hm : m ≤ s.size) : numV u j m = numV s j m := by rw [numV, numV, h.ext hj hm]
theorem one_lo {s t u : ByteArray} (h : Jn s t u) {j : Nat} (hj : j < s.size) : oneW u j = oneW s j ∨ ((oneW s j).er ≠ 0 ∧ (oneW s j).pl = (s.size : Int)) := by
  have e1 := h.lo isL hj
  have e2 := h.lo isDig hj
  have e3 := h.lo (isB 39) hj
  cases g1 : got isL s j with
  | true =>
    left
    rw [oneW_name (e1.trans g1), oneW_name g1, nameW, nameW, h.till (by decide) (Nat.le_of_lt hj), h.ext (till_ge _ _ _) (till_le (Nat.le_of_lt hj))]
  | false =>
    cases g2 : got isDig s j with
    | true =>
      left
      rw [oneW_num (e1.trans g1) (e2.trans g2), oneW_num g1 g2, numW, numW, h.till (by decide) (Nat.le_of_lt hj), h.le (by decide) (till_le (Nat.le_of_lt hj)), numV_lo h (till_ge _ _ _) (till_le (Nat.le_of_lt hj))]
    | false =>
      cases g3 : got (isB 39) s j with
      | true =>
        rw [oneW_quo (e1.trans g1) (e2.trans g2) (e3.trans g3), oneW_quo g1 g2 g3]
        have hd : (bs u).drop (j + 1) = (bs s).drop (j + 1) ++ 32 :: bs t := by
          rw [h.eq, List.drop_append_of_le_length (by rw [bs_length]; omega)]
        have hlen : ((bs s).drop (j + 1)).length = s.size - (j + 1) := by rw [List.length_drop, bs_length]
        have hend := quo_end ((bs s).drop (j + 1))
        by_cases hq : (quo ((bs s).drop (j + 1))).2.2 = true ∨ (quo ((bs s).drop (j + 1))).2.1 < ((bs s).drop (j + 1)).length
        · left
          rw [quoW, quoW, hd, quo_app (bs t) _ _ (Nat.le_refl _) hq]
        · right
          have h1 : (quo ((bs s).drop (j + 1))).2.2 = false := by
            cases e : (quo ((bs s).drop (j + 1))).2.2 with
            | false => rfl
            | true => exact absurd (.inl e) hq
          have h2 : (quo ((bs s).drop (j + 1))).2.1 = s.size - (j + 1) := by
            have : ¬ (quo ((bs s).drop (j + 1))).2.1 < ((bs s).drop (j + 1)).length := fun e => hq (.inr e)
            omega
          rw [quoW, h1, if_neg (by simp), h2, show j + 1 + (s.size - (j + 1)) = s.size from by omega]
          exact ⟨by simp [flt], rfl⟩
      | false =>
        left
        rw [oneW_sgn (e1.trans g1) (e2.trans g2) (e3.trans g3), oneW_sgn g1 g2 g3]
        have es : sgn u j = sgn s j := by
          rw [sgn, sgn, h.lo _ hj, h.lo _ hj, h.lo _ hj, h.le (p := is2 61 62) (by decide) (by omega), h.le (p := isB 61) (by decide) (by omega)]
        have := sgn_le (s := s) (j := j)
        rw [sgnW, sgnW, es]
        split
        · rfl
        · rename_i h0
          rw [h.ext (by omega) (by omega)]

theorem till_sp {s t u : ByteArray} (h : Jn s t u) {k : Nat} (hk : k ≤ s.size) (hj : till (isB 32) s k < s.size) : till (isB 32) u k = till (isB 32) s k :=
  till_eq _ rfl (till_ge _ s k) (fun i h1 h2 => by rw [h.lo _ (by omega)]; exact got_within _ rfl h1 h2) (by rw [h.lo _ hj]; exact got_till _ s k)
theorem till_cross {s t u : ByteArray} (h : Jn s t u) : ∀ (n : Nat) {k : Nat}, s.size - k = n → k ≤ s.size → till (isB 32) s k = s.size → till (isB 32) u k = till (isB 32) u (s.size + 1) := by
  intro n
  induction n with
  | zero =>
    intro k h1 hk h2
    obtain rfl : k = s.size := by omega
    exact till_step (by rw [h.mid]; decide)
  | succ n ih =>
    intro k h1 hk h2
    have hg : got (isB 32) s k = true := got_within _ rfl (Nat.le_refl _) (by rw [h2]; omega)
    rw [till_step (by rw [h.lo _ (by omega)]; exact hg)]
    rw [till_step hg] at h2
    exact ih (by omega) (by omega) h2

/-- A word of s is the same in u, or is a fault at the end of s. -/
theorem word_lo {s t u : ByteArray} (h : Jn s t u) {k : Nat} (hk : k ≤ s.size) (hj : till (isB 32) s k < s.size) : wordW u k = wordW s k ∨ ((wordW s k).er ≠ 0 ∧ (wordW s k).pl = (s.size : Int)) := by
  have hz := h.size
  rw [wordW, wordW, till_sp h hk hj, endW, endW, if_neg (by omega), if_neg (by omega)]
  exact one_lo h hj
/-- Words of s, and then those behind the space. -/
theorem lx_lo {s t u : ByteArray} (J : Jn s t u) {k : Nat} {A : List Tk} {a e : Int} (h : Lx s k A a e) (hk : k ≤ s.size) :
    (e = 0 → ∃ A', A = A' ++ [(6, ⟨#[]⟩, 0, (s.size : Int))] ∧ ∀ B b f, Lx u (s.size + 1) B b f → (f = 0 → Lx u k (A' ++ B) b f) ∧ (f ≠ 0 → Lx u k [] b f)) ∧ (e ≠ 0 → a = (s.size : Int) ∨ Lx u k [] a e) := by
  refine Lx.all (fun k A a e => k ≤ s.size → (e = 0 → ∃ A', A = A' ++ [(6, ⟨#[]⟩, 0, (s.size : Int))] ∧ ∀ B b f, Lx u (s.size + 1) B b f → (f = 0 → Lx u k (A' ++ B) b f) ∧ (f ≠ 0 → Lx u k [] b f)) ∧ (e ≠ 0 → a = (s.size : Int) ∨ Lx u k [] a e)) ?_ ?_ ?_ ?_ h hk
  · intro k h1 hk
    refine ⟨fun h => absurd h h1, fun _ => ?_⟩
    have hj : till (isB 32) s k < s.size := by
      have := till_le (p := isB 32) hk
      rcases Nat.lt_or_ge (till (isB 32) s k) s.size with h2 | h2
      · exact h2
      · exfalso
        apply h1
        rw [wordW, endW, if_pos (by omega)]; rfl
    rcases word_lo J hk hj with h2 | ⟨_, h2⟩
    · right
      rw [← h2] at h1 ⊢
      exact Lx.bad k h1
    · exact .inl h2
  · intro k h1 h2 hk
    refine ⟨fun _ => ?_, fun h => absurd rfl h⟩
    have hj : till (isB 32) s k = s.size := by
      rcases wordW_on hk h1 with h3 | h3
      · exact h3.2
      · exact absurd h2 h3.1
    refine ⟨[], by rw [wordW, hj, endW, if_pos rfl]; rfl, fun B b f hx => ?_⟩
    have hw : wordW u k = wordW u (s.size + 1) := by
      rw [wordW, wordW, till_cross J _ rfl hk hj]
    have hx' := hx.like hw
    exact ⟨fun _ => hx', fun hf => by rw [hx'.none hf] at hx'; exact hx'⟩
  · intro k l h1 h2 h3 ih hk
    refine ⟨fun _ => ?_, fun h => absurd rfl h⟩
    have hon := wordW_on hk h1
    have hj : till (isB 32) s k < s.size := by
      have := till_le (p := isB 32) hk
      rcases Nat.lt_or_ge (till (isB 32) s k) s.size with h4 | h4
      · exact h4
      · exact absurd (by rw [wordW, endW, if_pos (by omega)]; rfl) h2
    have hnx : (wordW s k).nx ≤ s.size := by
      rcases hon with h4 | h4
      · exact absurd h4.1 h2
      · exact h4.2.2
    have hw : wordW u k = wordW s k := by
      rcases word_lo J hk hj with h4 | h4
      · exact h4
      · exact absurd h1 h4.1
    obtain ⟨A', e1, e2⟩ := (ih hnx).1 rfl
    refine ⟨(wordW s k).tk :: A', by rw [e1]; rfl, fun B b f hx => ⟨fun hf => ?_, fun hf => ?_⟩⟩
    · have hx' := (e2 B b f hx).1 hf
      subst hf
      obtain rfl := hx'.zero rfl
      rw [← hw] at h1 h2 hx' ⊢
      exact Lx.more k _ h1 h2 hx'
    · have hx' := (e2 B b f hx).2 hf
      rw [← hw] at h1 h2 hx'
      exact Lx.far k b f h1 h2 hx' hf
  · intro k a e h1 h2 h3 h4 ih hk
    refine ⟨fun h => absurd h h4, fun _ => ?_⟩
    have hon := wordW_on hk h1
    have hj : till (isB 32) s k < s.size := by
      have := till_le (p := isB 32) hk
      rcases Nat.lt_or_ge (till (isB 32) s k) s.size with h5 | h5
      · exact h5
      · exact absurd (by rw [wordW, endW, if_pos (by omega)]; rfl) h2
    have hnx : (wordW s k).nx ≤ s.size := by
      rcases hon with h5 | h5
      · exact absurd h5.1 h2
      · exact h5.2.2
    have hw : wordW u k = wordW s k := by
      rcases word_lo J hk hj with h5 | h5
      · exact h5
      · exact absurd h1 h5.1
    rcases (ih hnx).2 h4 with h5 | h5
    · exact .inl h5
    · right
      rw [← hw] at h1 h2 h5
      exact Lx.far k a e h1 h2 h5 h4

end Go.Proofs.Ytlnijapabhlbeaa
