/- What Lex tells of given texts; the walk of begun. -/
import Derived.Test.YtjlmcnbmhgabpaaGreatLb
namespace Go.Proofs.YtjlmcnbmhgabpaaGreat
open Go.RowKit
set_option linter.unusedVariables false

/-- What is told, reckoned. -/
def lxF : Nat → ByteArray → Nat → List Tk × Int × Int
  | 0, _, _ => ([], 0, 99)
  | n + 1, s, k =>
    if (wordW s k).er ≠ 0 then ([], (wordW s k).pl, (wordW s k).er)
    else if (wordW s k).tk.1 = 6 then ([(wordW s k).tk], 0, 0)
    else if (lxF n s (wordW s k).nx).2.2 = 0 then ((wordW s k).tk :: (lxF n s (wordW s k).nx).1, 0, 0)
    else ([], (lxF n s (wordW s k).nx).2.1, (lxF n s (wordW s k).nx).2.2)
theorem lxF_ok {s : ByteArray} : ∀ (n k : Nat) (l : List Tk) (a e : Int), lxF n s k = (l, a, e) → e ≠ 99 → Lx s k l a e := by
  intro n
  induction n with
  | zero => intro k l a e h he; rw [lxF] at h; cases h; exact absurd rfl he
  | succ n ih =>
    intro k l a e h he
    rw [lxF] at h
    split at h
    · rename_i h1
      cases h
      exact Lx.bad k h1
    · rename_i h1
      have h1' : (wordW s k).er = 0 := Decidable.not_not.1 h1
      split at h
      · rename_i h2
        cases h
        exact Lx.fin k h1' h2
      · rename_i h2
        generalize hr : lxF n s (wordW s k).nx = r at h
        obtain ⟨l', a', e'⟩ := r
        split at h
        · rename_i h3
          have h3' : e' = 0 := h3
          subst h3'
          cases h
          have := ih _ _ _ _ hr (by omega)
          obtain rfl := this.zero rfl
          exact Lx.more k l' h1' h2 this
        · rename_i h3
          have h3' : e' ≠ 0 := h3
          cases h
          have := ih _ _ _ _ hr he
          obtain rfl := this.none h3'
          exact Lx.far k _ _ h1' h2 this h3'
theorem lexR_of {s : ByteArray} {l : List Tk} {a e : Int} (n : Nat) (hs : s.size ≤ 400) (h : lxF n s 0 = (l, a, e)) (he : e ≠ 99) : LexR s l a e := .inr ⟨hs, lxF_ok n 0 l a e h he⟩
theorem lex_a1 : LexR ⟨#[97, 60, 61, 49]⟩ [(1, ⟨#[97]⟩, 0, 0), (5, ⟨#[60, 61]⟩, 0, 1), (3, ⟨#[]⟩, 1, 3), (6, ⟨#[]⟩, 0, 4)] 0 0 := lexR_of 5 (by decide) (by decide +kernel) (by decide)
theorem lex_1a : LexR ⟨#[49, 97]⟩ [] 1 4 := lexR_of 5 (by decide) (by decide +kernel) (by decide)

end Go.Proofs.YtjlmcnbmhgabpaaGreat
