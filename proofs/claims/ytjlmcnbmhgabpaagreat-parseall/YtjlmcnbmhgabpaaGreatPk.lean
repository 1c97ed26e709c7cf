/- Nothing that is read makes more words; expressions, however deep. -/
import Derived.Test.YtjlmcnbmhgabpaaGreatPj
namespace Go.Proofs.YtjlmcnbmhgabpaaGreat
open Go.RowKit
set_option linter.unusedVariables false

theorem thenR_inr {α β : Type} {x : Re α} {f : α → List Tk → Re β} {t : β} {r : List Tk} (h : thenR x f = .inr (t, r)) : ∃ u q, x = .inr (u, q) ∧ f u q = .inr (t, r) := by
  cases x with
  | inl e => cases h
  | inr y => exact ⟨y.1, y.2, rfl, h⟩
theorem shr_kind (k : Int) : Shr (kindP k) := by
  intro ts t r h
  cases ts with
  | nil => cases h
  | cons x l =>
    rw [kindP] at h
    split at h
    · cases h; simp
    · cases h
theorem shr_name : Shr nameP := by
  intro ts t r h
  obtain ⟨u, q, h1, h2⟩ := thenR_inr h
  cases h2
  exact shr_kind 1 _ _ _ h1
theorem shr_column : Shr columnP := by
  intro ts t r h
  obtain ⟨u, q, h1, h2⟩ := thenR_inr h
  have e1 := shr_name ts u q h1
  split at h2
  · obtain ⟨u2, q2, h3, h4⟩ := thenR_inr h2
    cases h4
    have e2 := shr_name _ _ _ h3
    rw [List.length_tail] at e2
    omega
  · cases h2; exact e1
theorem shr_leaf : Shr leafP := by
  intro ts t r h
  rw [leafP] at h
  split at h
  · obtain ⟨u, q, h1, h2⟩ := thenR_inr h
    cases h2
    exact shr_kind 3 _ _ _ h1
  · split at h
    · obtain ⟨u, q, h1, h2⟩ := thenR_inr h
      cases h2
      exact shr_kind 4 _ _ _ h1
    · exact shr_column ts t r h
theorem shr_chainL {P : List Tk → Re Tr} (hP : Shr P) (l : List (ByteArray × Int)) : ∀ (k : Nat) (x : Tr), Shr (chainL P l k x) := by
  intro k
  induction k with
  | zero => intro x ts t r h; cases h; exact Nat.le_refl _
  | succ k ih =>
    intro x ts t r h
    rw [chainL] at h
    split at h
    · cases h; exact Nat.le_refl _
    · obtain ⟨u, q, h1, h2⟩ := thenR_inr h
      have e1 := hP _ u q h1
      have e2 := ih _ q t r h2
      rw [List.length_tail] at e1
      omega
theorem shr_chain {P : List Tk → Re Tr} (hP : Shr P) (l : List (ByteArray × Int)) : Shr (chainP P l) := by
  intro ts t r h
  obtain ⟨u, q, h1, h2⟩ := thenR_inr h
  exact Nat.le_trans (shr_chainL hP l _ u q t r h2) (hP ts u q h1)
theorem shr_comp {U : List Tk → Re Tr} (hU : Shr U) : Shr (compP U) := by
  intro ts t r h
  have hS : Shr (sumP U) := shr_chain (shr_chain hU _) _
  obtain ⟨u, q, h1, h2⟩ := thenR_inr h
  have e1 := hS ts u q h1
  split at h2
  · cases h2; exact e1
  · obtain ⟨u2, q2, h3, h4⟩ := thenR_inr h2
    cases h4
    have e2 := hS _ _ _ h3
    rw [List.length_tail] at e2
    omega
def ShrO (P : Option (List Tk → Re Tr)) : Prop := ∀ p, P = some p → Shr p
theorem shr_in {P : Option (List Tk → Re Tr)} (hP : ShrO P) : Shr (inP P) := by
  intro ts t r h
  cases P with
  | none => cases h
  | some p =>
    have := hP p rfl ts.tail t r h
    rw [List.length_tail] at this
    omega
theorem shr_unary {U E : Option (List Tk → Re Tr)} (hU : ShrO U) (hE : ShrO E) : Shr (unaryOf U E) := by
  intro ts t r h
  rw [unaryOf] at h
  split at h
  · obtain ⟨u, q, h1, h2⟩ := thenR_inr h
    cases h2
    exact shr_in hU _ _ _ h1
  · split at h
    · obtain ⟨u, q, h1, h2⟩ := thenR_inr h
      have := shr_in hE ts u q h1
      split at h2
      · cases h2; rw [List.length_tail]; omega
      · cases h2
    · exact shr_leaf ts t r h
theorem shr_not {N : Option (List Tk → Re Tr)} {U : List Tk → Re Tr} (hN : ShrO N) (hU : Shr U) : Shr (notOf N U) := by
  intro ts t r h
  rw [notOf] at h
  split at h
  · obtain ⟨u, q, h1, h2⟩ := thenR_inr h
    cases h2
    exact shr_in hN _ _ _ h1
  · exact shr_comp hU ts t r h
theorem shr_un (n : Nat) : Shr (unaryP n) ∧ Shr (notP n) := by
  induction n with
  | zero =>
    have h1 : Shr (unaryP 0) := by rw [unaryP_eq]; exact shr_unary (fun p e => by cases e) (fun p e => by cases e)
    exact ⟨h1, by rw [notP_eq]; exact shr_not (fun p e => by cases e) h1⟩
  | succ n ih =>
    have hE : Shr (exprP n) := shr_chain (shr_chain ih.2 _) _
    have h1 : Shr (unaryP (n + 1)) := by rw [unaryP_eq]; exact shr_unary (fun p e => by cases e; exact ih.1) (fun p e => by cases e; exact hE)
    exact ⟨h1, by rw [notP_eq]; exact shr_not (fun p e => by cases e; exact ih.2) h1⟩
theorem shr_expr (n : Nat) : Shr (exprP n) := shr_chain (shr_chain (shr_un n).2 _) _

theorem deep_below {d n : Nat} (h : d + n = 64) (f : Nat → List Tk → Re Tr) : below f n = deepP d (f (n - 1)) := by
  cases n with
  | zero => rw [deepP, if_pos (by omega)]; rfl
  | succ n => rw [deepP, if_neg (by omega)]; rfl

theorem reads_expr {g d n : Nat} (h : Reads 130 g d (notP n)) : Reads 86 g d (exprP n) := fun S w hr =>
  pExpr_any (fun S w hr => pAnd_any h (shr_un n).2 hr) (shr_chain (shr_un n).2 _) hr
theorem reads_comp {g d : Nat} {U : List Tk → Re Tr} (h : Reads 152 g d U) (hS : Shr U) : Reads 139 g d (compP U) := fun S w hr =>
  pComp_any (fun S w hr => pSum_any (fun S w hr => pTerm_any h hS hr) (shr_chain hS _) hr) hr
theorem reads_un (g : Nat) : ∀ (n d : Nat), d + n = 64 → Reads 152 g d (unaryP n) ∧ Reads 130 g d (notP n) := by
  intro n
  induction n with
  | zero =>
    intro d hd
    have h1 : Reads 152 g d (unaryP 0) := by
      rw [unaryP_eq, deep_below hd, deep_below hd]
      exact pUnary_any (by omega) (fun k => absurd k (by omega)) (fun k => absurd k (by omega))
    refine ⟨h1, ?_⟩
    rw [notP_eq, deep_below hd]
    exact pNot_any (by omega) (fun k => absurd k (by omega)) (reads_comp h1 (shr_un 0).1)
  | succ n ih =>
    intro d hd
    have hi := ih (d + 1) (by omega)
    have h1 : Reads 152 g d (unaryP (n + 1)) := by
      rw [unaryP_eq, deep_below hd, deep_below hd]
      exact pUnary_any (by omega) (fun _ => hi.1) (fun _ => reads_expr hi.2)
    refine ⟨h1, ?_⟩
    rw [notP_eq, deep_below hd]
    exact pNot_any (by omega) (fun _ => hi.2) (reads_comp h1 (shr_un (n + 1)).1)
/-- expr, from the top. -/
theorem expr_any {g : Nat} {S : Sa} {w : World} (h : Rp w g S 0) : Calls Tryz.prog 86 #[.pointer (some ⟨g, 0, none⟩)] w (TeE g 0 w (runP (exprP 64) S)) :=
  reads_expr (reads_un g 64 0 rfl).2 S w h

end Go.Proofs.YtjlmcnbmhgabpaaGreat
