import Derived.Test.YtmfoenhbldacfaaQbd
/- What a round of the library's sort comes to, in plain words: of no program. -/
namespace Go.Proofs.Ytmfoenhbldacfaa
open Go.RowKit
open Go.Sort (swp PermIn SortedIn ltInt)
set_option linter.unusedVariables false

/-- What is not both in the part that is left stands right. -/
def OutS (a b a1 b1 : Nat) (d : Array Int) : Prop := ∀ i j, a ≤ i → i < j → j < b → ¬ (a1 ≤ i ∧ j < b1) → d[i]! ≤ d[j]!
/-- Nothing in the part is less than what stands right ahead of it. -/
def BelowI (a b : Nat) (d : Array Int) : Prop := ∀ i, a ≤ i → i < b → 0 < a → d[a - 1]! ≤ d[i]!

theorem sorted_iff {a b : Nat} {d : Array Int} : SortedIn ltInt a b d ↔ ∀ i j, a ≤ i → i < j → j < b → d[i]! ≤ d[j]! := by
  constructor
  · intro h i j h1 h2 h3
    have := h i j h1 h2 h3
    simp only [ltInt, decide_eq_false_iff_not] at this
    omega
  · intro h i j h1 h2 h3
    have := h i j h1 h2 h3
    simp only [ltInt, decide_eq_false_iff_not]
    omega

theorem permWiden {a b a1 b1 : Nat} {d d' : Array Int} (h : PermIn a1 b1 d d') (h1 : a ≤ a1) (h2 : b1 ≤ b) (hb : b ≤ d.size) : PermIn a b d d' :=
  Sort.permIn_mono _ _ _ _ _ _ h1 h2 hb h

theorem OutS.start (a b : Nat) (d : Array Int) : OutS a b a b d := fun i j h1 h2 h3 h4 => absurd ⟨h1, h3⟩ h4

theorem OutS.perm {a b a1 b1 : Nat} {d d' : Array Int} (h : OutS a b a1 b1 d) (ha : a ≤ a1) (hab : a1 ≤ b1) (hb : b1 ≤ b) (hs : b ≤ d.size) (hp : PermIn a1 b1 d d') : OutS a b a1 b1 d' := by
  intro i j h1 h2 h3 h4
  by_cases hi : i < a1 ∨ b1 ≤ i
  · rw [hp.2.1 i hi]
    by_cases hj : j < a1 ∨ b1 ≤ j
    · rw [hp.2.1 j hj]; exact h i j h1 h2 h3 h4
    · exact Sort.permIn_all d d' a1 b1 (fun x => d[i]! ≤ x) (by omega) hp (fun k hk1 hk2 => h i k h1 (by omega) (by omega) (by omega)) j (by omega) (by omega)
  · have hj : j < a1 ∨ b1 ≤ j := by omega
    rw [hp.2.1 j hj]
    exact Sort.permIn_all d d' a1 b1 (fun x => x ≤ d[j]!) (by omega) hp (fun k hk1 hk2 => h k j (by omega) (by omega) h3 (by omega)) i (by omega) (by omega)

theorem OutS.done {a b a1 b1 : Nat} {d d' : Array Int} (h : OutS a b a1 b1 d) (ha : a ≤ a1) (hab : a1 ≤ b1) (hb : b1 ≤ b) (hs : b ≤ d.size) (hp : PermIn a1 b1 d d') (hso : SortedIn ltInt a1 b1 d') : SortedIn ltInt a b d' := by
  rw [sorted_iff] at hso ⊢
  intro i j h1 h2 h3
  by_cases h4 : a1 ≤ i ∧ j < b1
  · exact hso i j h4.1 h2 h4.2
  · exact h.perm ha hab hb hs hp i j h1 h2 h3 h4

theorem OutS.below {a b a1 b1 : Nat} {d0 d : Array Int} (h : OutS a b a1 b1 d) (h0 : BelowI a b d0) (hp : PermIn a b d0 d) (hs : b ≤ d0.size) (ha : a ≤ a1) (hb : b1 ≤ b) : BelowI a1 b1 d := by
  intro i h1 h2 h3
  by_cases e : a1 = a
  · subst e
    rw [hp.2.1 (a1 - 1) (.inl (by omega))]
    exact Sort.permIn_all d0 d a1 b (fun x => d0[a1 - 1]! ≤ x) hs hp (fun k hk1 hk2 => h0 k hk1 hk2 h3) i h1 (by omega)
  · exact h (a1 - 1) i (by omega) (by omega) (by omega) (by omega)

theorem PS.permAll {L R : Int → Prop} {a b i q p : Nat} {d d2 : Array Int} (h : PS L R a b i q (swp d a p) d2) (hap : a ≤ p) (hpb : p < b) : PermIn a b d d2 := by
  have hs := h.fits
  rw [swp_size] at hs
  exact Sort.permIn_trans _ _ _ _ _ (Sort.swp_permIn d a b a p (Nat.le_refl _) (by omega) hap hpb hs) (permWiden h.perm (by omega) (Nat.le_refl _) (by rw [swp_size]; exact hs))

theorem swp_head {d : Array Int} {a p : Nat} (ha : a < d.size) : (swp d a p)[a]! = d[p]! := by
  by_cases e : a = p
  · subst e; rw [Sort.swp_right _ _ _ (by omega)]
  · rw [Sort.swp_left _ _ _ ha e]

/-- A round that parts off what is as great as what stands ahead. -/
theorem OutS.equal {a b a1 b1 p i : Nat} {d d' : Array Int} (h : OutS a b a1 b1 d) (ha : a ≤ a1) (hb : b1 ≤ b) (hs : b ≤ d.size) (hap : a1 ≤ p) (hpb : p < b1) (hbe : BelowI a1 b1 d) (ha0 : 0 < a1) (hv : d[p]! ≤ d[a1 - 1]!) (hi : a1 < i) (hib : i ≤ b1)
    (hP : PS (fun x => x ≤ d[p]!) (fun x => d[p]! < x) a1 b1 i (i - 1) (swp d a1 p) d') : OutS a b i b1 d' := by
  have hp := hP.permAll hap hpb
  have hall : ∀ k, a1 ≤ k → k < b1 → d[p]! ≤ d'[k]! :=
    Sort.permIn_all d d' a1 b1 (fun x => d[p]! ≤ x) (by omega) hp (fun k hk1 hk2 => Int.le_trans hv (hbe k hk1 hk2 ha0))
  intro x y h1 h2 h3 h4
  by_cases h5 : a1 ≤ x ∧ y < b1
  · have hy := hall y (by omega) h5.2
    have hx : d'[x]! ≤ d[p]! := by
      by_cases e : x = a1
      · subst e; rw [hP.head, swp_head (by omega)]; exact Int.le_refl _
      · exact hP.left x (by omega) (by omega)
    omega
  · exact h.perm ha (by omega) hb hs hp x y h1 h2 h3 h5

/-- What a partition comes to. -/
theorem PS.parted {a b q p : Nat} {d d2 : Array Int} (hP : PS (fun x => x < d[p]!) (fun x => d[p]! ≤ x) a b (q + 1) q (swp d a p) d2) (hap : a ≤ p) (hpb : p < b) (haq : a ≤ q) (hqb : q < b) :
    PermIn a b d (swp d2 q a) ∧ (∀ x, a ≤ x → x < q → (swp d2 q a)[x]! < (swp d2 q a)[q]!) ∧ (∀ x, q < x → x < b → (swp d2 q a)[q]! ≤ (swp d2 q a)[x]!) := by
  have hs := hP.fits
  rw [swp_size] at hs
  have hz : d2.size = d.size := by rw [hP.size, swp_size]
  have hv : d2[a]! = d[p]! := by rw [hP.head, swp_head (by omega)]
  have hq : (swp d2 q a)[q]! = d[p]! := by rw [swp_head (by omega), hv]
  refine ⟨Sort.permIn_trans _ _ _ _ _ (hP.permAll hap hpb) (Sort.swp_permIn _ _ _ _ _ haq hqb (Nat.le_refl _) (by omega) (by omega)), fun x h1 h2 => ?_, fun x h1 h2 => ?_⟩
  · rw [hq]
    by_cases e : x = a
    · subst e; rw [Sort.swp_right _ _ _ (by omega)]; exact hP.left q (by omega) (by omega)
    · rw [Sort.swp_other _ _ _ _ (by omega) e]; exact hP.left x (by omega) (by omega)
  · rw [hq, Sort.swp_other _ _ _ _ (by omega) (by omega)]; exact hP.right x h1 h2

theorem OutS.leftDone {a b a1 b1 q : Nat} {d d1 d2 : Array Int} (h : OutS a b a1 b1 d) (ha : a ≤ a1) (hb : b1 ≤ b) (hs : b ≤ d.size) (haq : a1 ≤ q) (hqb : q < b1) (hp : PermIn a1 b1 d d1)
    (hl : ∀ x, a1 ≤ x → x < q → d1[x]! < d1[q]!) (hr : ∀ x, q < x → x < b1 → d1[q]! ≤ d1[x]!) (hp2 : PermIn a1 q d1 d2) (hso : SortedIn ltInt a1 q d2) : OutS a b (q + 1) b1 d2 := by
  have hs1 : d1.size = d.size := hp.1
  have hpp : PermIn a1 b1 d d2 := Sort.permIn_trans _ _ _ _ _ hp (permWiden hp2 (Nat.le_refl _) (by omega) (by omega))
  have hq : d2[q]! = d1[q]! := hp2.2.1 q (.inr (Nat.le_refl _))
  have hall : ∀ k, a1 ≤ k → k < q → d2[k]! < d1[q]! := Sort.permIn_all d1 d2 a1 q (fun x => x < d1[q]!) (by omega) hp2 hl
  rw [sorted_iff] at hso
  intro i j h1 h2 h3 h4
  by_cases h5 : a1 ≤ i ∧ j < b1
  · by_cases hjq : j < q
    · exact hso i j h5.1 h2 hjq
    · have hj : d1[q]! ≤ d2[j]! := by
        rw [hp2.2.1 j (.inr (by omega))]
        by_cases e : j = q
        · subst e; exact Int.le_refl _
        · exact hr j (by omega) h5.2
      by_cases e : i = q
      · subst e; rw [hq]; exact hj
      · have := hall i h5.1 (by omega); omega
  · exact h.perm ha (by omega) hb hs hpp i j h1 h2 h3 h5

theorem OutS.rightDone {a b a1 b1 q : Nat} {d d1 d2 : Array Int} (h : OutS a b a1 b1 d) (ha : a ≤ a1) (hb : b1 ≤ b) (hs : b ≤ d.size) (haq : a1 ≤ q) (hqb : q < b1) (hp : PermIn a1 b1 d d1)
    (hl : ∀ x, a1 ≤ x → x < q → d1[x]! < d1[q]!) (hr : ∀ x, q < x → x < b1 → d1[q]! ≤ d1[x]!) (hp2 : PermIn (q + 1) b1 d1 d2) (hso : SortedIn ltInt (q + 1) b1 d2) : OutS a b a1 q d2 := by
  have hs1 : d1.size = d.size := hp.1
  have hpp : PermIn a1 b1 d d2 := Sort.permIn_trans _ _ _ _ _ hp (permWiden hp2 (by omega) (Nat.le_refl _) (by omega))
  have hq : d2[q]! = d1[q]! := hp2.2.1 q (.inl (by omega))
  have hall : ∀ k, q + 1 ≤ k → k < b1 → d1[q]! ≤ d2[k]! := Sort.permIn_all d1 d2 (q + 1) b1 (fun x => d1[q]! ≤ x) (by omega) hp2 (fun k hk1 hk2 => hr k (by omega) hk2)
  rw [sorted_iff] at hso
  intro i j h1 h2 h3 h4
  by_cases h5 : a1 ≤ i ∧ j < b1
  · by_cases hiq : q < i
    · exact hso i j (by omega) h2 h5.2
    · have hi : d2[i]! ≤ d1[q]! := by
        by_cases e : i = q
        · subst e; rw [hq]; exact Int.le_refl _
        · rw [hp2.2.1 i (.inl (by omega))]; have := hl i h5.1 (by omega); omega
      by_cases e : j = q
      · subst e; rw [hq]; exact hi
      · have := hall j (by omega) h5.2; omega
  · exact h.perm ha (by omega) hb hs hpp i j h1 h2 h3 h5

end Go.Proofs.Ytmfoenhbldacfaa
