import Derived.Test.YtmfoenhbldacfaaQai
/- Maps by numbers and lists of gaps, plainly. -/
namespace Go.Proofs.Ytmfoenhbldacfaa
open Go.RowKit
set_option linter.unusedVariables false

/-! ### Maps by numbers -/
section
variable {α : Type}
/-- What a map has at a number. -/
def lk : List (Int × α) → Int → Option α
  | [], _ => none
  | p :: l, k => if p.1 = k then some p.2 else lk l k
def up : List (Int × α) → Int → α → List (Int × α)
  | [], k, v => [(k, v)]
  | p :: l, k, v => if p.1 = k then (k, v) :: l else p :: up l k v
def dl : List (Int × α) → Int → List (Int × α)
  | [], _ => []
  | p :: l, k => if p.1 = k then l else p :: dl l k
def ks (L : List (Int × α)) : List Int := L.map (·.1)
theorem lk_mem : ∀ {L : List (Int × α)} {k : Int} {v : α}, lk L k = some v → (k, v) ∈ L
  | [], _, _, h => by cases h
  | p :: l, k, v, h => by
    rw [lk] at h
    by_cases e : p.1 = k
    · rw [if_pos e] at h; cases h; subst e; simp
    · rw [if_neg e] at h; exact List.mem_cons_of_mem _ (lk_mem h)
theorem lk_none : ∀ {L : List (Int × α)} {k : Int}, lk L k = none ↔ k ∉ ks L
  | [], _ => by simp [lk, ks]
  | p :: l, k => by
    rw [lk]
    by_cases e : p.1 = k
    · rw [if_pos e]; simp [ks, e]
    · rw [if_neg e, lk_none]; simp [ks]; omega
theorem lk_key {L : List (Int × α)} {k : Int} : k ∈ ks L ↔ ∃ v, lk L k = some v := by
  have := lk_none (L := L) (k := k)
  cases h : lk L k with
  | none => simp [this.1 h]
  | some v => exact ⟨fun _ => ⟨v, rfl⟩, fun _ => Classical.byContradiction fun hn => by rw [this.2 hn] at h; cases h⟩
theorem mem_key {L : List (Int × α)} {k : Int} {v : α} (h : (k, v) ∈ L) : k ∈ ks L := List.mem_map.2 ⟨_, h, rfl⟩
theorem mem_lk : ∀ {L : List (Int × α)} {k : Int} {v : α}, (ks L).Nodup → (k, v) ∈ L → lk L k = some v
  | [], _, _, _, h => by cases h
  | p :: l, k, v, hn, h => by
    rw [ks, List.map_cons, List.nodup_cons] at hn
    rcases List.mem_cons.1 h with rfl | h
    · rw [lk, if_pos rfl]
    · rw [lk, if_neg (fun e => hn.1 (by rw [e]; exact mem_key h))]; exact mem_lk hn.2 h
theorem lk_up : ∀ (L : List (Int × α)) (k : Int) (v : α) (j : Int), lk (up L k v) j = if j = k then some v else lk L j
  | [], k, v, j => by
    rw [up, lk, lk]
    by_cases e : j = k
    · rw [if_pos e.symm, if_pos e]
    · rw [if_neg (Ne.symm e), if_neg e]; rfl
  | p :: l, k, v, j => by
    rw [up]
    by_cases e : p.1 = k
    · rw [if_pos e, lk, lk, e]
      by_cases e' : k = j
      · simp [e']
      · rw [if_neg e', if_neg e', if_neg (Ne.symm e')]
    · rw [if_neg e, lk, lk, lk_up l]
      by_cases e' : p.1 = j
      · rw [if_pos e', if_pos e', if_neg (by omega)]
      · rw [if_neg e', if_neg e']
theorem ks_up : ∀ (L : List (Int × α)) (k : Int) (v : α), ks (up L k v) = if k ∈ ks L then ks L else ks L ++ [k]
  | [], k, v => by simp [up, ks]
  | p :: l, k, v => by
    rw [up]
    by_cases e : p.1 = k
    · rw [if_pos e]; simp [ks, e]
    · rw [if_neg e]
      have := ks_up l k v
      have e1 : ks (p :: up l k v) = p.1 :: ks (up l k v) := rfl
      have e2 : ks (p :: l) = p.1 :: ks l := rfl
      rw [e1, e2, this]
      by_cases e' : k ∈ ks l
      · rw [if_pos e', if_pos (List.mem_cons_of_mem _ e')]
      · rw [if_neg e', if_neg (by simp [e', Ne.symm e])]; rfl
theorem nodup_snoc {l : List Int} {k : Int} (h : l.Nodup) (hk : k ∉ l) : (l ++ [k]).Nodup := by
  rw [List.nodup_append]
  exact ⟨h, by simp, fun a ha b hb => by rw [List.mem_singleton] at hb; subst hb; exact fun e => hk (e ▸ ha)⟩
theorem up_nodup {L : List (Int × α)} (h : (ks L).Nodup) (k : Int) (v : α) : (ks (up L k v)).Nodup := by
  rw [ks_up]
  by_cases e : k ∈ ks L
  · rw [if_pos e]; exact h
  · rw [if_neg e]; exact nodup_snoc h e
theorem ks_len (L : List (Int × α)) : (ks L).length = L.length := by simp [ks]
theorem len_up (L : List (Int × α)) (k : Int) (v : α) : (up L k v).length = if k ∈ ks L then L.length else L.length + 1 := by
  rw [← ks_len, ks_up]
  by_cases e : k ∈ ks L
  · rw [if_pos e, if_pos e, ks_len]
  · rw [if_neg e, if_neg e, List.length_append, ks_len]; rfl
theorem mem_up {L : List (Int × α)} {k : Int} {v : α} (h : (ks L).Nodup) {x : Int × α} : x ∈ up L k v ↔ x = (k, v) ∨ (x ∈ L ∧ x.1 ≠ k) := by
  obtain ⟨j, u⟩ := x
  constructor
  · intro hx
    have := mem_lk (up_nodup h k v) hx
    rw [lk_up] at this
    by_cases e : j = k
    · rw [if_pos e] at this; cases this; exact .inl (by rw [e])
    · rw [if_neg e] at this; exact .inr ⟨lk_mem this, e⟩
  · intro hx
    apply lk_mem
    rw [lk_up]
    rcases hx with hx | ⟨hx, e⟩
    · cases hx; rw [if_pos rfl]
    · rw [if_neg e]; exact mem_lk h hx
theorem lk_dl : ∀ {L : List (Int × α)} (k : Int), (ks L).Nodup → ∀ (j : Int), lk (dl L k) j = if j = k then none else lk L j
  | [], k, _, j => by simp [dl, lk]
  | p :: l, k, h, j => by
    rw [ks, List.map_cons, List.nodup_cons] at h
    rw [dl]
    by_cases e : p.1 = k
    · rw [if_pos e, lk]
      by_cases e' : j = k
      · rw [if_pos e', lk_none, e', ← e]; exact h.1
      · rw [if_neg e', if_neg (by omega)]
    · rw [if_neg e, lk, lk, lk_dl k h.2 j]
      by_cases e' : p.1 = j
      · rw [if_pos e', if_pos e', if_neg (by omega)]
      · rw [if_neg e', if_neg e']
theorem dl_sub : ∀ {L : List (Int × α)} {k : Int}, (dl L k).Sublist L
  | [], k => .slnil
  | p :: l, k => by
    rw [dl]
    by_cases e : p.1 = k
    · rw [if_pos e]; exact List.sublist_cons_self _ _
    · rw [if_neg e]; exact dl_sub.cons_cons _
theorem dl_nodup {L : List (Int × α)} (h : (ks L).Nodup) (k : Int) : (ks (dl L k)).Nodup := h.sublist (dl_sub.map _)
theorem mem_dl {L : List (Int × α)} {k : Int} (h : (ks L).Nodup) {x : Int × α} : x ∈ dl L k ↔ x ∈ L ∧ x.1 ≠ k := by
  obtain ⟨j, u⟩ := x
  constructor
  · intro hx
    have := mem_lk (dl_nodup h k) hx
    rw [lk_dl k h] at this
    by_cases e : j = k
    · rw [if_pos e] at this; cases this
    · rw [if_neg e] at this; exact ⟨lk_mem this, e⟩
  · rintro ⟨hx, e⟩
    apply lk_mem
    rw [lk_dl k h, if_neg e]; exact mem_lk h hx
theorem len_dl : ∀ {L : List (Int × α)} {k : Int}, k ∈ ks L → (dl L k).length + 1 = L.length
  | [], k, h => by cases h
  | p :: l, k, h => by
    rw [dl]
    by_cases e : p.1 = k
    · rw [if_pos e]; rfl
    · rw [if_neg e, List.length_cons, List.length_cons, len_dl (by simpa [ks, Ne.symm e] using h)]
theorem dl_out : ∀ {L : List (Int × α)} {k : Int}, k ∉ ks L → dl L k = L
  | [], k, h => rfl
  | p :: l, k, h => by
    rw [dl, if_neg (fun e => h (by simp [ks, e])), dl_out (fun e => h (by simp [ks] at e ⊢; exact .inr e))]
end
theorem nodup_le : ∀ {a b : List Int}, a.Nodup → (∀ x ∈ a, x ∈ b) → a.length ≤ b.length
  | [], _, _, _ => Nat.zero_le _
  | x :: a, b, hn, h => by
    rw [List.nodup_cons] at hn
    have hx := h x (by simp)
    have := nodup_le (a := a) (b := b.erase x) hn.2 (fun y hy => (List.mem_erase_of_ne (fun e => hn.1 (by rw [← e]; exact hy))).2 (h y (by simp [hy])))
    rw [List.length_erase_of_mem hx] at this
    have := List.length_pos_of_mem hx
    simp
    omega
theorem nodup_eq {a b : List Int} (ha : a.Nodup) (hb : b.Nodup) (h : ∀ x, x ∈ a ↔ x ∈ b) : a.length = b.length :=
  Nat.le_antisymm (nodup_le ha fun x hx => (h x).1 hx) (nodup_le hb fun x hx => (h x).2 hx)

/-! ### Gaps -/
def glt (a b : Int × Int) : Prop := a.1 < b.1 ∨ (a.1 = b.1 ∧ a.2 < b.2)
def cmpG (a b : Int × Int) : Int := if cmpI a.1 b.1 ≠ 0 then cmpI a.1 b.1 else cmpI a.2 b.2
theorem cmpG_neg {a b : Int × Int} : cmpG a b < 0 ↔ glt a b := by
  unfold cmpG cmpI glt
  repeat' split
  all_goals omega
theorem cmpG_zero {a b : Int × Int} : cmpG a b = 0 ↔ a = b := by
  obtain ⟨a1, a2⟩ := a
  obtain ⟨b1, b2⟩ := b
  simp only [Prod.mk.injEq]
  unfold cmpG cmpI
  simp only
  repeat' split
  all_goals omega
theorem cmpG_range (a b : Int × Int) : -1 ≤ cmpG a b ∧ cmpG a b ≤ 1 := by
  unfold cmpG cmpI
  repeat' split
  all_goals omega
theorem glt_trans {a b c : Int × Int} (h : glt a b) (k : glt b c) : glt a c := by unfold glt at *; omega
theorem glt_irrefl (a : Int × Int) : ¬ glt a a := by unfold glt; omega
theorem glt_total (a b : Int × Int) : glt a b ∨ a = b ∨ glt b a := by
  obtain ⟨a1, a2⟩ := a
  obtain ⟨b1, b2⟩ := b
  simp only [Prod.mk.injEq]
  unfold glt
  simp only
  omega
instance (a b : Int × Int) : Decidable (glt a b) := by unfold glt; infer_instance
/-- How many stand ahead of it. -/
def lb : List (Int × Int) → Int × Int → Nat
  | [], _ => 0
  | x :: l, g => if glt x g then lb l g + 1 else 0
theorem lb_le : ∀ (F : List (Int × Int)) (g : Int × Int), lb F g ≤ F.length
  | [], _ => Nat.le_refl _
  | x :: l, g => by
    rw [lb]
    split
    · have := lb_le l g; simp; omega
    · exact Nat.zero_le _
theorem lb_lt : ∀ {F : List (Int × Int)} {g : Int × Int} {i : Nat} (h : i < F.length), i < lb F g → glt F[i] g
  | [], _, _, h, _ => absurd h (by simp)
  | x :: l, g, i, h, k => by
    rw [lb] at k
    by_cases e : glt x g
    · rw [if_pos e] at k
      cases i with
      | zero => exact e
      | succ i => exact lb_lt (F := l) (by simpa using h) (by omega)
    · rw [if_neg e] at k; omega
theorem lb_ge : ∀ {F : List (Int × Int)} {g : Int × Int} {i : Nat} (h : i < F.length), F.Pairwise glt → lb F g ≤ i → ¬ glt F[i] g
  | [], _, _, h, _, _ => absurd h (by simp)
  | x :: l, g, i, h, hs, k => by
    rw [List.pairwise_cons] at hs
    rw [lb] at k
    by_cases e : glt x g
    · rw [if_pos e] at k
      cases i with
      | zero => omega
      | succ i => exact lb_ge (F := l) (by simpa using h) hs.2 (by omega)
    · cases i with
      | zero => exact e
      | succ i =>
        intro h2
        exact e (glt_trans (hs.1 _ (List.getElem_mem (by simpa using h))) h2)
theorem lb_eq {F : List (Int × Int)} {g : Int × Int} (hs : F.Pairwise glt) {i : Nat} (hi : i ≤ F.length) (h1 : ∀ j (h : j < F.length), j < i → glt F[j] g) (h2 : ∀ j (h : j < F.length), i ≤ j → ¬ glt F[j] g) : i = lb F g := by
  have hle := lb_le F g
  rcases Nat.lt_trichotomy i (lb F g) with h | h | h
  · exact absurd (lb_lt (by omega) h) (h2 i (by omega) (Nat.le_refl _))
  · exact h
  · exact absurd (h1 (lb F g) (by omega) h) (lb_ge (by omega) hs (Nat.le_refl _))
/-- Does it stand there? -/
def inG (F : List (Int × Int)) (g : Int × Int) : Prop := F[lb F g]? = some g
instance (F : List (Int × Int)) (g : Int × Int) : Decidable (inG F g) := by unfold inG; infer_instance
theorem inG_mem {F : List (Int × Int)} {g : Int × Int} (hs : F.Pairwise glt) : inG F g ↔ g ∈ F := by
  constructor
  · exact fun h => List.mem_of_getElem? h
  · intro h
    obtain ⟨i, hi, e⟩ := List.mem_iff_getElem.1 h
    have : i = lb F g := lb_eq hs (by omega) (fun j hj k => by rw [← e]; exact (List.pairwise_iff_getElem.1 hs) j i hj hi k) (fun j hj k h2 => by
      rcases Nat.lt_or_eq_of_le k with k | rfl
      · have := (List.pairwise_iff_getElem.1 hs) i j hi hj k
        rw [e] at this
        exact glt_irrefl _ (glt_trans h2 this)
      · rw [e] at h2; exact glt_irrefl _ h2)
    unfold inG
    rw [← this, List.getElem?_eq_getElem hi, e]
def insG (F : List (Int × Int)) (g : Int × Int) : List (Int × Int) := F.take (lb F g) ++ g :: F.drop (lb F g)
def delG (F : List (Int × Int)) (g : Int × Int) : List (Int × Int) := F.take (lb F g) ++ F.drop (lb F g + 1)
theorem take_glt {F : List (Int × Int)} {g x : Int × Int} (h : x ∈ F.take (lb F g)) : glt x g := by
  obtain ⟨i, hi, e⟩ := List.mem_iff_getElem.1 h
  rw [List.length_take] at hi
  rw [List.getElem_take] at e
  rw [← e]
  exact lb_lt (by omega) (by omega)
theorem drop_glt {F : List (Int × Int)} {g x : Int × Int} (hs : F.Pairwise glt) (h : x ∈ F.drop (lb F g)) : ¬ glt x g := by
  obtain ⟨i, hi, e⟩ := List.mem_iff_getElem.1 h
  rw [List.length_drop] at hi
  rw [List.getElem_drop] at e
  rw [← e]
  exact lb_ge (by omega) hs (by omega)
theorem insG_mem {F : List (Int × Int)} {g x : Int × Int} : x ∈ insG F g ↔ x = g ∨ x ∈ F := by
  unfold insG
  conv => rhs; rw [← List.take_append_drop (lb F g) F]
  simp only [List.mem_append, List.mem_cons]
  constructor
  · rintro (h | h | h)
    · exact .inr (.inl h)
    · exact .inl h
    · exact .inr (.inr h)
  · rintro (h | h | h)
    · exact .inr (.inl h)
    · exact .inl h
    · exact .inr (.inr h)
theorem insG_sorted {F : List (Int × Int)} {g : Int × Int} (hs : F.Pairwise glt) (hn : g ∉ F) : (insG F g).Pairwise glt := by
  unfold insG
  rw [List.pairwise_append, List.pairwise_cons]
  refine ⟨hs.sublist (List.take_sublist _ _), ⟨fun x hx => ?_, hs.sublist (List.drop_sublist _ _)⟩, fun a ha b hb => ?_⟩
  · rcases glt_total g x with h | h | h
    · exact h
    · exact absurd (List.mem_of_mem_drop hx) (h ▸ hn)
    · exact absurd h (drop_glt hs hx)
  · have h1 := take_glt ha
    rcases List.mem_cons.1 hb with rfl | hb
    · exact h1
    · rcases glt_total g b with h | h | h
      · exact glt_trans h1 h
      · exact h ▸ h1
      · exact absurd h (drop_glt hs hb)
theorem delG_mem {F : List (Int × Int)} {g x : Int × Int} (hs : F.Pairwise glt) (hi : inG F g) : x ∈ delG F g ↔ x ∈ F ∧ x ≠ g := by
  unfold inG at hi
  obtain ⟨hl, e⟩ := List.getElem?_eq_some_iff.1 hi
  have hF : F = F.take (lb F g) ++ g :: F.drop (lb F g + 1) := by
    conv => lhs; rw [← List.take_append_drop (lb F g) F]
    rw [List.drop_eq_getElem_cons hl, e]
  unfold delG
  constructor
  · intro h
    rcases List.mem_append.1 h with h | h
    · exact ⟨List.mem_of_mem_take h, fun e => by have := take_glt h; rw [e] at this; exact glt_irrefl _ this⟩
    · refine ⟨List.mem_of_mem_drop h, ?_⟩
      rintro rfl
      rw [hF, List.pairwise_append, List.pairwise_cons] at hs
      exact glt_irrefl _ (hs.2.1.1 _ h)
  · rintro ⟨h, hx⟩
    rw [hF] at h
    rcases List.mem_append.1 h with h | h
    · exact List.mem_append_left _ h
    · rcases List.mem_cons.1 h with h | h
      · exact absurd h hx
      · exact List.mem_append_right _ h
theorem delG_sorted {F : List (Int × Int)} {g : Int × Int} (hs : F.Pairwise glt) : (delG F g).Pairwise glt := by
  unfold delG
  refine hs.sublist ?_
  conv => rhs; rw [← List.take_append_drop (lb F g) F]
  exact List.Sublist.append (List.Sublist.refl _) (by rw [← List.drop_drop]; exact List.drop_sublist _ _)
theorem insG_len (F : List (Int × Int)) (g : Int × Int) : (insG F g).length = F.length + 1 := by
  have := lb_le F g
  simp [insG]; omega
theorem delG_len {F : List (Int × Int)} {g : Int × Int} (h : inG F g) : (delG F g).length + 1 = F.length := by
  unfold inG at h
  have := (List.getElem?_eq_some_iff.1 h).1
  simp [delG]; omega

end Go.Proofs.Ytmfoenhbldacfaa
