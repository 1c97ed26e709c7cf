import Derived.Test.YtmfoenhbldacfaaQaa
/- Pages, plainly: bytes, words, slots; what a page keeps, and what is done to it. -/
namespace Go.Proofs.Ytmfoenhbldacfaa
open Go.RowKit
set_option linter.unusedVariables false

theorem nth_set_same {B : List Int} {i : Nat} {v : Int} (h : i < B.length) : nth (B.set i v) i = v := by
  rw [nth, List.getElem?_set_self h]; rfl
theorem nth_set_ne {B : List Int} {i j : Nat} {v : Int} (h : j ≠ i) : nth (B.set i v) j = nth B j := by
  rw [nth, nth, List.getElem?_set_ne (by omega)]

/-- All are bytes. -/
def By (B : List Int) : Prop := ∀ x ∈ B, 0 ≤ x ∧ x ≤ 255
theorem By.nth {B : List Int} (h : By B) (i : Nat) : 0 ≤ nth B i ∧ nth B i ≤ 255 := by
  rw [Go.Proofs.Ytmfoenhbldacfaa.nth]
  cases e : B[i]? with
  | none => simp
  | some x => exact h x (List.mem_of_getElem? e)
theorem By.set {B : List Int} (h : By B) (i : Nat) {v : Int} (h0 : 0 ≤ v) (h1 : v ≤ 255) : By (B.set i v) := fun x hx => by
  rcases List.mem_or_eq_of_mem_set hx with k | k
  · exact h x k
  · subst k; exact ⟨h0, h1⟩

/-- The word of two bytes, the greater first. -/
def wd (B : List Int) (i : Nat) : Nat := 256 * (nth B i).toNat + (nth B (i + 1)).toNat
theorem wd_int {B : List Int} (h : By B) (i : Nat) : (wd B i : Int) = 256 * nth B i + nth B (i + 1) := by
  have h0 := h.nth i
  have h1 := h.nth (i + 1)
  rw [wd]; omega
theorem wd_lt {B : List Int} (h : By B) (i : Nat) : wd B i < 65536 := by
  have h0 := h.nth i
  have h1 := h.nth (i + 1)
  rw [wd]; omega
theorem wd_eq {B C : List Int} {i : Nat} (h : nth C i = nth B i) (k : nth C (i + 1) = nth B (i + 1)) : wd C i = wd B i := by rw [wd, wd, h, k]

/-- With that word there. -/
def putW (B : List Int) (i v : Nat) : List Int := (B.set i ((v / 256 : Nat) : Int)).set (i + 1) ((v % 256 : Nat) : Int)
theorem putW_len (B : List Int) (i v : Nat) : (putW B i v).length = B.length := by simp [putW]
theorem putW_nth {B : List Int} {i v j : Nat} (h : j ≠ i) (k : j ≠ i + 1) : nth (putW B i v) j = nth B j := by
  rw [putW, nth_set_ne k, nth_set_ne h]
theorem putW_same {B : List Int} {i v : Nat} (h : i + 1 < B.length) : wd (putW B i v) i = v := by
  rw [wd, putW, nth_set_same (by simpa using h), nth_set_ne (by omega), nth_set_same (by omega)]
  omega
theorem putW_ne {B : List Int} {i v j : Nat} (h : j + 1 < i ∨ i + 1 < j) : wd (putW B i v) j = wd B j :=
  wd_eq (putW_nth (by omega) (by omega)) (putW_nth (by omega) (by omega))
theorem putW_by {B : List Int} (h : By B) (i : Nat) {v : Nat} (hv : v < 65536) : By (putW B i v) :=
  (h.set i (by omega) (by omega)).set (i + 1) (by omega) (by omega)

/-- Those bytes laid over B from o on. -/
def spl (B : List Int) (o : Nat) (r : List Int) : List Int := B.take o ++ (r ++ B.drop (o + r.length))
theorem spl_len {B : List Int} {o : Nat} {r : List Int} (h : o + r.length ≤ B.length) : (spl B o r).length = B.length := by simp [spl]; omega
theorem spl_in {B : List Int} {o j : Nat} {r : List Int} (h : o + r.length ≤ B.length) (hj : j < r.length) : nth (spl B o r) (o + j) = nth r j := by
  have e : (B.take o).length = o := by simp; omega
  rw [nth, spl, List.getElem?_append_right (by omega), e, show o + j - o = j from by omega, List.getElem?_append_left hj]; rfl
theorem spl_out {B : List Int} {o i : Nat} {r : List Int} (h : o + r.length ≤ B.length) (hi : i < o ∨ o + r.length ≤ i) : nth (spl B o r) i = nth B i := by
  have e : (B.take o).length = o := by simp; omega
  rcases hi with hi | hi
  · rw [nth, spl, List.getElem?_append_left (by omega), List.getElem?_take_of_lt hi]; rfl
  · rw [nth, spl, List.getElem?_append_right (by omega), List.getElem?_append_right (by omega), List.getElem?_drop, e, show o + r.length + (i - o - r.length) = i from by omega]; rfl
theorem spl_by {B : List Int} {o : Nat} {r : List Int} (h : By B) (k : By r) : By (spl B o r) := fun x hx => by
  rw [spl, List.mem_append, List.mem_append] at hx
  rcases hx with hx | hx | hx
  · exact h x (List.mem_of_mem_take hx)
  · exact k x hx
  · exact h x (List.mem_of_mem_drop hx)
theorem by_zeros (n : Nat) : By (List.replicate n (0 : Int)) := fun x hx => by
  rw [List.eq_of_mem_replicate hx]; omega

/-- The record of a slot; none: no bytes. -/
def rc (R : List (List Int)) (s : Nat) : List Int := R.getD s []
theorem rc_out {R : List (List Int)} {s : Nat} (h : R.length ≤ s) : rc R s = [] := by simp [rc, h]
theorem rc_lt {R : List (List Int)} {s : Nat} (h : rc R s ≠ []) : s < R.length := by
  by_cases k : s < R.length
  · exact k
  · exact absurd (rc_out (by omega)) h
theorem rc_take {R : List (List Int)} {k s : Nat} (h : s < k) : rc (R.take k) s = rc R s := by
  simp [rc, List.getElem?_take_of_lt h]
theorem rc_take_out {R : List (List Int)} {k s : Nat} (h : k ≤ s) : rc (R.take k) s = [] := rc_out (by simp; omega)

/-- All records' bytes. -/
def tot : List (List Int) → Nat
  | [] => 0
  | r :: R => r.length + tot R
theorem tot_app (R S : List (List Int)) : tot (R ++ S) = tot R + tot S := by
  induction R with
  | nil => simp [tot]
  | cons r R ih => simp [tot, ih]; omega
theorem tot_snoc (R : List (List Int)) (b : List Int) : tot (R ++ [b]) = tot R + b.length := by rw [tot_app]; simp [tot]
theorem tot_set : ∀ (R : List (List Int)) (s : Nat) (b : List Int), s < R.length → tot (R.set s b) + (rc R s).length = tot R + b.length
  | [], s, b, h => by simp at h
  | r :: R, 0, b, h => by simp [tot, rc]; omega
  | r :: R, s + 1, b, h => by
    have := tot_set R s b (by simpa using h)
    have e : rc (r :: R) (s + 1) = rc R s := by simp [rc]
    rw [e]
    simp [tot]; omega
theorem tot_ge : ∀ (R : List (List Int)) (s : Nat), (rc R s).length ≤ tot R
  | [], s => by simp [rc, tot]
  | r :: R, 0 => by simp [rc, tot]
  | r :: R, s + 1 => by
    have := tot_ge R s
    have e : rc (r :: R) (s + 1) = rc R s := by simp [rc]
    rw [e, tot]; omega
theorem tot_take_succ (R : List (List Int)) (k : Nat) : tot (R.take (k + 1)) = tot (R.take k) + (rc R k).length := by
  by_cases h : k < R.length
  · rw [List.take_succ_eq_append_getElem h, tot_snoc]
    simp [rc, h]
  · rw [List.take_of_length_le (by omega), List.take_of_length_le (by omega), rc_out (by omega)]; simp
theorem tot_take_le (R : List (List Int)) (k : Nat) : tot (R.take k) ≤ tot R := by
  have := tot_app (R.take k) (R.drop k)
  rw [List.take_append_drop] at this; omega

/-- What is free: 256, less the head, the slots, the records. -/
def freeR (R : List (List Int)) : Int := 248 - 4 * (R.length : Int) - (tot R : Int)

/-- With that record in that slot, which may be the first that is not there. -/
def setR (R : List (List Int)) (s : Nat) (b : List Int) : List (List Int) := if s < R.length then R.set s b else R ++ [b]
theorem setR_len {R : List (List Int)} {s : Nat} (h : s ≤ R.length) (b : List Int) : (setR R s b).length = max R.length (s + 1) := by
  rw [setR]; split <;> simp <;> omega
theorem setR_same {R : List (List Int)} {s : Nat} (h : s ≤ R.length) (b : List Int) : rc (setR R s b) s = b := by
  rw [setR]; split
  · rename_i k; simp [rc, k]
  · have : s = R.length := by omega
    subst this; simp [rc]
theorem setR_ne {R : List (List Int)} {s t : Nat} (h : s ≤ R.length) (b : List Int) (ht : t ≠ s) : rc (setR R s b) t = rc R t := by
  rw [setR]; split
  · rename_i k; simp [rc, List.getElem?_set_ne (show s ≠ t from by omega)]
  · have : s = R.length := by omega
    subst this
    by_cases k : t < R.length
    · simp [rc, List.getElem?_append_left k]
    · rw [rc_out (by simp; omega), rc_out (by omega)]
theorem setR_tot {R : List (List Int)} {s : Nat} (h : s ≤ R.length) (b : List Int) : tot (setR R s b) + (rc R s).length = tot R + b.length := by
  rw [setR]; split
  · rename_i k; exact tot_set R s b k
  · rw [tot_snoc, rc_out (by omega)]; simp
theorem setR_free {R : List (List Int)} {s : Nat} (h : s ≤ R.length) (b : List Int) : freeR (setR R s b) = freeR R + (rc R s).length - b.length - (if s < R.length then 0 else 4) := by
  have h1 := setR_tot h b
  have h2 := setR_len h b
  simp only [freeR, h2]
  split <;> omega

/-- The page B keeps the records R; where those of p lie. -/
structure Iv (B : List Int) (R : List (List Int)) (p : Nat → Prop) : Prop where
  len : B.length = 256
  bys : By B
  mn : wd B 0 = R.length
  fr : 0 ≤ freeR R
  ln : ∀ s, s < R.length → wd B (8 + 4 * s + 2) = (rc R s).length
  lo : ∀ s, p s → rc R s ≠ [] → 8 + 4 * R.length ≤ wd B (8 + 4 * s)
  hi : ∀ s, p s → rc R s ≠ [] → wd B (8 + 4 * s) + (rc R s).length ≤ 256
  dat : ∀ s, p s → rc R s ≠ [] → ∀ j, j < (rc R s).length → nth B (wd B (8 + 4 * s) + j) = nth (rc R s) j
  ap : ∀ s t, p s → p t → s ≠ t → rc R s ≠ [] → rc R t ≠ [] → wd B (8 + 4 * s) + (rc R s).length ≤ wd B (8 + 4 * t) ∨ wd B (8 + 4 * t) + (rc R t).length ≤ wd B (8 + 4 * s)

/-- All. -/
def allP : Nat → Prop := fun _ => True

theorem Iv.few {B : List Int} {R : List (List Int)} {p : Nat → Prop} (h : Iv B R p) : R.length ≤ 62 ∧ tot R ≤ 248 := by
  have := h.fr
  simp only [freeR] at this
  omega
theorem Iv.weak {B : List Int} {R : List (List Int)} {p q : Nat → Prop} (h : Iv B R p) (k : ∀ s, rc R s ≠ [] → q s → p s) : Iv B R q :=
  ⟨h.len, h.bys, h.mn, h.fr, h.ln, fun s hs hn => h.lo s (k s hn hs) hn, fun s hs hn => h.hi s (k s hn hs) hn, fun s hs hn => h.dat s (k s hn hs) hn,
   fun s t hs ht e hn hm => h.ap s t (k s hn hs) (k t hm ht) e hn hm⟩

theorem nth_zeros (n i : Nat) : nth (List.replicate n (0 : Int)) i = 0 := by
  rw [nth, List.getElem?_replicate]
  split <;> rfl
/-- A new page. -/
theorem Iv.new : Iv (List.replicate 256 0) [] allP := by
  refine ⟨List.length_replicate, by_zeros _, ?_, by simp [freeR, tot], fun s h => by simp at h, fun s _ h => absurd (rc_out (by simp)) h, fun s _ h => absurd (rc_out (by simp)) h, fun s _ h => absurd (rc_out (by simp)) h, fun s t _ _ _ h => absurd (rc_out (by simp)) h⟩
  rw [wd, nth_zeros, nth_zeros]; rfl

/-- A record is laid: what the bytes are then. -/
theorem Iv.place {C D : List Int} {R : List (List Int)} {p : Nat → Prop} (h : Iv C R p) {s at' L : Nat} {b : List Int} (hs : s ≤ R.length) (hb : b ≠ []) (hf : 0 ≤ freeR (setR R s b))
    (hL : ∀ t, p t → t ≠ s → rc R t ≠ [] → L ≤ wd C (8 + 4 * t)) (hat : at' + b.length = L) (hL2 : L ≤ 256) (hlow : 8 + 4 * max R.length (s + 1) ≤ at')
    (len : D.length = 256) (bys : By D) (mn : wd D 0 = max R.length (s + 1)) (ho : wd D (8 + 4 * s) = at') (hl : wd D (8 + 4 * s + 2) = b.length)
    (keep : ∀ t, t < R.length → t ≠ s → wd D (8 + 4 * t) = wd C (8 + 4 * t) ∧ wd D (8 + 4 * t + 2) = wd C (8 + 4 * t + 2))
    (dat : ∀ j, j < b.length → nth D (at' + j) = nth b j) (rest : ∀ i, L ≤ i → nth D i = nth C i) : Iv D (setR R s b) (fun t => p t ∨ t = s) := by
  have hlen := setR_len hs b
  have hsame := setR_same hs b
  have hne := fun t (ht : t ≠ s) => setR_ne hs b ht
  have hold : ∀ t, t ≠ s → rc (setR R s b) t ≠ [] → rc R t ≠ [] ∧ t < R.length := fun t ht hn => by
    rw [hne t ht] at hn; exact ⟨hn, rc_lt hn⟩
  refine ⟨len, bys, by rw [mn, hlen], hf, fun t ht => ?_, fun t hp hn => ?_, fun t hp hn => ?_, fun t hp hn j hj => ?_, fun t u hp hq e hn hm => ?_⟩
  · by_cases e : t = s
    · subst e; rw [hsame, hl]
    · have : t < R.length := by rw [hlen] at ht; omega
      rw [hne t e, (keep t this e).2, h.ln t this]
  · rw [hlen]
    by_cases e : t = s
    · subst e; rw [ho]; exact hlow
    · obtain ⟨h1, h2⟩ := hold t e hn
      have hp' : p t := hp.resolve_right e
      rw [(keep t h2 e).1]
      have := hL t hp' e h1
      omega
  · by_cases e : t = s
    · subst e; rw [ho, hsame]; omega
    · obtain ⟨h1, h2⟩ := hold t e hn
      rw [(keep t h2 e).1, hne t e]
      exact h.hi t (hp.resolve_right e) h1
  · by_cases e : t = s
    · subst e; rw [ho, hsame]; rw [hsame] at hj; exact dat j hj
    · obtain ⟨h1, h2⟩ := hold t e hn
      have hp' : p t := hp.resolve_right e
      rw [hne t e] at hj ⊢
      rw [(keep t h2 e).1, rest _ (by have := hL t hp' e h1; omega)]
      exact h.dat t hp' h1 j hj
  · by_cases e1 : t = s
    · have e2 : u ≠ s := fun x => e (by omega)
      obtain ⟨h1, h2⟩ := hold u e2 hm
      rw [(keep u h2 e2).1]
      subst e1
      rw [ho, hsame]
      left
      have := hL u (hq.resolve_right e2) e2 h1
      omega
    · obtain ⟨h1, h2⟩ := hold t e1 hn
      rw [(keep t h2 e1).1, hne t e1]
      by_cases e2 : u = s
      · subst e2
        rw [ho, hsame]
        right
        have := hL t (hp.resolve_right e1) e1 h1
        omega
      · obtain ⟨h3, h4⟩ := hold u e2 hm
        rw [(keep u h4 e2).1, hne u e2]
        exact h.ap t u (hp.resolve_right e1) (hq.resolve_right e2) e h1 h3

/-- The bytes behind a put: the record, how many slots, the slot. -/
def layB (C : List Int) (s at' many : Nat) (b : List Int) : List Int := putW (putW (putW (spl C at' b) 0 many) (8 + 4 * s) at') (8 + 4 * s + 2) b.length
theorem Iv.lay {C : List Int} {R : List (List Int)} (h : Iv C R allP) {s at' L : Nat} {b : List Int} (hs : s ≤ R.length) (hb : b ≠ []) (hby : By b) (he : rc R s = []) (hf : 0 ≤ freeR (setR R s b))
    (hL : ∀ t, rc R t ≠ [] → L ≤ wd C (8 + 4 * t)) (hat : at' + b.length = L) (hL2 : L ≤ 256) (hlow : 8 + 4 * max R.length (s + 1) ≤ at') : Iv (layB C s at' (max R.length (s + 1)) b) (setR R s b) allP := by
  have hc := h.len
  have hfit : at' + b.length ≤ C.length := by omega
  have h1 := spl_len hfit
  have hb1 : b.length < 65536 := by omega
  have hw1 : ∀ t, 8 + 4 * t + 3 < at' → wd (spl C at' b) (8 + 4 * t) = wd C (8 + 4 * t) ∧ wd (spl C at' b) (8 + 4 * t + 2) = wd C (8 + 4 * t + 2) := fun t ht =>
    ⟨wd_eq (spl_out hfit (by omega)) (spl_out hfit (by omega)), wd_eq (spl_out hfit (by omega)) (spl_out hfit (by omega))⟩
  refine (Iv.place (D := layB C s at' (max R.length (s + 1)) b) h hs hb hf (fun t _ _ hn => hL t hn) hat hL2 hlow ?_ ?_ ?_ ?_ ?_ ?_ ?_ ?_).weak (fun _ _ _ => .inl trivial)
  · simp only [layB, putW_len]; omega
  · exact putW_by (putW_by (putW_by (spl_by h.bys hby) _ (by omega)) _ (by omega)) _ hb1
  · rw [layB, putW_ne (by omega), putW_ne (by omega), putW_same (by omega)]
  · rw [layB, putW_ne (by omega), putW_same (by simp only [putW_len]; omega)]
  · rw [layB, putW_same (by simp only [putW_len]; omega)]
  · intro t ht e
    have := hw1 t (by omega)
    rw [← this.1, ← this.2]
    refine ⟨?_, ?_⟩ <;> (rw [layB, putW_ne (by omega), putW_ne (by omega), putW_ne (by omega)])
  · intro j hj
    rw [layB, putW_nth (by omega) (by omega), putW_nth (by omega) (by omega), putW_nth (by omega) (by omega), spl_in hfit hj]
  · intro i hi
    rw [layB, putW_nth (by omega) (by omega), putW_nth (by omega) (by omega), putW_nth (by omega) (by omega), spl_out hfit (.inr (by omega))]

/-- The bytes behind one round of pushing together. -/
def packB (C : List Int) (s at' : Nat) (b : List Int) : List Int := putW (putW (spl C at' b) (8 + 4 * s) at') (8 + 4 * s + 2) b.length
theorem setR_self {R : List (List Int)} {s : Nat} (h : s < R.length) : setR R s (rc R s) = R := by
  rw [setR, if_pos h, rc, List.getD_eq_getElem?_getD, List.getElem?_eq_getElem h]
  simp
theorem Iv.pack {C : List Int} {R : List (List Int)} {p : Nat → Prop} (h : Iv C R p) {s at' L : Nat} (hs : rc R s ≠ []) (hby : By (rc R s))
    (hL : ∀ t, p t → rc R t ≠ [] → L ≤ wd C (8 + 4 * t)) (hp : ¬ p s) (hat : at' + (rc R s).length = L) (hL2 : L ≤ 256) (hlow : 8 + 4 * R.length ≤ at') :
    Iv (packB C s at' (rc R s)) R (fun t => p t ∨ t = s) ∧ ∀ t, (p t ∨ t = s) → rc R t ≠ [] → at' ≤ wd (packB C s at' (rc R s)) (8 + 4 * t) := by
  have hc := h.len
  have hlt := rc_lt hs
  have hfit : at' + (rc R s).length ≤ C.length := by omega
  have h1 := spl_len hfit
  have hb1 : (rc R s).length < 65536 := by omega
  have hw1 : ∀ t, 8 + 4 * t + 3 < at' → wd (spl C at' (rc R s)) (8 + 4 * t) = wd C (8 + 4 * t) ∧ wd (spl C at' (rc R s)) (8 + 4 * t + 2) = wd C (8 + 4 * t + 2) := fun t ht =>
    ⟨wd_eq (spl_out hfit (by omega)) (spl_out hfit (by omega)), wd_eq (spl_out hfit (by omega)) (spl_out hfit (by omega))⟩
  have hm : max R.length (s + 1) = R.length := by omega
  have hw0 : wd (spl C at' (rc R s)) 0 = wd C 0 := wd_eq (spl_out hfit (by omega)) (spl_out hfit (by omega))
  have hkeep : ∀ t, t < R.length → t ≠ s → wd (packB C s at' (rc R s)) (8 + 4 * t) = wd C (8 + 4 * t) ∧ wd (packB C s at' (rc R s)) (8 + 4 * t + 2) = wd C (8 + 4 * t + 2) := by
    intro t ht e
    have := hw1 t (by omega)
    rw [← this.1, ← this.2]
    refine ⟨?_, ?_⟩ <;> (rw [packB, putW_ne (by omega), putW_ne (by omega)])
  have ho : wd (packB C s at' (rc R s)) (8 + 4 * s) = at' := by
    rw [packB, putW_ne (by omega), putW_same (by omega)]
  have key := Iv.place (D := packB C s at' (rc R s)) h (s := s) (at' := at') (L := L) (b := rc R s) (by omega) hs (by rw [setR_self hlt]; exact h.fr) (fun t h2 _ hn => hL t h2 hn) hat hL2 (by rw [hm]; exact hlow) (by simp only [packB, putW_len]; omega)
    (putW_by (putW_by (spl_by h.bys hby) _ (by omega)) _ hb1) (by rw [packB, putW_ne (by omega), putW_ne (by omega), hw0, h.mn, hm]) ho
    (by rw [packB, putW_same (by simp only [putW_len]; omega)]) hkeep
    (fun j hj => by rw [packB, putW_nth (by omega) (by omega), putW_nth (by omega) (by omega), spl_in hfit hj])
    (fun i hi => by rw [packB, putW_nth (by omega) (by omega), putW_nth (by omega) (by omega), spl_out hfit (.inr (by omega))])
  rw [setR_self hlt] at key
  refine ⟨key, fun t ht hn => ?_⟩
  by_cases e : t = s
  · subst e; rw [ho]; exact Nat.le_refl _
  · rw [(hkeep t (rc_lt hn) e).1]
    have := hL t (ht.resolve_right e) hn
    omega

/-- All behind the slots is wiped: of no record is told where it lies. -/
theorem Iv.wiped {B : List Int} {R : List (List Int)} (h : Iv B R allP) : Iv (spl B (8 + 4 * R.length) (List.replicate (256 - (8 + 4 * R.length)) 0)) R (fun _ => False) := by
  have hf := h.few
  have hc := h.len
  have hfit : 8 + 4 * R.length + (List.replicate (256 - (8 + 4 * R.length)) (0 : Int)).length ≤ B.length := by simp; omega
  refine ⟨by rw [spl_len hfit, hc], spl_by h.bys (by_zeros _), ?_, h.fr, fun s hs => ?_, fun _ hp => hp.elim, fun _ hp => hp.elim, fun _ hp => hp.elim, fun _ _ hp => hp.elim⟩
  · rw [wd_eq (spl_out hfit (by omega)) (spl_out hfit (by omega)), h.mn]
  · rw [wd_eq (spl_out hfit (by omega)) (spl_out hfit (by omega)), h.ln s hs]

/-- The bytes behind a record's end. -/
def wipeB (B : List Int) (s o n : Nat) : List Int := putW (putW (spl B o (List.replicate n 0)) (8 + 4 * s) 0) (8 + 4 * s + 2) 0
theorem Iv.wipe {B : List Int} {R : List (List Int)} (h : Iv B R allP) {s : Nat} (hs : rc R s ≠ []) : Iv (wipeB B s (wd B (8 + 4 * s)) (rc R s).length) (R.set s []) allP := by
  have hc := h.len
  have hlt := rc_lt hs
  have hf := h.few
  have hlo := h.lo s trivial hs
  have hhi := h.hi s trivial hs
  have hfit : wd B (8 + 4 * s) + (List.replicate (rc R s).length (0 : Int)).length ≤ B.length := by simp; omega
  have hlen : (List.replicate (rc R s).length (0 : Int)).length = (rc R s).length := by simp
  have h1 := spl_len hfit
  have hset : R.set s [] = setR R s [] := by rw [setR, if_pos hlt]
  have hkeep : ∀ t, t < R.length → t ≠ s → wd (wipeB B s (wd B (8 + 4 * s)) (rc R s).length) (8 + 4 * t) = wd B (8 + 4 * t) ∧ wd (wipeB B s (wd B (8 + 4 * s)) (rc R s).length) (8 + 4 * t + 2) = wd B (8 + 4 * t + 2) := by
    intro t ht e
    refine ⟨?_, ?_⟩ <;> (rw [wipeB, putW_ne (by omega), putW_ne (by omega), wd_eq (spl_out hfit (by omega)) (spl_out hfit (by omega))])
  have hnth : ∀ i, 8 + 4 * R.length ≤ i → (i < wd B (8 + 4 * s) ∨ wd B (8 + 4 * s) + (rc R s).length ≤ i) → nth (wipeB B s (wd B (8 + 4 * s)) (rc R s).length) i = nth B i := fun i hi hj => by
    rw [wipeB, putW_nth (by omega) (by omega), putW_nth (by omega) (by omega), spl_out hfit (by rw [hlen]; exact hj)]
  have hne : ∀ t, rc (setR R s []) t ≠ [] → t ≠ s ∧ rc (setR R s []) t = rc R t ∧ rc R t ≠ [] ∧ t < R.length := fun t hn => by
    have e : t ≠ s := fun x => by subst x; exact hn (setR_same (by omega) [])
    rw [setR_ne (by omega) [] e] at hn ⊢
    exact ⟨e, rfl, hn, rc_lt hn⟩
  have hl0 : (setR R s []).length = R.length := by rw [← hset]; simp
  rw [hset]
  refine ⟨by simp only [wipeB, putW_len]; omega, putW_by (putW_by (spl_by h.bys (by_zeros _)) _ (by omega)) _ (by omega), ?_, ?_, fun t ht => ?_, fun t _ hn => ?_, fun t _ hn => ?_, fun t _ hn j hj => ?_, fun t u _ _ e hn hm => ?_⟩
  · rw [wipeB, putW_ne (by omega), putW_ne (by omega), wd_eq (spl_out hfit (by omega)) (spl_out hfit (by omega)), h.mn, hl0]
  · have := setR_free (R := R) (s := s) (by omega) []
    rw [if_pos hlt] at this
    have := h.fr
    simp at *
    omega
  · rw [hl0] at ht
    by_cases e : t = s
    · subst e; rw [wipeB, putW_same (by simp only [putW_len]; omega), setR_same (by omega)]; rfl
    · rw [(hkeep t ht e).2, setR_ne (by omega) [] e, h.ln t ht]
  · obtain ⟨e, e2, h3, h4⟩ := hne t hn
    rw [hl0, (hkeep t h4 e).1]
    exact h.lo t trivial h3
  · obtain ⟨e, e2, h3, h4⟩ := hne t hn
    rw [e2, (hkeep t h4 e).1]
    exact h.hi t trivial h3
  · obtain ⟨e, e2, h3, h4⟩ := hne t hn
    rw [e2] at hj ⊢
    rw [(hkeep t h4 e).1]
    have h5 := h.lo t trivial h3
    have h6 := h.ap t s trivial trivial e h3 hs
    rw [hnth _ (by omega) (by omega)]
    exact h.dat t trivial h3 j hj
  · obtain ⟨e3, e2, h3, h4⟩ := hne t hn
    obtain ⟨e5, e6, h5, h6⟩ := hne u hm
    rw [e2, e6, (hkeep t h4 e3).1, (hkeep u h6 e5).1]
    exact h.ap t u trivial trivial e h3 h5

/-- So many slots are left, the others have no record. -/
theorem Iv.trim {B : List Int} {R : List (List Int)} (h : Iv B R allP) {k : Nat} (hk : k ≤ R.length) (he : ∀ s, k ≤ s → rc R s = []) : Iv (putW B 0 k) (R.take k) allP := by
  have hc := h.len
  have hf := h.few
  have hl : (R.take k).length = k := by simp; omega
  have hne : ∀ t, rc (R.take k) t ≠ [] → rc (R.take k) t = rc R t ∧ rc R t ≠ [] ∧ t < k := fun t hn => by
    have : t < k := by
      have := rc_lt hn
      omega
    rw [rc_take this] at hn ⊢
    exact ⟨rfl, hn, this⟩
  refine ⟨by rw [putW_len, hc], putW_by h.bys _ (by omega), by rw [putW_same (by omega), hl], ?_, fun s hs => ?_, fun s _ hn => ?_, fun s _ hn => ?_, fun s _ hn j hj => ?_, fun s t _ _ e hn hm => ?_⟩
  · have h1 := h.fr
    have h2 := tot_take_le R k
    simp only [freeR, hl] at h1 ⊢
    omega
  · rw [hl] at hs
    rw [putW_ne (by omega), rc_take hs, h.ln s (by omega)]
  · obtain ⟨e1, e2, e3⟩ := hne s hn
    rw [putW_ne (by omega), hl]
    have := h.lo s trivial e2
    omega
  · obtain ⟨e1, e2, e3⟩ := hne s hn
    rw [putW_ne (by omega), e1]
    exact h.hi s trivial e2
  · obtain ⟨e1, e2, e3⟩ := hne s hn
    rw [e1] at hj ⊢
    have := h.lo s trivial e2
    rw [putW_ne (by omega), putW_nth (by omega) (by omega)]
    exact h.dat s trivial e2 j hj
  · obtain ⟨e1, e2, e3⟩ := hne s hn
    obtain ⟨f1, f2, f3⟩ := hne t hm
    rw [putW_ne (by omega), putW_ne (by omega), e1, f1]
    exact h.ap s t trivial trivial e e2 f2

/-- How many slots are left when those at the end that have no record are taken. -/
def tr (R : List (List Int)) : Nat → Nat
  | 0 => 0
  | k + 1 => if rc R k = [] then tr R k else k + 1
theorem tr_le (R : List (List Int)) : ∀ k, tr R k ≤ k
  | 0 => Nat.le_refl _
  | k + 1 => by
    rw [tr]; split
    · have := tr_le R k; omega
    · exact Nat.le_refl _
theorem tr_out (R : List (List Int)) : ∀ k, (∀ s, k ≤ s → rc R s = []) → ∀ s, tr R k ≤ s → rc R s = []
  | 0, h, s, hs => h s (by omega)
  | k + 1, h, s, hs => by
    rw [tr] at hs
    split at hs
    · rename_i e
      exact tr_out R k (fun t ht => by
        by_cases x : t = k
        · subst x; exact e
        · exact h t (by omega)) s hs
    · exact h s hs
theorem tr_last (R : List (List Int)) : ∀ k, tr R k = 0 ∨ rc R (tr R k - 1) ≠ []
  | 0 => .inl rfl
  | k + 1 => by
    rw [tr]; split
    · exact tr_last R k
    · rename_i e; exact .inr (by simpa using e)
/-- Without the slots at the end that have no record. -/
def trimR (R : List (List Int)) : List (List Int) := R.take (tr R R.length)
/-- The last slot has a record. -/
def Tm (R : List (List Int)) : Prop := R.length = 0 ∨ rc R (R.length - 1) ≠ []
theorem trimR_tm (R : List (List Int)) : Tm (trimR R) := by
  have h := tr_le R R.length
  have hl : (trimR R).length = tr R R.length := by simp [trimR]; omega
  by_cases z : tr R R.length = 0
  · left; omega
  · right
    rw [hl, trimR, rc_take (by omega)]
    exact (tr_last R R.length).resolve_left z
theorem trimR_free (R : List (List Int)) : tot (trimR R) = tot R := by
  have h1 := tot_app (R.take (tr R R.length)) (R.drop (tr R R.length))
  rw [List.take_append_drop] at h1
  have : ∀ S : List (List Int), (∀ s, rc S s = []) → tot S = 0 := by
    intro S
    induction S with
    | nil => intro _; rfl
    | cons r S ih =>
      intro h
      have h0 := h 0
      simp [rc] at h0
      rw [tot, h0, ih (fun s => by have := h (s + 1); simpa [rc] using this)]; rfl
  have h2 := this (R.drop (tr R R.length)) (fun s => by
    have := tr_out R R.length (fun s hs => rc_out hs) (tr R R.length + s) (by omega)
    simpa [rc] using this)
  rw [trimR]; omega
theorem trimR_rc (R : List (List Int)) (s : Nat) : rc (trimR R) s = rc R s := by
  by_cases h : s < tr R R.length
  · exact rc_take h
  · rw [trimR, rc_take_out (by omega), tr_out R R.length (fun s hs => rc_out hs) s (by omega)]
theorem setR_tm {R : List (List Int)} (h : Tm R) {s : Nat} (hs : s ≤ R.length) {b : List Int} (hb : b ≠ []) : Tm (setR R s b) := by
  right
  rw [setR_len hs]
  by_cases e : max R.length (s + 1) - 1 = s
  · rw [e, setR_same hs]; exact hb
  · rw [setR_ne hs b e, show max R.length (s + 1) - 1 = R.length - 1 from by omega]
    exact h.resolve_left (by omega)

/-- The lowest slot without a record. -/
def vac : List (List Int) → Nat
  | [] => 0
  | r :: R => if r = [] then 0 else vac R + 1
theorem vac_le : ∀ R : List (List Int), vac R ≤ R.length
  | [] => Nat.le_refl _
  | r :: R => by
    have := vac_le R
    rw [vac]; split <;> simp; omega
theorem vac_out : ∀ R : List (List Int), rc R (vac R) = []
  | [] => rfl
  | r :: R => by
    rw [vac]; split
    · rename_i e; simp [rc, e]
    · have := vac_out R; simpa [rc] using this
theorem vac_lt : ∀ (R : List (List Int)) (s : Nat), s < vac R → rc R s ≠ []
  | [], s, h => by simp [vac] at h
  | r :: R, s, h => by
    rw [vac] at h
    split at h
    · omega
    · rename_i e
      cases s with
      | zero => simpa [rc] using e
      | succ s => have := vac_lt R s (by omega); simpa [rc] using this
theorem vac_eq {R : List (List Int)} {k : Nat} (h : ∀ s, s < k → rc R s ≠ []) (e : rc R k = []) : k = vac R := by
  by_cases h1 : k < vac R
  · exact absurd e (vac_lt R k h1)
  · by_cases h2 : vac R < k
    · exact absurd (vac_out R) (h _ h2)
    · omega

/-- The slots that have a record, of the first k. -/
def prs (R : List (List Int)) (k : Nat) : List Nat := (List.range k).filter (fun s => !(rc R s).isEmpty)
theorem prs_succ (R : List (List Int)) (k : Nat) : prs R (k + 1) = if rc R k = [] then prs R k else prs R k ++ [k] := by
  rw [prs, List.range_succ, List.filter_append, ← prs]
  split
  · rename_i e; simp [e]
  · rename_i e; simp [e]
theorem prs_mem {R : List (List Int)} {k s : Nat} : s ∈ prs R k ↔ s < k ∧ rc R s ≠ [] := by
  simp [prs]
/-- Those slots' bytes. -/
def sm (R : List (List Int)) : List Nat → Nat
  | [] => 0
  | s :: l => (rc R s).length + sm R l
theorem sm_app (R : List (List Int)) (a b : List Nat) : sm R (a ++ b) = sm R a + sm R b := by
  induction a with
  | nil => simp [sm]
  | cons x a ih => simp [sm, ih]; omega
theorem sm_prs (R : List (List Int)) (k : Nat) : sm R (prs R k) = tot (R.take k) := by
  induction k with
  | zero => simp [prs, sm, tot]
  | succ k ih =>
    rw [prs_succ, tot_take_succ]
    split
    · rename_i e; rw [ih, e]; simp
    · rw [sm_app, ih]; simp [sm]
theorem sm_take_succ (R : List (List Int)) (l : List Nat) {i : Nat} (h : i < l.length) : sm R (l.take (i + 1)) = sm R (l.take i) + (rc R l[i]).length := by
  rw [List.take_succ_eq_append_getElem h, sm_app]; simp [sm]
theorem sm_take_le (R : List (List Int)) (l : List Nat) (i : Nat) : sm R (l.take i) ≤ sm R l := by
  have := sm_app R (l.take i) (l.drop i)
  rw [List.take_append_drop] at this; omega
theorem prs_nodup (R : List (List Int)) (k : Nat) : (prs R k).Nodup := List.Pairwise.filter _ List.nodup_range

/-- What a put into a slot tells, and the records then. -/
def layE (R : List (List Int)) (s : Nat) (b : List Int) : Int := if b = [] ∨ 200 < b.length then 7 else if freeR (setR R s b) < 0 then 25 else 0
def layR (R : List (List Int)) (s : Nat) (b : List Int) : List (List Int) := if layE R s b = 0 then setR R s b else R

end Go.Proofs.Ytmfoenhbldacfaa
