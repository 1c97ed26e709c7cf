import Derived.Test.YtfopfhlohihihaaGreatCbu
namespace Go.Proofs.YtfopfhlohihihaaGreat
open Go.RowKit
set_option linter.unusedVariables false
set_option linter.unusedSimpArgs false
def AtE {α : Type} (x : Re α) (E : Tk) : Prop := x = .inl (E.2.2.2, 5) ∨ ∃ t, x = .inr (t, [E])
structure Pr {α : Type} (P : List Tk → Re α) : Prop where
 shr : Shr P
 atE : ∀ E : Tk, E.1 = 6 → AtE (P [E]) E
 pre : ∀ (A B : List Tk) (t : α) (R : List Tk) (E : Tk), E.1 = 6 → P (A ++ B) = .inr (t, R) →
  (∃ A', A' ≠ [] ∧ R = A' ++ B ∧ P (A ++ [E]) = .inr (t, A' ++ [E])) ∨ (R.length ≤ B.length ∧ AtE (P (A ++ [E])) E)
theorem Pr.of {α : Type} {P : List Tk → Re α} (shr : Shr P) (atE : ∀ E : Tk, E.1 = 6 → AtE (P [E]) E)
  (pre : ∀ (a : Tk) (A B : List Tk) (t : α) (R : List Tk) (E : Tk), E.1 = 6 → P (a :: (A ++ B)) = .inr (t, R) →
   (∃ A', A' ≠ [] ∧ R = A' ++ B ∧ P (a :: (A ++ [E])) = .inr (t, A' ++ [E])) ∨ (R.length ≤ B.length ∧ AtE (P (a :: (A ++ [E]))) E)) : Pr P :=
 ⟨shr, atE, fun A B t R E hE h => by
  cases A with
  | nil => exact .inr ⟨shr _ _ _ h, atE E hE⟩
  | cons a A => exact pre a A B t R E hE h⟩
theorem Pr.bind {α β : Type} {P : List Tk → Re α} {f : α → List Tk → Re β} (hP : Pr P) (hf : ∀ a, Pr (f a)) : Pr (fun ts => thenR (P ts) f) := by
 have shr : Shr (fun ts => thenR (P ts) f) := fun ts t r h => by
  obtain ⟨a, q, h1, h2⟩ := thenR_inr h
  exact Nat.le_trans ((hf a).shr _ _ _ h2) (hP.shr _ _ _ h1)
 have end' : ∀ (x : Re α) (E : Tk), E.1 = 6 → AtE x E → AtE (thenR x f) E := fun x E hE hx => by
  rcases hx with rfl | ⟨t, rfl⟩
  ·exact .inl rfl
  ·exact (hf t).atE E hE
 refine ⟨shr, fun E hE => end' _ E hE (hP.atE E hE), fun A B t R E hE h => ?_⟩
 obtain ⟨a, q, h1, h2⟩ := thenR_inr h
 rcases hP.pre A B a q E hE h1 with ⟨A', h0, rfl, h4⟩ | ⟨hl, h4⟩
 ·show (∃ A', A' ≠ [] ∧ R = A' ++ B ∧ thenR (P (A ++ [E])) f = .inr (t, A' ++ [E])) ∨ (R.length ≤ B.length ∧ AtE (thenR (P (A ++ [E])) f) E)
  rw [h4]
  exact (hf a).pre A' B t R E hE h2
 ·exact .inr ⟨Nat.le_trans ((hf a).shr _ _ _ h2) hl, end' _ E hE h4⟩
theorem Pr.ret {α : Type} (x : α) : Pr (fun ts => .inr (x, ts)) := by
 refine .of (fun ts t r h => by cases h; exact Nat.le_refl _) (fun E _ => .inr ⟨x, rfl⟩) fun a A B t R E hE h => ?_
 cases h
 exact .inl ⟨a :: A, by simp, by simp, by simp⟩
theorem Pr.map {α β : Type} {P : List Tk → Re α} (h : Pr P) (g : α → β) : Pr (fun ts => mapR g (P ts)) := h.bind fun a => Pr.ret (g a)
theorem Pr.fail {α : Type} : Pr (fun ts => (.inl (atOf ts, 5) : Re α)) :=
 .of (fun ts t r h => by cases h) (fun E _ => .inl rfl) fun a A B t R E hE h => by cases h
theorem isTk_end {s : ByteArray} {E : Tk} (hE : E.1 = 6) : isTk s [E] = false := by simp [isTk, hE]
theorem isTk_head (s : ByteArray) (a : Tk) (X Y : List Tk) : isTk s (a :: X) = isTk s (a :: Y) := rfl
theorem Pr.disp {α : Type} {s : ByteArray} {P Q : List Tk → Re α} (hP : Pr P) (hQ : Pr Q) : Pr (fun ts => if isTk s ts then P ts.tail else Q ts) := by
 refine .of (fun ts t r h => ?_) (fun E hE => ?_) fun a A B t R E hE h => ?_
 ·split at h
  ·exact Nat.le_trans (hP.shr _ _ _ h) (by simp)
  ·exact hQ.shr _ _ _ h
 ·rw [isTk_end hE]
  exact hQ.atE E hE
 ·rw [isTk_head s a (A ++ [E]) (A ++ B)]
  by_cases hs : isTk s (a :: (A ++ B)) = true
  ·rw [if_pos hs] at h ⊢
   exact hP.pre A B t R E hE h
  ·rw [if_neg hs] at h ⊢
   exact hQ.pre (a :: A) B t R E hE h
theorem Pr.is {α : Type} {s : ByteArray} {P Q : List Tk → Re α} (hP : Pr P) (hQ : Pr Q) : Pr (fun ts => if isTk s ts then P ts else Q ts) := by
 refine .of (fun ts t r h => ?_) (fun E hE => ?_) fun a A B t R E hE h => ?_
 ·split at h
  ·exact hP.shr _ _ _ h
  ·exact hQ.shr _ _ _ h
 ·rw [isTk_end hE]
  exact hQ.atE E hE
 ·rw [isTk_head s a (A ++ [E]) (A ++ B)]
  by_cases hs : isTk s (a :: (A ++ B)) = true
  ·rw [if_pos hs] at h ⊢
   exact hP.pre (a :: A) B t R E hE h
  ·rw [if_neg hs] at h ⊢
   exact hQ.pre (a :: A) B t R E hE h
theorem Pr.kd {α : Type} {k : Int} (hk : k ≠ 6) {P Q : List Tk → Re α} (hP : Pr P) (hQ : Pr Q) : Pr (fun ts => if kdOf ts = k then P ts else Q ts) := by
 refine .of (fun ts t r h => ?_) (fun E hE => ?_) fun a A B t R E hE h => ?_
 ·split at h
  ·exact hP.shr _ _ _ h
  ·exact hQ.shr _ _ _ h
 ·rw [if_neg (by show ¬ E.1 = k; omega)]
  exact hQ.atE E hE
 ·by_cases hs : a.1 = k
  ·rw [if_pos (show kdOf (a :: (A ++ B)) = k from hs)] at h
   rw [if_pos (show kdOf (a :: (A ++ [E])) = k from hs)]
   exact hP.pre (a :: A) B t R E hE h
  ·rw [if_neg (show ¬ kdOf (a :: (A ++ B)) = k from hs)] at h
   rw [if_neg (show ¬ kdOf (a :: (A ++ [E])) = k from hs)]
   exact hQ.pre (a :: A) B t R E hE h
theorem Pr.one {α : Type} {P : List Tk → Re α} (g : Tk → Sum (Int × Int) α) (h : ∀ a r, P (a :: r) = (match g a with | .inl e => .inl e | .inr x => .inr (x, r))) (h0 : ∀ t r, P [] ≠ .inr (t, r)) (hE : ∀ E : Tk, E.1 = 6 → g E = .inl (E.2.2.2, 5)) : Pr P := by
 refine .of (fun ts t r e => ?_) (fun E he => ?_) fun a A B t R E he e => ?_
 ·cases ts with
  | nil => exact absurd e (h0 t r)
  | cons a ts =>
   rw [h] at e
   cases hg : g a with
   | inl x => rw [hg] at e; cases e
   | inr x => rw [hg] at e; cases e; simp
 ·rw [h, hE E he]; exact .inl rfl
 ·rw [h] at e ⊢
  cases hg : g a with
  | inl x => rw [hg] at e; cases e
  | inr x =>
   rw [hg] at e
   cases e
   cases A with
   | nil => exact .inr ⟨Nat.le_refl _, .inr ⟨_, rfl⟩⟩
   | cons b A => exact .inl ⟨b :: A, by simp, rfl, rfl⟩
theorem pr_kind {k : Int} (hk : k ≠ 6) : Pr (kindP k) := by
 refine .one (fun a => if a.1 = k then .inr a else .inl (a.2.2.2, 5)) (fun a r => ?_) (fun t r h => by cases h) fun E hE => ?_
 ·show (if a.1 = k then _ else _) = _
  split <;> rfl
 ·rw [if_neg (by omega)]
theorem pr_name : Pr nameP := (pr_kind (by decide)).bind fun t => Pr.ret t.2.1
theorem pr_want (s : ByteArray) : Pr (wantU s) := Pr.disp (Pr.ret ()) Pr.fail
theorem pr_seq {α β γ : Type} {f : α → β → γ} {P : List Tk → Re α} {P' : List Tk → Re β} (h : Pr P) (h' : Pr P') : Pr (seqP f P P') := h.bind fun a => h'.map (f a)
theorem pr_opt {α : Type} {s : ByteArray} {z : α} {P : List Tk → Re α} (h : Pr P) : Pr (optP s z P) := Pr.disp h (Pr.ret z)
theorem oneOf_end {E : Tk} (hE : E.1 = 6) : ∀ l : List (ByteArray × Int), oneOf l [E] = 0
 | [] => rfl
 | c :: l => by rw [oneOf, isTk_end hE, if_neg (by simp), oneOf_end hE l]
theorem oneOf_head (a : Tk) (X Y : List Tk) : ∀ l : List (ByteArray × Int), oneOf l (a :: X) = oneOf l (a :: Y)
 | [] => rfl
 | c :: l => by rw [oneOf, oneOf, isTk_head c.1 a X Y, oneOf_head a X Y l]
theorem oneOf_nil : ∀ l : List (ByteArray × Int), oneOf l [] = 0
 | [] => rfl
 | c :: l => by rw [oneOf, if_neg (by simp [isTk]), oneOf_nil l]
theorem pr_choice (l : List (ByteArray × Int)) : Pr (choiceP l) := by
 refine .one (fun a => if oneOf l [a] = 0 then .inl (a.2.2.2, 5) else .inr (oneOf l [a])) (fun a r => ?_) (fun t r h => ?_) fun E hE => ?_
 ·rw [choiceP, oneOf_head a r [] l]
  split <;> rfl
 ·rw [choiceP, if_pos (oneOf_nil l)] at h
  cases h
 ·rw [if_pos (oneOf_end hE l)]
theorem pr_tag : Pr tagP := by
 refine .one (fun a => if a.1 = 3 then (if 65535 < a.2.2.1 then .inl (a.2.2.2, 3) else .inr (IntKind.u16.wrap a.2.2.1)) else .inl (a.2.2.2, 5)) (fun a r => ?_) (fun t r h => ?_) fun E hE => ?_
 ·show (if a.1 = 3 then (if 65535 < a.2.2.1 then (Sum.inl (a.2.2.2, 3) : Re Int) else .inr (IntKind.u16.wrap a.2.2.1, r)) else .inl (a.2.2.2, 5)) = _
  split
  ·split <;> rfl
  ·rfl
 ·cases h
 ·rw [if_neg (by omega)]
theorem pr_col : Pr colP := pr_seq pr_name (pr_seq (pr_choice _) (pr_opt pr_name))
theorem pr_column : Pr columnP := pr_name.bind fun n => Pr.disp (pr_name.bind fun m => Pr.ret (tCol n m)) (Pr.ret (tCol ⟨#[]⟩ n))
theorem pr_leaf : Pr leafP := Pr.kd (by decide) ((pr_kind (by decide)).bind fun t => Pr.ret (tInt t.2.2.1)) (Pr.kd (by decide) ((pr_kind (by decide)).bind fun t => Pr.ret (tText t.2.1)) pr_column)
def loopP {α : Type} (go : List Tk → Bool) (P : α → List Tk → Re α) : Nat → α → List Tk → Re α
 | 0, x, ts => .inr (x, ts)
 | k + 1, x, ts => if go ts then thenR (P x ts) fun y r => loopP go P k y r else .inr (x, ts)
theorem loop_fuel {α : Type} {go : List Tk → Bool} {P : α → List Tk → Re α} (hs : ∀ x ts t r, go ts = true → P x ts = .inr (t, r) → r.length < ts.length) (hn : go [] = false) : ∀ (n k : Nat) (x : α) (ts : List Tk), ts.length ≤ n → ts.length ≤ k → loopP go P k x ts = loopP go P ts.length x ts
 | n, k, x, [], _, _ => by
  cases k with
  | zero => rfl
  | succ k => rw [loopP, if_neg (by rw [hn]; simp)]; rfl
 | 0, k, x, a :: ts, h, _ => absurd h (by simp)
 | n + 1, 0, x, a :: ts, _, h => absurd h (by simp)
 | n + 1, k + 1, x, a :: ts, hn', hk => by
  show loopP go P (k + 1) x (a :: ts) = loopP go P (ts.length + 1) x (a :: ts)
  rw [loopP, loopP]
  split
  ·rename_i hg
   cases hP : P x (a :: ts) with
   | inl e => rfl
   | inr y =>
    have hl := hs x (a :: ts) y.1 y.2 hg hP
    simp only [List.length_cons] at hl hn' hk
    show loopP go P k y.1 y.2 = loopP go P ts.length y.1 y.2
    rw [loop_fuel hs hn n k y.1 y.2 (by omega) (by omega), loop_fuel hs hn n ts.length y.1 y.2 (by omega) (by omega)]
  ·rfl
theorem loop_eq {α : Type} {go : List Tk → Bool} {P : α → List Tk → Re α} (hs : ∀ x ts t r, go ts = true → P x ts = .inr (t, r) → r.length < ts.length) (hn : go [] = false) (x : α) (ts : List Tk) : loopP go P ts.length x ts = if go ts then thenR (P x ts) fun y r => loopP go P r.length y r else .inr (x, ts) := by
 cases ts with
 | nil => rw [if_neg (by rw [hn]; simp)]; rfl
 | cons a ts =>
  show loopP go P (ts.length + 1) x (a :: ts) = _
  rw [loopP]
  split
  ·rename_i hg
   cases hP : P x (a :: ts) with
   | inl e => rfl
   | inr y =>
    have hl := hs x (a :: ts) y.1 y.2 hg hP
    simp only [List.length_cons] at hl
    show loopP go P ts.length y.1 y.2 = loopP go P y.2.length y.1 y.2
    exact loop_fuel hs hn _ _ y.1 y.2 (Nat.le_refl _) (by omega)
  ·rfl
theorem pr_loop {α : Type} {go : List Tk → Bool} {P : α → List Tk → Re α} (hP : ∀ x, Pr (P x)) (hs : ∀ x ts t r, go ts = true → P x ts = .inr (t, r) → r.length < ts.length) (hn : go [] = false) (hE : ∀ E : Tk, E.1 = 6 → go [E] = false) (hh : ∀ a X Y, go (a :: X) = go (a :: Y)) (x : α) : Pr (fun ts => loopP go P ts.length x ts) := by
 have shr : ∀ (n : Nat) (x : α) (ts : List Tk) t r, ts.length ≤ n → loopP go P ts.length x ts = .inr (t, r) → r.length ≤ ts.length := by
  intro n
  induction n with
  | zero => intro x ts t r hl h; obtain rfl := List.eq_nil_of_length_eq_zero (Nat.le_zero.1 hl); cases h; exact Nat.le_refl _
  | succ n ih =>
   intro x ts t r hl h
   rw [loop_eq hs hn] at h
   split at h
   ·rename_i hg
    obtain ⟨a, q, h1, h2⟩ := thenR_inr h
    have := hs x ts a q hg h1
    exact Nat.le_trans (ih a q t r (by omega) h2) (by omega)
   ·cases h; exact Nat.le_refl _
 have pre : ∀ (n : Nat) (x : α) (A B : List Tk) t R E, E.1 = 6 → (A ++ B).length ≤ n → loopP go P (A ++ B).length x (A ++ B) = .inr (t, R) →
   (∃ A', A' ≠ [] ∧ R = A' ++ B ∧ loopP go P (A ++ [E]).length x (A ++ [E]) = .inr (t, A' ++ [E])) ∨ (R.length ≤ B.length ∧ AtE (loopP go P (A ++ [E]).length x (A ++ [E])) E) := by
  have end' : ∀ (x : α) (E : Tk), E.1 = 6 → loopP go P [E].length x [E] = .inr (x, [E]) := fun x E he => by rw [loop_eq hs hn, if_neg (by rw [hE E he]; simp)]
  intro n
  induction n with
  | zero =>
   intro x A B t R E he hl h
   have h0 := List.eq_nil_of_length_eq_zero (Nat.le_zero.1 hl)
   obtain ⟨rfl, rfl⟩ := List.append_eq_nil_iff.1 h0
   cases h
   exact .inr ⟨Nat.le_refl _, .inr ⟨x, end' x E he⟩⟩
  | succ n ih =>
   intro x A B t R E he hl h
   cases A with
   | nil => exact .inr ⟨shr _ x B t R (Nat.le_refl _) h, .inr ⟨x, end' x E he⟩⟩
   | cons a A =>
    rw [loop_eq hs hn] at h
    rw [loop_eq hs hn x (a :: A ++ [E])]
    rw [List.cons_append, hh a (A ++ [E]) (A ++ B)]
    rw [List.cons_append] at h
    split at h
    ·rename_i hg
     rw [if_pos hg]
     obtain ⟨y, q, h1, h2⟩ := thenR_inr h
     have hlt := hs x _ y q hg h1
     have hl' : (A ++ B).length + 1 ≤ n + 1 := hl
     simp only [List.length_cons] at hlt
     rcases (hP x).pre (a :: A) B y q E he h1 with ⟨A', h0, rfl, h4⟩ | ⟨hle, h4⟩
     ·rw [List.cons_append] at h4
      rw [h4]
      exact ih y A' B t R E he (by omega) h2
     ·rw [List.cons_append] at h4
      refine .inr ⟨Nat.le_trans (shr _ y q t R (Nat.le_refl _) h2) hle, ?_⟩
      rcases h4 with h4 | ⟨t', h4⟩
      ·rw [h4]; exact .inl rfl
      ·rw [h4]
       exact .inr ⟨t', end' t' E he⟩
    ·rename_i hg
     rw [if_neg hg]
     cases h
     exact .inl ⟨a :: A, by simp, by simp, by simp⟩
 exact ⟨fun ts t r h => shr _ x ts t r (Nat.le_refl _) h, fun E he => .inr ⟨x, by show loopP go P [E].length x [E] = _; rw [loop_eq hs hn, if_neg (by rw [hE E he]; simp)]⟩, fun A B t R E he h => pre _ x A B t R E he (Nat.le_refl _) h⟩
theorem loop_congr {α : Type} {go : List Tk → Bool} {P Q : α → List Tk → Re α} (h : ∀ ts, go ts = true → ∀ x, P x ts = Q x ts) : ∀ (k : Nat) (x : α) (ts : List Tk), loopP go P k x ts = loopP go Q k x ts
 | 0, x, ts => rfl
 | k + 1, x, ts => by
  rw [loopP, loopP]
  split
  ·rename_i hg
   rw [h ts hg x]
   cases hQ : Q x ts with
   | inl e => rfl
   | inr y => exact loop_congr h k y.1 y.2
  ·rfl
theorem chainL_loop (P : List Tk → Re Tr) (l : List (ByteArray × Int)) : ∀ (k : Nat) (x : Tr) (ts : List Tk), chainL P l k x ts = loopP (fun ts => !decide (oneOf l ts = 0)) (fun x ts => thenR (P ts.tail) fun y r => .inr (tTwo (oneOf l ts).toNat x y, r)) k x ts
 | 0, x, ts => rfl
 | k + 1, x, ts => by
  rw [chainL, loopP]
  by_cases h : oneOf l ts = 0
  ·rw [if_pos h, if_neg (by simp [h])]
  ·rw [if_neg h, if_pos (by simp [h])]
   cases hP : P ts.tail with
   | inl e => rfl
   | inr y =>
    show chainL P l k (tTwo (oneOf l ts).toNat x y.1) y.2 = loopP _ _ k (tTwo (oneOf l ts).toNat x y.1) y.2
    exact chainL_loop P l k _ _
theorem Pr.ops {α : Type} (l : List (ByteArray × Int)) {P : Int → List Tk → Re α} {Q : List Tk → Re α} (hP : ∀ z, Pr (P z)) (hQ : Pr Q) : Pr (fun ts => if oneOf l ts = 0 then Q ts else P (oneOf l ts) ts.tail) := by
 refine .of (fun ts t r h => ?_) (fun E hE => ?_) fun a A B t R E hE h => ?_
 ·split at h
  ·exact hQ.shr _ _ _ h
  ·exact Nat.le_trans ((hP _).shr _ _ _ h) (by simp)
 ·rw [if_pos (oneOf_end hE l)]
  exact hQ.atE E hE
 ·rw [oneOf_head a (A ++ [E]) (A ++ B) l]
  by_cases hs : oneOf l (a :: (A ++ B)) = 0
  ·rw [if_pos hs] at h ⊢
   exact hQ.pre (a :: A) B t R E hE h
  ·rw [if_neg hs] at h ⊢
   exact (hP _).pre A B t R E hE h
theorem oneOf_ne {l : List (ByteArray × Int)} {ts : List Tk} (h : oneOf l ts ≠ 0) : ts.tail.length < ts.length := by
 cases ts with
 | nil => exact absurd (oneOf_nil l) h
 | cons a ts => simp
theorem pr_chain {P : List Tk → Re Tr} (hP : Pr P) (l : List (ByteArray × Int)) : Pr (chainP P l) := by
 refine hP.bind fun x => ?_
 have e : (fun r => chainL P l r.length x r) = fun r => loopP (fun ts => !decide (oneOf l ts = 0)) (fun x ts => if oneOf l ts = 0 then .inr (x, ts) else thenR (P ts.tail) fun y r => .inr (tTwo (oneOf l ts).toNat x y, r)) r.length x r := by
  funext r
  rw [chainL_loop]
  exact loop_congr (fun ts h x => by rw [if_neg (by simpa using h)]) _ _ _
 rw [e]
 refine pr_loop (fun x => Pr.ops l (P := fun z ts => thenR (P ts) fun y r => .inr (tTwo z.toNat x y, r)) (fun z => hP.bind fun y => Pr.ret _) (Pr.ret x)) (fun x ts t r hg h => ?_) (by simp [oneOf_nil]) (fun E hE => by simp [oneOf_end hE]) (fun a X Y => by rw [oneOf_head a X Y]) x
 have hne : oneOf l ts ≠ 0 := by simpa using hg
 rw [if_neg hne] at h
 obtain ⟨y, q, h1, h2⟩ := thenR_inr h
 cases h2
 exact Nat.lt_of_le_of_lt (hP.shr _ _ _ h1) (oneOf_ne hne)
theorem isTk_lt {s : ByteArray} {ts : List Tk} (h : isTk s ts = true) : ts.tail.length < ts.length := by
 cases ts with
 | nil => cases h
 | cons a ts => simp
theorem listL_loop {α : Type} (P : List Tk → Re α) : ∀ (k : Nat) (l : List α) (ts : List Tk), listL P k l ts = loopP (fun ts => isTk ⟨#[44]⟩ ts) (fun l ts => if isTk ⟨#[44]⟩ ts then thenR (P ts.tail) fun y r => .inr (l ++ [y], r) else .inr (l, ts)) k l ts
 | 0, l, ts => rfl
 | k + 1, l, ts => by
  rw [listL, loopP]
  by_cases h : isTk ⟨#[44]⟩ ts = true
  ·rw [if_pos h, if_pos h, if_pos h]
   cases hP : P ts.tail with
   | inl e => rfl
   | inr y => exact listL_loop P k _ _
  ·rw [if_neg h, if_neg h]
theorem pr_list {α : Type} {P : List Tk → Re α} (hP : Pr P) : Pr (listP P) := by
 refine hP.bind fun x => ?_
 have e : (fun r => listL P r.length [x] r) = fun r => loopP (fun ts => isTk ⟨#[44]⟩ ts) (fun l ts => if isTk ⟨#[44]⟩ ts then thenR (P ts.tail) fun y r => .inr (l ++ [y], r) else .inr (l, ts)) r.length [x] r := by
  funext r
  exact listL_loop P _ _ _
 rw [e]
 refine pr_loop (fun l => Pr.disp (s := ⟨#[44]⟩) (P := fun ts => thenR (P ts) fun y r => .inr (l ++ [y], r)) (hP.bind fun y => Pr.ret _) (Pr.ret l)) (fun l ts t r hg h => ?_) rfl (fun E hE => isTk_end hE) (fun a X Y => rfl) [x]
 rw [if_pos hg] at h
 obtain ⟨y, q, h1, h2⟩ := thenR_inr h
 cases h2
 exact Nat.lt_of_le_of_lt (hP.shr _ _ _ h1) (isTk_lt hg)
def PrO (P : Option (List Tk → Re Tr)) : Prop := ∀ p, P = some p → Pr p
theorem Pr.inn {P : Option (List Tk → Re Tr)} (hP : PrO P) {s : ByteArray} {f : Tr → List Tk → Re Tr} (hf : ∀ x, Pr (f x)) {Q : List Tk → Re Tr} (hQ : Pr Q) : Pr (fun ts => if isTk s ts then thenR (inP P ts) f else Q ts) := by
 refine .of (fun ts t r h => ?_) (fun E hE => ?_) fun a A B t R E hE h => ?_
 ·split at h
  ·cases P with
   | none => cases h
   | some p => exact Nat.le_trans (((hP p rfl).bind hf).shr _ _ _ h) (by simp)
  ·exact hQ.shr _ _ _ h
 ·rw [isTk_end hE]
  exact hQ.atE E hE
 ·rw [isTk_head s a (A ++ [E]) (A ++ B)]
  by_cases hs : isTk s (a :: (A ++ B)) = true
  ·rw [if_pos hs] at h ⊢
   cases P with
   | none => cases h
   | some p => exact ((hP p rfl).bind hf).pre A B t R E hE h
  ·rw [if_neg hs] at h ⊢
   exact hQ.pre (a :: A) B t R E hE h
theorem pr_unary {U E : Option (List Tk → Re Tr)} (hU : PrO U) (hE : PrO E) : Pr (unaryOf U E) :=
 Pr.inn hU (fun x => Pr.ret _) (Pr.inn hE (fun x => Pr.disp (Pr.ret x) Pr.fail) pr_leaf)
theorem pr_comp {U : List Tk → Re Tr} (hU : Pr U) : Pr (compP U) := by
 have hS : Pr (sumP U) := pr_chain (pr_chain hU _) _
 exact hS.bind fun x => Pr.ops opsComp (P := fun z ts => thenR (sumP U ts) fun y r => .inr (tTwo z.toNat x y, r)) (fun z => hS.bind fun y => Pr.ret _) (Pr.ret x)
theorem pr_not {N : Option (List Tk → Re Tr)} {U : List Tk → Re Tr} (hN : PrO N) (hU : Pr U) : Pr (notOf N U) := Pr.inn hN (fun x => Pr.ret _) (pr_comp hU)
theorem pr_un (n : Nat) : Pr (unaryP n) ∧ Pr (notP n) := by
 induction n with
 | zero =>
  have h1 : Pr (unaryP 0) := by rw [unaryP_eq]; exact pr_unary (fun p e => by cases e) (fun p e => by cases e)
  exact ⟨h1, by rw [notP_eq]; exact pr_not (fun p e => by cases e) h1⟩
 | succ n ih =>
  have hE : Pr (exprP n) := pr_chain (pr_chain ih.2 _) _
  have h1 : Pr (unaryP (n + 1)) := by rw [unaryP_eq]; exact pr_unary (fun p e => by cases e; exact ih.1) (fun p e => by cases e; exact hE)
  exact ⟨h1, by rw [notP_eq]; exact pr_not (fun p e => by cases e; exact ih.2) h1⟩
theorem pr_expr (n : Nat) : Pr (exprP n) := pr_chain (pr_chain (pr_un n).2 _) _
theorem pr_br {α : Type} {P : List Tk → Re α} (h : Pr P) : Pr (brP P) := pr_seq (pr_want _) (pr_seq (pr_list h) (pr_want _))
theorem pr_behind : Pr behindP := pr_opt ((pr_expr 64).map _)
theorem pr_on : Pr onP := pr_seq (pr_want _) (pr_seq pr_column (pr_seq (pr_want _) pr_column))
theorem pr_order : Pr orderP := pr_seq (pr_want _) (pr_column.map _)
theorem Pr.fill {α : Type} {R : List Tk → Re Sm} {P : List Tk → Re α} (hR : Pr R) (hP : Pr P) (f : Sm → α → Sm) : Pr (fun ts => fillR P f (R ts)) := hR.bind fun m => hP.map (f m)
theorem Pr.want {α : Type} {R : List Tk → Re α} (hR : Pr R) (s : ByteArray) : Pr (fun ts => wantR s (R ts)) := hR.bind fun x => Pr.disp (Pr.ret x) Pr.fail
theorem pr_start (k : Int) : Pr (fun ts => startR k (.inr ts)) := Pr.ret (sm k)
theorem pr_item : Pr itemP := Pr.disp (α := It) (s := ⟨#[99, 111, 117, 110, 116]⟩) (P := seqP (fun _ _ => ((1, ⟨#[]⟩, ⟨#[]⟩) : It)) (wantU ⟨#[40]⟩) (seqP (fun _ _ => ()) (wantU ⟨#[42]⟩) (wantU ⟨#[41]⟩))) (pr_seq (pr_want _) (pr_seq (pr_want _) (pr_want _)))
 (Pr.ops opsAgg (P := fun z ts => seqP (fun _ x => itemC z x) (wantU ⟨#[40]⟩) (seqP (fun x _ => x) columnP (wantU ⟨#[41]⟩)) ts) (fun z => pr_seq (pr_want _) (pr_seq pr_column (pr_want _))) (pr_column.map (itemC 0)))
theorem pr_star : Pr starP := Pr.disp (P := fun ts => .inr ([], ts)) (Pr.ret []) (pr_list pr_item)
theorem pr_join : Pr joinP := pr_opt (pr_seq pr_name pr_on)
theorem pr_desc : Pr descP := by
 have e : descP = fun ts => if isTk ⟨#[100, 101, 115, 99]⟩ ts then (fun ts => (.inr (true, ts) : Re Bool)) ts.tail else (fun ts => .inr (false, ts)) ts := by
  funext ts
  rw [descP]
  cases isTk ⟨#[100, 101, 115, 99]⟩ ts <;> rfl
 rw [e]
 exact Pr.disp (Pr.ret true) (Pr.ret false)
theorem pr_ord : Pr ordP := pr_opt (pr_seq pr_order pr_desc)
theorem pr_query : Pr queryP := Pr.fill (Pr.fill (Pr.fill (Pr.fill (Pr.want (Pr.fill (Pr.want (pr_start 6) _) pr_star _) _) pr_name _) pr_join _) pr_behind _) pr_ord _
theorem pr_table : Pr tableP := Pr.fill (Pr.fill (pr_start 1) pr_name _) (pr_br pr_col) _
theorem pr_index : Pr indexP := Pr.want (Pr.fill (Pr.want (Pr.fill (Pr.want (pr_start 2) _) pr_name _) _) pr_name _) _
theorem pr_insert : Pr insertP := Pr.fill (Pr.want (Pr.fill (Pr.want (pr_start 5) _) pr_name _) _) (pr_br (pr_expr 64)) _
theorem pr_delete : Pr deleteP := Pr.fill (Pr.fill (Pr.want (pr_start 8) _) pr_name _) pr_behind _
theorem pr_update : Pr updateP := Pr.fill (Pr.fill (Pr.want (Pr.fill (Pr.want (Pr.fill (pr_start 7) pr_name _) _) pr_name _) _) ((pr_expr 64).map _) _) pr_behind _
theorem pr_tags : Pr tagsP := Pr.kd (by decide) (pr_list pr_tag) (Pr.ret [])
theorem pr_door (k : Int) {P : List Tk → Re Sm} (h : Pr P) : Pr (doorP k P) :=
 Pr.bind (P := fun ts => wantR ⟨#[97, 115]⟩ (fillR tagsP up_ta (wantR ⟨#[115, 116, 114, 105, 112]⟩ (fillR nameP up_nm (startR k (.inr ts)))))) (f := fun m r => mapR (fun x => ((m, [x]) : Sf)) (P r)) (Pr.want (Pr.fill (Pr.want (Pr.fill (pr_start k) pr_name up_nm) ⟨#[115, 116, 114, 105, 112]⟩) pr_tags up_ta) ⟨#[97, 115]⟩) fun m => h.map fun x => (m, [x])
theorem pr_change : Pr changeP := Pr.disp pr_insert (Pr.disp pr_update (Pr.disp pr_delete Pr.fail))
theorem pr_plain {P : List Tk → Re Sm} (h : Pr P) : Pr (plain P) := h.map _
theorem pr_create : Pr createP := Pr.disp (pr_plain pr_table) (Pr.disp (pr_plain pr_index) (Pr.disp (pr_door 3 pr_query) (Pr.disp (pr_door 4 pr_change) Pr.fail)))
theorem pr_only (k : Int) : Pr (onlyP k) := Pr.ret (sm k, [])
theorem pr_stmt : Pr stmtP := Pr.disp pr_create (Pr.is (pr_plain pr_query) (Pr.disp (pr_only 9) (Pr.disp (pr_only 10) (Pr.disp (pr_only 11) (Pr.disp ((pr_list pr_tag).map _) (Pr.disp (pr_name.map _) (pr_plain pr_change)))))))
theorem Fl.take : ∀ {l : List Pc} {b : Bool}, Fl b l → ∀ i, Fl b (l.take i)
 | [], b, h, i => by rw [List.take_nil]; trivial
 | p :: l, b, h, 0 => trivial
 | p :: l, b, h, i + 1 => ⟨h.1, h.2.1, Fl.take h.2.2 i⟩
theorem Good.cut {m : Sf} {X : ByteArray} (h : Good m X) {i : Nat} (hi : i ≤ (pcF m).length) {s : ByteArray} (hs : bs s = ren ((pcF m).take i) ++ List.replicate (spAt (pcF m) i) 32) (hz : s.size ≤ 400) : ∀ Y a f, PaR s Y a f → f = 0 ∨ (f = 5 ∧ a = (s.size : Int)) := by
 intro Y a f hp
 obtain ⟨ts, b, e, h1, h2⟩ := hp
 obtain ⟨rfl, rfl, rfl⟩ := (lexR_pcs (Fl.take (Fl.of (ad_f m) h.words.words) i) hs hz).det h1
 have hfull := parse_back h.sf (l := pcF m) rfl 0
 have hst : stmtP (tks 0 (pcF m) ++ [(6, ⟨#[]⟩, 0, 0)]) = .inr (m, [(6, ⟨#[]⟩, 0, 0)]) := ((end_run _).2 _ _ hfull)
 have hsp : tks 0 (pcF m) = tks 0 ((pcF m).take i) ++ tks (0 + (ren ((pcF m).take i)).length) ((pcF m).drop i) := by
  conv => lhs; rw [← List.take_append_drop i (pcF m)]
  rw [tks_app]
 rw [hsp, List.append_assoc] at hst
 have hE := pr_stmt.pre _ _ _ _ (6, ⟨#[]⟩, 0, (s.size : Int)) rfl hst
 have hA : AtE (stmtP (tks 0 ((pcF m).take i) ++ [(6, ⟨#[]⟩, 0, (s.size : Int))])) (6, ⟨#[]⟩, 0, (s.size : Int)) := by
  rcases hE with ⟨A', h0, h3, _⟩ | ⟨_, h3⟩
  ·have := congrArg List.length h3
   simp only [List.length_append, List.length_cons, List.length_nil] at this
   have := List.length_pos_iff.2 h0
   omega
  ·exact h3
 rcases h2 with ⟨he, _⟩ | ⟨_, h2⟩
 ·exact absurd rfl he
 ·rcases hA with hA | ⟨t, hA⟩
  ·have hw : parseW (tks 0 ((pcF m).take i) ++ [(6, ⟨#[]⟩, 0, (s.size : Int))]) = .inl ((s.size : Int), 5) := by rw [parseW, hA]; rfl
   rcases h2 with ⟨x, hx, _, rfl, rfl, _⟩ | ⟨y, r, hx, _, _, _⟩
   ·rw [hw] at hx
    cases hx
    exact .inr ⟨rfl, rfl⟩
   ·rw [hw] at hx; cases hx
  ·have hw : parseW (tks 0 ((pcF m).take i) ++ [(6, ⟨#[]⟩, 0, (s.size : Int))]) = .inr (t, [(6, ⟨#[]⟩, 0, (s.size : Int))]) := by rw [parseW, hA]; rfl
   rcases h2 with ⟨x, hx, _, _, _, _⟩ | ⟨y, r, hx, _, _, rfl⟩
   ·rw [hw] at hx; cases hx
   ·exact .inl rfl
theorem Good.more {m : Sf} {X : ByteArray} (h : Good m X) {s : ByteArray} (hs : s = X ++ ⟨#[32, 41]⟩) (hz : s.size ≤ 400) : ∀ Y a f, PaR s Y a f → f = 5 ∧ a = (X.size : Int) + 1 := by
 intro Y a f hp
 have hlen : (ren (pcF m)).length = X.size := by rw [← h.text, bs_length]
 have hl : AllP (pcF m ++ [(1, sg ⟨#[41]⟩)]) := h.words.app (.cons (okS 41 (by decide)) .nil)
 have had : Ad false (pcF m ++ [(1, sg ⟨#[41]⟩)]) := (ad_f m).app ⟨.inr (.inl (by decide)), trivial⟩
 have hb : bs s = ren (pcF m ++ [(1, sg ⟨#[41]⟩)]) ++ List.replicate 0 32 := by
  rw [hs, bs_app, h.text, ren_app]
  simp [ren, wdB, sg, bs]
 obtain ⟨ts, b, e, h1, h2⟩ := hp
 obtain ⟨rfl, rfl, rfl⟩ := (lexR_pcs (Fl.of had hl.words) hb hz).det h1
 have ht : tks 0 (pcF m ++ [(1, sg ⟨#[41]⟩)]) ++ [(6, ⟨#[]⟩, 0, (s.size : Int))] = tks 0 (pcF m) ++ [(5, ⟨#[41]⟩, 0, ((X.size + 1 : Nat) : Int)), (6, ⟨#[]⟩, 0, (s.size : Int))] := by
  rw [tks_app, hlen, List.append_assoc]
  simp [tks, sg]
 have hg := (rds_stmt (D := False) h.sf (tks 0 (pcF m)) [(5, ⟨#[41]⟩, 0, ((X.size + 1 : Nat) : Int)), (6, ⟨#[]⟩, 0, (s.size : Int))] (tks_words _ 0) (.inr ⟨⟨#[41]⟩, mem_of rfl, rfl⟩)).out
 have hw : parseW (tks 0 (pcF m ++ [(1, sg ⟨#[41]⟩)]) ++ [(6, ⟨#[]⟩, 0, (s.size : Int))]) = .inl (((X.size + 1 : Nat) : Int), 5) := by rw [ht, parseW, hg]; rfl
 rcases h2 with ⟨he, _⟩ | ⟨_, ⟨x, hx, _, rfl, rfl, _⟩ | ⟨y, r, hx, _, _, _⟩⟩
 ·exact absurd rfl he
 ·rw [hw] at hx
  cases hx
  exact ⟨rfl, by omega⟩
 ·rw [hw] at hx; cases hx
theorem cut_at {s : ByteArray} {l : List Pc} (hs : bs s = ren l) {i : Nat} (hi : i ≤ l.length) : atP l i ≤ s.size ∧ bs (s.extract 0 (atP l i)) = ren (l.take i) ++ List.replicate (spAt l i) 32 ∧ (s.extract 0 (atP l i)).size = atP l i := by
 obtain ⟨r, e⟩ : ∃ r, ren l = (ren (l.take i) ++ List.replicate (spAt l i) 32) ++ r := by
  by_cases h : i < l.length
  ·obtain ⟨r, e⟩ := ren_split h
   exact ⟨_, e⟩
  ·obtain rfl : i = l.length := by omega
   exact ⟨[], by rw [List.take_length, spAt_end (Nat.le_refl _)]; simp⟩
 have hx := extract_list (A := []) (n := ren (l.take i) ++ List.replicate (spAt l i) 32) (r := r) (hs.trans (by rw [e]; rfl))
 have hz := size_list (hs.trans e)
 have e1 : (ren (l.take i) ++ List.replicate (spAt l i) (32 : UInt8)).length = atP l i := by rw [List.length_append, List.length_replicate]; rfl
 rw [List.length_nil, Nat.zero_add, e1] at hx
 rw [e1] at hz
 refine ⟨by omega, by rw [hx, bs_mk], ?_⟩
 rw [← bs_length, hx, bs_mk, e1]
theorem str_upto (s : ByteArray) (hs : s.size ≤ 1000000) (q : Nat) (h2 : q ≤ s.size) (w : World) : (Instr.slice 9 (.string s) none (some (.int .i64 (q : Int))) none).run Tryz.prog w = .ok (.string (s.extract 0 q)) w := by
 go_simp
end Go.Proofs.YtfopfhlohihihaaGreat
