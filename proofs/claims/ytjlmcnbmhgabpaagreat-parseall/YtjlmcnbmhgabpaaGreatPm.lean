/- The walks of list and bracketed, at each type; behind. -/
import Derived.Test.YtjlmcnbmhgabpaaGreatPl
namespace Go.Proofs.YtjlmcnbmhgabpaaGreat
open Go.RowKit
set_option linter.unusedVariables false

def TeTag (g : Nat) (w : World) (R : Re Int) (e : Ending) (w' : World) : Prop := ∃ z, e = .returned (.int .u16 z) ∧ But g w w' ∧ Rp w' g (stO R) 0 ∧ ∀ t r, R = .inr (t, r) → z = t
def TeCol (g : Nat) (w : World) (R : Re Co) (e : Ending) (w' : World) : Prop := ∃ a k f, e = .returned (.agg #[.string a, .int .i64 k, .string f]) ∧ But g w w' ∧ Rp w' g (stO R) 0 ∧ ∀ t r, R = .inr (t, r) → (a, k, f) = t
def TeItem (g : Nat) (w : World) (R : Re It) (e : Ending) (w' : World) : Prop := ∃ k a f, e = .returned (.agg #[.int .i64 k, .string a, .string f]) ∧ But g w w' ∧ Rp w' g (stO R) 0 ∧ ∀ t r, R = .inr (t, r) → (k, a, f) = t
/-- What a call that reads a list tells. -/
def TeL {α : Type} (e : Ek α) (g : Nat) (w : World) (R : Re (List α)) (en : Ending) (w' : World) : Prop :=
  ∃ ao n c, en = .returned (.slice ao n c) ∧ But g w w' ∧ Rp w' g (stO R) 0 ∧ ∀ l r, R = .inr (l, r) → RowIs e (fun b => w.heap.size ≤ b) w' (.slice ao n c) l
/-- A function value bound to the reader in block g, and what its calls tell. -/
def PartV {α : Type} (g : Nat) (T : World → Re α → Ending → World → Prop) (P : List Tk → Re α) (v : Value) : Prop :=
  ∃ N, v = .func (.func N) #[.pointer (some ⟨g, 0, none⟩)] #[] ∧ (∀ args w', (callFunc N args).run Tryz.prog w' = .ok (.enter N args) w') ∧
    ∀ S w, Rp w g S 0 → Calls Tryz.prog N #[.pointer (some ⟨g, 0, none⟩)] w (T w (runP P S))
def LiR {α : Type} (P : List Tk → Re α) (R : Re (List α)) (S : Sa) (css : List (List Value)) (E : α → List Value → Prop) : Prop :=
  (∃ e, S = .inl e ∧ R = .inl e) ∨ ∃ ts l k, S = .inr ts ∧ ts.length ≤ k ∧ R = listL P k l ts ∧ l.length = css.length ∧ ∀ i (h1 : i < l.length) (h2 : i < css.length), E l[i] css[i]
theorem LiR.start {α : Type} {P : List Tk → Re α} {S : Sa} {cs : List Value} {E : α → List Value → Prop} (h : ∀ t r, runP P S = .inr (t, r) → E t cs) : LiR P (runP (listP P) S) (stO (runP P S)) [cs] E := by
  match S with
  | .inl x => exact .inl ⟨x, rfl, rfl⟩
  | .inr ts =>
    have e1 : runP P (.inr ts) = P ts := rfl
    have e2 : runP (listP P) (.inr ts) = thenR (P ts) fun x r => listL P r.length [x] r := rfl
    rw [e1] at h
    rw [e1, e2]
    cases hp : P ts with
    | inl x => exact .inl ⟨x, rfl, rfl⟩
    | inr x =>
      refine .inr ⟨x.2, [x.1], x.2.length, rfl, Nat.le_refl _, rfl, rfl, fun i h1 h2 => ?_⟩
      have : i = 0 := by simp at h1; omega
      subst this
      exact h x.1 x.2 hp
theorem LiR.mono {α : Type} {P : List Tk → Re α} {R : Re (List α)} {S : Sa} {css : List (List Value)} {E E' : α → List Value → Prop} (h : LiR P R S css E) (k : ∀ t cs, E t cs → E' t cs) : LiR P R S css E' := by
  rcases h with h | ⟨ts, l, n, h1, h2, h3, h4, h5⟩
  · exact .inl h
  · exact .inr ⟨ts, l, n, h1, h2, h3, h4, fun i a b => k _ _ (h5 i a b)⟩
theorem LiR.stop {α : Type} {P : List Tk → Re α} {R : Re (List α)} {S : Sa} {css : List (List Value)} {E : α → List Value → Prop} (h : LiR P R S css E) (hz : takeB ⟨#[44]⟩ S = false) : stO R = S ∧ ∀ l r, R = .inr (l, r) → l.length = css.length ∧ ∀ i (h1 : i < l.length) (h2 : i < css.length), E l[i] css[i] := by
  rcases h with ⟨e, rfl, rfl⟩ | ⟨ts, l, k, rfl, hk, hR, hl, hE⟩
  · exact ⟨rfl, fun t r e => by cases e⟩
  · have hz' : isTk ⟨#[44]⟩ ts = false := hz
    have e : listL P k l ts = .inr (l, ts) := by
      cases k with
      | zero => rfl
      | succ k => rw [listL, if_neg (by rw [hz']; simp)]
    rw [hR, e]
    exact ⟨rfl, fun t' r e => by cases e; exact ⟨hl, hE⟩⟩
theorem LiR.go {α : Type} {P : List Tk → Re α} {R : Re (List α)} {t : Tk} {ts : List Tk} {css : List (List Value)} {E : α → List Value → Prop} (hP : Shr P) (h : LiR P R (.inr (t :: ts)) css E) (hz : takeB ⟨#[44]⟩ (.inr (t :: ts)) = true) : szS (stO (P ts)) ≤ ts.length ∧
    ∀ (cs : List Value) (E' : α → List Value → Prop), (∀ u ds, E u ds → E' u ds) → (∀ u r, P ts = .inr (u, r) → E' u cs) → LiR P R (stO (P ts)) (css ++ [cs]) E' := by
  rcases h with ⟨e, he, _⟩ | ⟨ts', l, k, he, hk, hR, hl, hE⟩
  · cases he
  · cases he
    have hz' : isTk ⟨#[44]⟩ (t :: ts) = true := hz
    refine ⟨?_, fun cs E' hm hn => ?_⟩
    · cases hp : P ts with
      | inl y => exact Nat.zero_le _
      | inr y => exact hP ts y.1 y.2 hp
    · cases k with
      | zero => simp at hk
      | succ k =>
        rw [listL, if_pos hz'] at hR
        have hR2 : R = thenR (P ts) fun y r' => listL P k (l ++ [y]) r' := hR
        rw [hR2]
        cases hp : P ts with
        | inl y => exact .inl ⟨y, rfl, rfl⟩
        | inr y =>
          have := hP ts y.1 y.2 hp
          refine .inr ⟨y.2, l ++ [y.1], k, rfl, by simp at hk; omega, rfl, by simp [hl], fun i h1 h2 => ?_⟩
          by_cases hi : i < l.length
          · rw [List.getElem_append_left hi, List.getElem_append_left (by omega)]
            exact hm _ _ (hE i hi (by omega))
          · rw [List.length_append, List.length_singleton] at h1
            obtain rfl : i = l.length := by omega
            rw [List.getElem_append_right (Nat.le_refl _), List.getElem_append_right (by omega)]
            simpa [hl] using hn y.1 y.2 hp
theorem But.grown {g : Nat} {w w3 w4 : World} {row : Option Nat} (h : But g w w3) (hg : w3.grownBy w4 row) (hrow : ∀ k, row = some k → w.heap.size ≤ k) : But g w w4 :=
  ⟨hg.os.trans h.os, hg.tape.trans h.tape, hg.output.trans h.output, Nat.le_trans h.size hg.size, fun k hk hgk => (hg.block k (Nat.lt_of_lt_of_le hk h.size) (fun e => by have := hrow k e.symm; omega)).trans (h.block k hk hgk)⟩
theorem Rp.grown {g d : Nat} {S : Sa} {w3 w4 : World} {row : Option Nat} (h : Rp w3 g S d) (hg : w3.grownBy w4 row) (hrow : ∀ k, row = some k → g < k) : Rp w4 g S d :=
  h.keep fun k hk => hg.block k (Nat.lt_of_le_of_lt hk h.lt) (fun e => by have := hrow k e.symm; omega)
theorem Ek.grow {α : Type} (e : Ek α) {w5 w6 : World} {B : Nat} {row own : Option Nat} {u : α} {ds : List Value} (hE : e.E (fun b => B ≤ b ∧ some b ≠ row) w5 u ds) (hg : w5.grownBy w6 row) (hown : own = row ∨ own = some w5.heap.size) : e.E (fun b => B ≤ b ∧ some b ≠ own) w6 u ds :=
  e.mono (fun b hq _ => ⟨hq.1, hq.2.2⟩) (e.keep (w := w5) (fun b hq hlt => hg.block b hlt hq.2.1) (e.mono (Q' := fun b => B ≤ b ∧ some b ≠ row ∧ some b ≠ own) (fun b hq hlt => ⟨hq.1, hq.2, by
    rcases hown with h | h
    · rw [h]; exact hq.2
    · rw [h]; simp; omega⟩) hE))
theorem OwnR.blk {ty k B : Nat} {w : World} {v : Value} {css : List (List Value)} (h : OwnR ty k B w v css) : ∀ b, v.ownBlock = some b → B ≤ b ∧ b < w.heap.size := fun b e => World.ownsRow.lt h.2 b e

theorem Tryz.infoTExpr : (Tryz.prog.info? 80).map (fun i => (i.zero, i.size, i.bytes)) = some (some (.agg #[.int .i64 0, .int .i64 0, .int .i64 0, .string ⟨#[]⟩, .string ⟨#[]⟩, .string ⟨#[]⟩, .slice none 0 0]), 7, 96) := by kernel_rfl
set_option maxRecDepth 100000 in
set_option maxHeartbeats 2000000 in
theorem pListExpr_any {g : Nat} {P : List Tk → Re Tr} {v : Value} {S : Sa} {w : World} (h : Rp w g S 0) (hv : PartV g (TeE g 0) P v) (hP : Shr P) :
    Calls Tryz.prog 131 #[.pointer (some ⟨g, 0, none⟩), v] w (TeL eExpr g w (runP (listP P) S)) := by
  have hgl := h.lt
  obtain ⟨N, rfl, hN, hc⟩ := hv
  have H1 : Hid _ := hid (hc S w h)
  have HP : Hid (∀ S w, Rp w g S 0 → _) := hid hc
  have hf := h.few
  generalize hR : runP (listP P) S = R at *
  have HR : Hid (∀ (cs : List Value) (E : Tr → List Value → Prop), (∀ t r, runP P S = .inr (t, r) → E t cs) → LiR P R (stO (runP P S)) [cs] E) := hid fun cs E k => hR ▸ LiR.start k
  clear h hc hR
  go_enter Tryz.func131, Tryz.ntmps131
  go_wp2_with fail
  refine Calls.mono H1.out ?_
  rintro e w1 ⟨o1, p1, a1, l1, c1, rfl, hb1, hr1, hx1⟩
  have hsz1 := hb1.size
  have hr2 := hr1.alloc (.cells #[.int .i64 o1, .int .i64 p1.1, .int .i64 p1.2.1, .string p1.2.2.1, .string p1.2.2.2.1, .string p1.2.2.2.2, .slice a1 l1 c1] 80)
  have hB2 := hb1.alloc (.cells #[.int .i64 o1, .int .i64 p1.1, .int .i64 p1.2.1, .string p1.2.2.1, .string p1.2.2.2.1, .string p1.2.2.2.2, .slice a1 l1 c1] 80)
  have ho2 := OwnR.lit 80 7 w.heap.size w1 [.int .i64 o1, .int .i64 p1.1, .int .i64 p1.2.1, .string p1.2.2.1, .string p1.2.2.2.1, .string p1.2.2.2.2, .slice a1 l1 c1] rfl hsz1
  have HE : Hid (LiR P R (stO (runP P S)) [[.int .i64 o1, .int .i64 p1.1, .int .i64 p1.2.1, .string p1.2.2.1, .string p1.2.2.2.1, .string p1.2.2.2.2, .slice a1 l1 c1]] fun t cs => eExpr.E (fun b => w.heap.size ≤ b ∧ some b ≠ some w1.heap.size) (w1.alloc (.cells #[.int .i64 o1, .int .i64 p1.1, .int .i64 p1.2.1, .string p1.2.2.1, .string p1.2.2.2.1, .string p1.2.2.2.2, .slice a1 l1 c1] 80)) t cs) := hid (HR.out _ _ fun t r e => ⟨o1, p1, a1, l1, c1, rfl, ((hx1 t r e).mono fun k hk hk2 => ⟨hk, by simp; omega⟩).later (bal (Below.refl _ w1) _)⟩)
  have hf1 : ([[.int .i64 o1, .int .i64 p1.1, .int .i64 p1.2.1, .string p1.2.2.1, .string p1.2.2.2.1, .string p1.2.2.2.2, .slice a1 l1 c1]] : List (List Value)).length + szS (stO (runP P S)) ≤ 501 := by
    have := hr1.few
    simp only [List.length_singleton]
    omega
  generalize stO (runP P S) = S1 at *
  clear H1 HR hx1 hb1 hr1
  unfold exV
  go_wp2
  go_loopw [5] (fun v5 wr => ∃ (S1 : Sa) (css : List (List Value)), Rp wr g S1 0 ∧ But g w wr ∧ OwnR 80 7 w.heap.size wr v5 css ∧ css ≠ [] ∧ css.length + szS S1 ≤ 501 ∧ css.length ≤ 501 ∧ Hid (LiR P R S1 css fun t cs => eExpr.E (fun b => w.heap.size ≤ b ∧ some b ≠ v5.ownBlock) wr t cs)) (fun _ wr => szW g wr)
  case atStart => exact ⟨S1, [[.int .i64 o1, .int .i64 p1.1, .int .i64 p1.2.1, .string p1.2.2.1, .string p1.2.2.2.1, .string p1.2.2.2.2, .slice a1 l1 c1]], hr2, hB2, ho2, by simp, hf1, by simp, HE⟩
  case round =>
    clear hr2 hB2 ho2 HE hf1
    obtain ⟨S2, css, hr, hB, ho, hne, hcs, hcl, HE⟩ := hrel
    have hm := hr.sz
    have HT := pTake_any hr ⟨#[44]⟩
    cases hb : takeB ⟨#[44]⟩ S2 with
    | false =>
      obtain ⟨e1, e2⟩ := HE.out.stop hb
      rw [hb, takeB_false hb] at HT
      replace HT : Hid _ := hid HT
      have E1 : Hid _ := hid e1
      have E2 : Hid _ := hid e2
      have hblk := ho.blk
      clear hb e1 e2 HE hm hr
      go_wp2_with fail
      refine Calls.mono HT.out ?_
      rintro e w3 ⟨rfl, hr3, hb3⟩
      have hB3 := hB.trans hb3
      have ho3 := ho.but hb3 (by omega)
      rcases ho3.2.2 with ⟨rfl, h0⟩ | ⟨gg, cap, cur, rfl, hrest⟩
      · exact absurd (List.eq_nil_of_length_eq_zero h0) hne
      · clear HT
        go_wp2
        go_ret
        refine ⟨_, _, _, rfl, hB3, by rw [E1.out]; exact hr3, fun l r e => ?_⟩
        obtain ⟨h1, h2⟩ := E2.out l r e
        exact OwnR.row (e := eExpr) ho3 h1 hne (fun b hb _ => hb) fun i a b => eExpr.keep (fun b hb hlt => hb3.block b hlt (by omega)) (eExpr.mono (fun b hb _ => hb.1) (h2 i a b))
    | true =>
      obtain ⟨t, ts, rfl, ht, hT⟩ := takeB_true hb
      obtain ⟨hle, hgo⟩ := HE.out.go hP hb
      rw [hb, hT] at HT
      replace HT : Hid _ := hid HT
      have HG : Hid _ := hid hgo
      have HS : Hid _ := hid hle
      have hm' : szW g wr = ts.length + 1 := hm
      have hcs' : css.length + (ts.length + 1) ≤ 501 := hcs
      clear hb hle hgo HE hT hr hm hcs
      go_wp2_with fail
      refine Calls.mono HT.out ?_
      rintro e w3 ⟨rfl, hr3, hb3⟩
      have hB3 := hB.trans hb3
      have ho3 := ho.but hb3 (by omega)
      have HC : Hid _ := hid (HP.out _ _ hr3)
      clear HT
      go_wp2_with fail
      refine Calls.mono HC.out ?_
      rintro e w4 ⟨o1, p1, a1, l1, c1, rfl, hb4, hr4, hx4⟩
      have hB4 := hB3.trans hb4
      have ho4 := ho3.but hb4 (by omega)
      have hr5 := hr4.alloc (.cells #[.int .i64 o1, .int .i64 p1.1, .int .i64 p1.2.1, .string p1.2.2.1, .string p1.2.2.2.1, .string p1.2.2.2.2, .slice a1 l1 c1] 80)
      have hB5 := hB4.alloc (.cells #[.int .i64 o1, .int .i64 p1.1, .int .i64 p1.2.1, .string p1.2.2.1, .string p1.2.2.2.1, .string p1.2.2.2.2, .slice a1 l1 c1] 80)
      have ho5 := ho4.alloc (.cells #[.int .i64 o1, .int .i64 p1.1, .int .i64 p1.2.1, .string p1.2.2.1, .string p1.2.2.2.1, .string p1.2.2.2.2, .slice a1 l1 c1] 80)
      have hblk := ho3.blk
      have hsz4 := hb4.size
      have hwr := hB.size
      unfold exV
      clear hr3 hr4 ho ho3 ho4 hB hB3 hB4
      go_wp2_with (first | (at_builtin; refine wpList_appR Tryz.underlying25 Tryz.infoTExpr rfl (by decide) (by decide) rfl (.tmp 11) (.tmp 14) rfl _ css w4.heap.size [.int .i64 o1, .int .i64 p1.1, .int .i64 p1.2.1, .string p1.2.2.1, .string p1.2.2.2.1, .string p1.2.2.2.2, .slice a1 l1 c1] rfl rfl ho5 rfl (by simp [Value.oneCell']) ?_ (by omega) hB5.size ?_) | fail)
      · intro j hj
        have hj' : j < 7 := hj
        match j, hj' with
        | 0, _ => exact cell_new w4 _ _ _ 0
        | 1, _ => exact cell_new w4 _ _ _ 1
        | 2, _ => exact cell_new w4 _ _ _ 2
        | 3, _ => exact cell_new w4 _ _ _ 3
        | 4, _ => exact cell_new w4 _ _ _ 4
        | 5, _ => exact cell_new w4 _ _ _ 5
        | 6, _ => exact cell_new w4 _ _ _ 6
      · intro v' w6 hO6 hg6 hown
        have hB6 := hB5.grown hg6 fun k e => (hblk k e).1
        have hr6 := hr5.grown hg6 fun k e => by have := (hblk k e).1; omega
        have HN : Hid _ := hid (HG.out [.int .i64 o1, .int .i64 p1.1, .int .i64 p1.2.1, .string p1.2.2.1, .string p1.2.2.2.1, .string p1.2.2.2.2, .slice a1 l1 c1] (fun t cs => eExpr.E (fun b => w.heap.size ≤ b ∧ some b ≠ v'.ownBlock) w6 t cs)
          (fun u ds hE => eExpr.grow (eExpr.keep (w' := w4.alloc (.cells #[.int .i64 o1, .int .i64 p1.1, .int .i64 p1.2.1, .string p1.2.2.1, .string p1.2.2.2.1, .string p1.2.2.2.2, .slice a1 l1 c1] 80)) (fun b hq hlt => (bal (Below.refl _ w4) _).block b hlt) (eExpr.keep (w' := w4) (fun b hq hlt => hb4.block b hlt (by omega)) (eExpr.keep (w' := w3) (fun b hq hlt => hb3.block b hlt (by omega)) hE))) hg6 (by simpa using hown))
          (fun u r e => eExpr.grow (eExpr.keep (w' := w4.alloc (.cells #[.int .i64 o1, .int .i64 p1.1, .int .i64 p1.2.1, .string p1.2.2.1, .string p1.2.2.2.1, .string p1.2.2.2.2, .slice a1 l1 c1] 80)) (fun b hq hlt => (bal (Below.refl _ w4) _).block b hlt) (eExpr.mono (Q := fun b => w3.heap.size ≤ b) (fun b hq _ => ⟨by have := hb3.size; have := hwr; omega, fun k => by have := (hblk b k.symm).2; omega⟩) (⟨o1, p1, a1, l1, c1, rfl, hx4 u r e⟩))) hg6 (by simpa using hown)))
        have hm6 := hr6.sz
        have hs6 : szS (stO (P ts)) ≤ ts.length := HS.out
        clear HG HC hg6 hown hr5 hB5 ho5 hx4 hb4 hb3 hblk
        go_wp2
        go_roundw
        case rel => exact ⟨stO (P ts), css ++ [[.int .i64 o1, .int .i64 p1.1, .int .i64 p1.2.1, .string p1.2.2.1, .string p1.2.2.2.1, .string p1.2.2.2.2, .slice a1 l1 c1]], hr6, hB6, hO6, by simp, by simp only [List.length_append, List.length_singleton]; omega, by simp only [List.length_append, List.length_singleton]; omega, HN⟩
        case measure =>
          have hm7 : szW g w6 = szS (stO (P ts)) := hm6
          omega

end Go.Proofs.YtjlmcnbmhgabpaaGreat
