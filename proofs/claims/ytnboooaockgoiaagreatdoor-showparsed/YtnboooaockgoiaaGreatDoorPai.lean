import Derived.Test.YtnboooaockgoiaaGreatDoorPah
namespace Go.Proofs.YtnboooaockgoiaaGreatDoor
open Go.RowKit
set_option linter.unusedVariables false

def LiR {α : Type} (P : List Tk → Re α) (R : Re (List α)) (S : Sa) (css : List (List Value)) (E : α → List Value → Prop) : Prop :=
  (∃ e, S = .inl e ∧ R = .inl e) ∨ ∃ ts l k, S = .inr ts ∧ ts.length ≤ k ∧ R = listL P k l ts ∧ l.length = css.length ∧ ∀ i (h1 : i < l.length) (h2 : i < css.length), E l[i] css[i]
theorem LiR.start {α : Type} {P : List Tk → Re α} {S : Sa} {cs : List Value} {E : α → List Value → Prop} (h : ∀ t r, runP P S = .inr (t, r) → E t cs) : LiR P (runP (listP P) S) (stO (runP P S)) [cs] E := by
  match S with
  | .inl x => exact .inl ⟨x, rfl, rfl⟩
  | .inr ts =>
    have e1 : runP P (.inr ts) = P ts := rfl
    have e2 : runP (listP P) (.inr ts) = thenR (P ts) fun x r => listL P r.length [x] r := rfl
    rw [e1] at h
    rw [e1, e2]
    cases hp : P ts with
    | inl x => exact .inl ⟨x, rfl, rfl⟩
    | inr x =>
      refine .inr ⟨x.2, [x.1], x.2.length, rfl, Nat.le_refl _, rfl, rfl, fun i h1 h2 => ?_⟩
      have : i = 0 := by simp at h1; omega
      subst this
      exact h x.1 x.2 hp
theorem LiR.stop {α : Type} {P : List Tk → Re α} {R : Re (List α)} {S : Sa} {css : List (List Value)} {E : α → List Value → Prop} (h : LiR P R S css E) (hz : takeB ⟨#[44]⟩ S = false) : stO R = S ∧ ∀ l r, R = .inr (l, r) → l.length = css.length ∧ ∀ i (h1 : i < l.length) (h2 : i < css.length), E l[i] css[i] := by
  rcases h with ⟨e, rfl, rfl⟩ | ⟨ts, l, k, rfl, hk, hR, hl, hE⟩
  · exact ⟨rfl, fun t r e => by cases e⟩
  · have hz' : isTk ⟨#[44]⟩ ts = false := hz
    have e : listL P k l ts = .inr (l, ts) := by
      cases k with
      | zero => rfl
      | succ k => rw [listL, if_neg (by rw [hz']; simp)]
    rw [hR, e]
    exact ⟨rfl, fun t' r e => by cases e; exact ⟨hl, hE⟩⟩
theorem LiR.go {α : Type} {P : List Tk → Re α} {R : Re (List α)} {t : Tk} {ts : List Tk} {css : List (List Value)} {E : α → List Value → Prop} (hP : Shr P) (h : LiR P R (.inr (t :: ts)) css E) (hz : takeB ⟨#[44]⟩ (.inr (t :: ts)) = true) : szS (stO (P ts)) ≤ ts.length ∧
    ∀ (cs : List Value) (E' : α → List Value → Prop), (∀ u ds, E u ds → E' u ds) → (∀ u r, P ts = .inr (u, r) → E' u cs) → LiR P R (stO (P ts)) (css ++ [cs]) E' := by
  rcases h with ⟨e, he, _⟩ | ⟨ts', l, k, he, hk, hR, hl, hE⟩
  · cases he
  · cases he
    have hz' : isTk ⟨#[44]⟩ (t :: ts) = true := hz
    refine ⟨?_, fun cs E' hm hn => ?_⟩
    · cases hp : P ts with
      | inl y => exact Nat.zero_le _
      | inr y => exact hP ts y.1 y.2 hp
    · cases k with
      | zero => simp at hk
      | succ k =>
        rw [listL, if_pos hz'] at hR
        have hR2 : R = thenR (P ts) fun y r' => listL P k (l ++ [y]) r' := hR
        rw [hR2]
        cases hp : P ts with
        | inl y => exact .inl ⟨y, rfl, rfl⟩
        | inr y =>
          have := hP ts y.1 y.2 hp
          refine .inr ⟨y.2, l ++ [y.1], k, rfl, by simp at hk; omega, rfl, by simp [hl], fun i h1 h2 => ?_⟩
          by_cases hi : i < l.length
          · rw [List.getElem_append_left hi, List.getElem_append_left (by omega)]
            exact hm _ _ (hE i hi (by omega))
          · rw [List.length_append, List.length_singleton] at h1
            obtain rfl : i = l.length := by omega
            rw [List.getElem_append_right (Nat.le_refl _), List.getElem_append_right (by omega)]
            simpa [hl] using hn y.1 y.2 hp
theorem But.grown {g : Nat} {w w3 w4 : World} {row : Option Nat} (h : But g w w3) (hg : w3.grownBy w4 row) (hrow : ∀ k, row = some k → w.heap.size ≤ k) : But g w w4 :=
  ⟨hg.os.trans h.os, hg.tape.trans h.tape, hg.output.trans h.output, Nat.le_trans h.size hg.size, fun k hk hgk => (hg.block k (Nat.lt_of_lt_of_le hk h.size) (fun e => by have := hrow k e.symm; omega)).trans (h.block k hk hgk)⟩
theorem Ek.grow {α : Type} (e : Ek α) {w5 w6 : World} {B : Nat} {row own : Option Nat} {u : α} {ds : List Value} (hE : e.E (fun b => B ≤ b ∧ some b ≠ row) w5 u ds) (hg : w5.grownBy w6 row) (hown : own = row ∨ own = some w5.heap.size) : e.E (fun b => B ≤ b ∧ some b ≠ own) w6 u ds :=
  e.mono (fun b hq _ => ⟨hq.1, hq.2.2⟩) (e.keep (w := w5) (fun b hq hlt => hg.block b hlt hq.2.1) (e.mono (Q' := fun b => B ≤ b ∧ some b ≠ row ∧ some b ≠ own) (fun b hq hlt => ⟨hq.1, hq.2, by
    rcases hown with h | h
    · rw [h]; exact hq.2
    · rw [h]; simp; omega⟩) hE))
theorem OwnR.blk {ty k B : Nat} {w : World} {v : Value} {css : List (List Value)} (h : OwnR ty k B w v css) : ∀ b, v.ownBlock = some b → B ≤ b ∧ b < w.heap.size := fun b e => World.ownsRow.lt h.2 b e

theorem Tryz.infoTExpr : (Tryz.prog.info? 43).map (fun i => (i.zero, i.size, i.bytes)) = some (some (.agg #[.int .i64 0, .int .i64 0, .int .i64 0, .string ⟨#[]⟩, .string ⟨#[]⟩, .string ⟨#[]⟩, .slice none 0 0]), 7, 96) := by kernel_rfl
end Go.Proofs.YtnboooaockgoiaaGreatDoor
namespace Go.Proofs.YtnboooaockgoiaaGreatDoor
open Go.RowKit
set_option linter.unusedVariables false

theorem Tryz.infoTTag : (Tryz.prog.info? 74).map (fun i => (i.zero, i.size, i.bytes)) = some (some (.int .u16 0), 1, 2) := by kernel_rfl
end Go.Proofs.YtnboooaockgoiaaGreatDoor
namespace Go.Proofs.YtnboooaockgoiaaGreatDoor
open Go.RowKit
set_option linter.unusedVariables false

theorem Tryz.infoTCol : (Tryz.prog.info? 62).map (fun i => (i.zero, i.size, i.bytes)) = some (some (.agg #[.string ⟨#[]⟩, .int .i64 0, .string ⟨#[]⟩]), 3, 40) := by kernel_rfl
end Go.Proofs.YtnboooaockgoiaaGreatDoor
namespace Go.Proofs.YtnboooaockgoiaaGreatDoor
open Go.RowKit
set_option linter.unusedVariables false

theorem Tryz.infoTItem : (Tryz.prog.info? 64).map (fun i => (i.zero, i.size, i.bytes)) = some (some (.agg #[.int .i64 0, .string ⟨#[]⟩, .string ⟨#[]⟩]), 3, 40) := by kernel_rfl
end Go.Proofs.YtnboooaockgoiaaGreatDoor
namespace Go.Proofs.YtnboooaockgoiaaGreatDoor
open Go.RowKit
set_option linter.unusedVariables false

theorem wantU_st (s : ByteArray) (S : Sa) : stO (runP (wantU s) S) = wantS s S := by
  match S with
  | .inl x => rfl
  | .inr ts =>
    show stO (wantU s ts) = _
    rw [wantU, wantS]
    split <;> rfl
theorem seq_st {α β γ : Type} (f : α → β → γ) (P : List Tk → Re α) (P' : List Tk → Re β) (S : Sa) : stO (runP (seqP f P P') S) = stO (runP P' (stO (runP P S))) := by
  match S with
  | .inl x => rfl
  | .inr ts =>
    show stO (seqP f P P' ts) = stO (runP P' (stO (P ts)))
    rw [seqP]
    cases P ts with
    | inl x => rfl
    | inr x => exact stO_mapR _ _
theorem seq_inr {α β γ : Type} {f : α → β → γ} {P : List Tk → Re α} {P' : List Tk → Re β} {S : Sa} {t : γ} {r : List Tk} (h : runP (seqP f P P') S = .inr (t, r)) : ∃ a b q, runP P S = .inr (a, q) ∧ runP P' (stO (runP P S)) = .inr (b, r) ∧ t = f a b := by
  match S with
  | .inl x => cases h
  | .inr ts =>
    obtain ⟨a, q, h1, h2⟩ := thenR_inr (x := P ts) (f := fun a r => mapR (f a) (P' r)) h
    obtain ⟨b, h3, h4⟩ := mapR_inr h2
    have e : runP P (.inr ts) = .inr (a, q) := h1
    exact ⟨a, b, q, e, by rw [e]; exact h3, h4⟩
theorem opt_true {α : Type} {s : ByteArray} {z : α} {P : List Tk → Re α} {S : Sa} (h : takeB s S = true) : runP (optP s z P) S = runP P (takeS s S) := by
  match S with
  | .inl x => cases h
  | .inr ts =>
    have h' : isTk s ts = true := h
    show optP s z P ts = runP P (if isTk s ts then .inr ts.tail else .inr ts)
    rw [optP, if_pos h', if_pos h']
    rfl
theorem opt_false {α : Type} {s : ByteArray} {z : α} {P : List Tk → Re α} {S : Sa} (h : takeB s S = false) : stO (runP (optP s z P) S) = S ∧ ∀ t r, runP (optP s z P) S = .inr (t, r) → t = z := by
  match S with
  | .inl x => exact ⟨rfl, fun t r e => by cases e⟩
  | .inr ts =>
    have h' : isTk s ts = false := h
    have e : runP (optP s z P) (.inr ts) = .inr (z, ts) := by
      show optP s z P ts = _
      rw [optP, if_neg (by rw [h']; simp)]
    rw [e]
    exact ⟨rfl, fun t r e => by cases e; rfl⟩
theorem map_run {α β : Type} (f : α → β) (P : List Tk → Re α) (S : Sa) : runP (fun r => mapR f (P r)) S = mapR f (runP P S) := by cases S <;> rfl
theorem RowIs.later {α : Type} {e : Ek α} (he : 0 < e.k) {Q : Nat → Prop} {w w' : World} {v : Value} {l : List α} (h : RowIs e Q w v l) (hb : Below w.heap.size w w') : RowIs e Q w' v l := h.keep he fun b _ hlt => hb.block b hlt
/-- A slice of one expression, new. -/
theorem row_one (w : World) (t : Tr) (o : Int) (p : Pay) (a : Option Addr) (m c : Nat) (Q : Nat → Prop) (hq : Q w.heap.size) (h : Ex Q w t (exV o p (.slice a m c))) :
    RowIs eExpr Q (w.alloc (.cells #[.int .i64 o, .int .i64 p.1, .int .i64 p.2.1, .string p.2.2.1, .string p.2.2.2.1, .string p.2.2.2.2, .slice a m c] 43)) (.slice (some ⟨w.heap.size, 0, none⟩) 1 1) [t] := by
  refine ⟨_, 1, 1, rfl, rfl, Nat.le_refl _, by omega, fun _ => ⟨w.heap.size, 0, rfl, hq, fun i hi => ?_⟩⟩
  obtain rfl : i = 0 := by simp at hi; omega
  refine ⟨exC o p (.slice a m c), ⟨o, p, a, m, c, rfl, h.later (bal (Below.refl _ w) _)⟩, rfl, fun j hj => ?_⟩
  have hj' : j < 7 := hj
  match j, hj' with
  | 0, _ => exact cell_new w _ _ _ 0
  | 1, _ => exact cell_new w _ _ _ 1
  | 2, _ => exact cell_new w _ _ _ 2
  | 3, _ => exact cell_new w _ _ _ 3
  | 4, _ => exact cell_new w _ _ _ 4
  | 5, _ => exact cell_new w _ _ _ 5
  | 6, _ => exact cell_new w _ _ _ 6

end Go.Proofs.YtnboooaockgoiaaGreatDoor
namespace Go.Proofs.YtnboooaockgoiaaGreatDoor
open Go.RowKit
set_option linter.unusedVariables false

/-- A block of three cells. -/
structure Bt (w : World) (b ty : Nat) (x y z : Value) : Prop where
  row : w.heap[b]? = some (.cells #[x, y, z] ty (0, 0))
theorem Bt.new (w : World) (ty : Nat) (x y z : Value) : Bt (w.alloc (.cells #[x, y, z] ty)) w.heap.size ty x y z := ⟨heap_alloc_new w _⟩
theorem Bt.lt {w : World} {b ty : Nat} {x y z : Value} (h : Bt w b ty x y z) : b < w.heap.size := (Array.getElem?_eq_some_iff.1 h.row).1
theorem Bt.keep {w w' : World} {b ty : Nat} {x y z : Value} (h : Bt w b ty x y z) (hk : w'.heap[b]? = w.heap[b]?) : Bt w' b ty x y z := ⟨hk.trans h.row⟩
theorem Bt.later {w w' : World} {b ty : Nat} {x y z : Value} (h : Bt w b ty x y z) (hb : Below w.heap.size w w') : Bt w' b ty x y z := h.keep (hb.block b h.lt)
theorem Bt.but {w w' : World} {b ty g : Nat} {x y z : Value} (h : Bt w b ty x y z) (hb : But g w w') (hg : b ≠ g) : Bt w' b ty x y z := h.keep (hb.block b h.lt hg)
theorem Bt.cells {w : World} {b ty : Nat} {x y z : Value} (h : Bt w b ty x y z) : w.cell? ⟨b, 0, none⟩ = some x ∧ w.cell? ⟨b, 1, none⟩ = some y ∧ w.cell? ⟨b, 2, none⟩ = some z := by
  unfold World.cell?; rw [h.row]; exact ⟨rfl, rfl, rfl⟩
theorem Bt.free {w : World} {b ty : Nat} {x y z : Value} (h : Bt w b ty x y z) : w.frozen? ⟨b, 0, none⟩ = false ∧ w.frozen? ⟨b, 1, none⟩ = false ∧ w.frozen? ⟨b, 2, none⟩ = false := by
  unfold World.frozen?; rw [h.row]; exact ⟨rfl, rfl, rfl⟩
theorem Bt.set1 {w : World} {b ty : Nat} {x y z : Value} (h : Bt w b ty x y z) (v : Value) : Bt (w.setCell ⟨b, 1, none⟩ v) b ty x v z := ⟨by simp [World.setCell, Array.getElem?_modify, h.row]⟩
theorem Bt.set2 {w : World} {b ty : Nat} {x y z : Value} (h : Bt w b ty x y z) (v : Value) : Bt (w.setCell ⟨b, 2, none⟩ v) b ty x y v := ⟨by simp [World.setCell, Array.getElem?_modify, h.row]⟩
theorem Bt.other {w : World} {b ty : Nat} {x y z : Value} (h : Bt w b ty x y z) {r : Nat} (hr : b ≠ r) (o : Nat) (v : Value) : Bt (w.setCell ⟨r, o, none⟩ v) b ty x y z := h.keep (Below.heap_setCell _ _ _ _ hr)
def set3 (w : World) (b : Nat) (x y z : Value) : World := ((w.setCell ⟨b, 0, none⟩ x).setCell ⟨b, 1, none⟩ y).setCell ⟨b, 2, none⟩ z
theorem But.set3 {g : Nat} {a w : World} (h : But g a w) {b : Nat} (hb : a.heap.size ≤ b) (x y z : Value) : But g a (set3 w b x y z) := ((h.new hb 0 _).new hb 1 _).new hb 2 _
theorem sz_set (w : World) (a : Addr) (v : Value) : (w.setCell a v).heap.size = w.heap.size := by simp [World.setCell]

end Go.Proofs.YtnboooaockgoiaaGreatDoor
namespace Go.Proofs.YtnboooaockgoiaaGreatDoor
open Go.RowKit
set_option linter.unusedVariables false

theorem col_st (S : Sa) : stO (runP colP S) = stO (runP (optP ⟨#[114, 101, 102]⟩ ⟨#[]⟩ nameP) (stO (runP (choiceP opsKind) (stO (runP nameP S))))) := by rw [colP, seq_st, seq_st]
theorem col_inr {S : Sa} {t : Co} {r : List Tk} (h : runP colP S = .inr (t, r)) : ∃ n q k q2 f, runP nameP S = .inr (n, q) ∧ runP (choiceP opsKind) (stO (runP nameP S)) = .inr (k, q2) ∧ runP (optP ⟨#[114, 101, 102]⟩ ⟨#[]⟩ nameP) (stO (runP (choiceP opsKind) (stO (runP nameP S)))) = .inr (f, r) ∧ t = (n, k, f) := by
  obtain ⟨n, x, q, h1, h2, rfl⟩ := seq_inr h
  obtain ⟨k, f, q2, h3, h4, rfl⟩ := seq_inr h2
  exact ⟨n, q, k, q2, f, h1, h3, h4, rfl⟩

end Go.Proofs.YtnboooaockgoiaaGreatDoor
namespace Go.Proofs.YtnboooaockgoiaaGreatDoor
open Go.RowKit
set_option linter.unusedVariables false

theorem ex_item {Q : Nat → Prop} {w : World} {t : Tr} {o : Int} {p : Pay} {a : Option Addr} {n c : Nat} (h : Ex Q w t (exV o p (.slice a n c))) (k : Int) : itemC k t = (k, p.2.2.2.1, p.2.2.2.2) := by
  cases t with
  | nil => exact h.elim
  | node x op q l r =>
    obtain ⟨ao, n', c', hv, _⟩ := h
    simp only [exV, Value.agg.injEq, Array.mk.injEq, List.cons.injEq, Value.int.injEq, Value.string.injEq, true_and] at hv
    rw [itemC, hv.2.2.2.2.1, hv.2.2.2.2.2.1]
theorem item_count {S : Sa} (h : takeB ⟨#[99, 111, 117, 110, 116]⟩ S = true) : runP itemP S = runP (seqP (fun _ _ => ((1, ⟨#[]⟩, ⟨#[]⟩) : It)) (wantU ⟨#[40]⟩) (seqP (fun _ _ => ()) (wantU ⟨#[42]⟩) (wantU ⟨#[41]⟩))) (takeS ⟨#[99, 111, 117, 110, 116]⟩ S) := by
  match S with
  | .inl x => cases h
  | .inr ts =>
    have h' : isTk ⟨#[99, 111, 117, 110, 116]⟩ ts = true := h
    show itemP ts = runP _ (if isTk ⟨#[99, 111, 117, 110, 116]⟩ ts then .inr ts.tail else .inr ts)
    rw [itemP, if_pos h', if_pos h']
    rfl
theorem item_col {S : Sa} (h : takeB ⟨#[99, 111, 117, 110, 116]⟩ S = false) (h2 : oneB opsAgg S = 0) : runP itemP S = mapR (itemC 0) (runP columnP S) := by
  match S with
  | .inl x => rfl
  | .inr ts =>
    have h' : isTk ⟨#[99, 111, 117, 110, 116]⟩ ts = false := h
    have h2' : oneOf opsAgg ts = 0 := h2
    show itemP ts = _
    rw [itemP, if_neg (by rw [h']; simp), if_pos h2']
    rfl
theorem opsAgg_pos : ∀ c ∈ opsAgg, 0 < c.2 := by decide
theorem item_agg {S : Sa} (h : takeB ⟨#[99, 111, 117, 110, 116]⟩ S = false) (h2 : oneB opsAgg S ≠ 0) : runP itemP S = runP (seqP (fun _ x => itemC (oneB opsAgg S) x) (wantU ⟨#[40]⟩) (seqP (fun x _ => x) columnP (wantU ⟨#[41]⟩))) (oneS opsAgg S) := by
  match S with
  | .inl x => rfl
  | .inr ts =>
    have h' : isTk ⟨#[99, 111, 117, 110, 116]⟩ ts = false := h
    have h2' : oneOf opsAgg ts ≠ 0 := h2
    rw [(oneOf_some opsAgg_pos h2').1]
    show itemP ts = _
    rw [itemP, if_neg (by rw [h']; simp), if_neg h2']
    rfl
theorem on_st (S : Sa) : stO (runP onP S) = stO (runP columnP (wantS ⟨#[61]⟩ (stO (runP columnP (wantS ⟨#[111, 110]⟩ S))))) := by rw [onP, seq_st, wantU_st, seq_st, seq_st, wantU_st]
theorem on_inr {S : Sa} {l : List Tr} {r : List Tk} (h : runP onP S = .inr (l, r)) : ∃ a b q, runP columnP (wantS ⟨#[111, 110]⟩ S) = .inr (a, q) ∧ runP columnP (wantS ⟨#[61]⟩ (stO (runP columnP (wantS ⟨#[111, 110]⟩ S)))) = .inr (b, r) ∧ l = [a, b] := by
  obtain ⟨_, l', q, _, h2, rfl⟩ := seq_inr h
  obtain ⟨a, b, q2, h3, h4, rfl⟩ := seq_inr h2
  obtain ⟨_, b', q3, _, h6, rfl⟩ := seq_inr h4
  rw [wantU_st] at h3 h6
  rw [wantU_st] at h6
  exact ⟨a, b, q2, h3, h6, rfl⟩
/-- A slice of two expressions, new. -/
theorem row_two (w : World) (t u : Tr) (o : Int) (p : Pay) (a : Option Addr) (m c : Nat) (o' : Int) (p' : Pay) (a' : Option Addr) (m' c' : Nat) (Q : Nat → Prop) (hq : Q w.heap.size) (h : Ex Q w t (exV o p (.slice a m c))) (k : Ex Q w u (exV o' p' (.slice a' m' c'))) :
    RowIs eExpr Q (w.alloc (.cells #[.int .i64 o, .int .i64 p.1, .int .i64 p.2.1, .string p.2.2.1, .string p.2.2.2.1, .string p.2.2.2.2, .slice a m c, .int .i64 o', .int .i64 p'.1, .int .i64 p'.2.1, .string p'.2.2.1, .string p'.2.2.2.1, .string p'.2.2.2.2, .slice a' m' c'] 43)) (.slice (some ⟨w.heap.size, 0, none⟩) 2 2) [t, u] := by
  refine ⟨_, 2, 2, rfl, rfl, Nat.le_refl _, by omega, fun _ => ⟨w.heap.size, 0, rfl, hq, fun i hi => ?_⟩⟩
  have hi' : i < 2 := hi
  match i, hi' with
  | 0, _ =>
    refine ⟨exC o p (.slice a m c), ⟨o, p, a, m, c, rfl, h.later (bal (Below.refl _ w) _)⟩, rfl, fun j hj => ?_⟩
    have hj' : j < 7 := hj
    match j, hj' with
    | 0, _ => exact cell_new w _ _ _ 0
    | 1, _ => exact cell_new w _ _ _ 1
    | 2, _ => exact cell_new w _ _ _ 2
    | 3, _ => exact cell_new w _ _ _ 3
    | 4, _ => exact cell_new w _ _ _ 4
    | 5, _ => exact cell_new w _ _ _ 5
    | 6, _ => exact cell_new w _ _ _ 6
  | 1, _ =>
    refine ⟨exC o' p' (.slice a' m' c'), ⟨o', p', a', m', c', rfl, k.later (bal (Below.refl _ w) _)⟩, rfl, fun j hj => ?_⟩
    have hj' : j < 7 := hj
    match j, hj' with
    | 0, _ => exact cell_new w _ _ _ 7
    | 1, _ => exact cell_new w _ _ _ 8
    | 2, _ => exact cell_new w _ _ _ 9
    | 3, _ => exact cell_new w _ _ _ 10
    | 4, _ => exact cell_new w _ _ _ 11
    | 5, _ => exact cell_new w _ _ _ 12
    | 6, _ => exact cell_new w _ _ _ 13

theorem order_st (S : Sa) : stO (runP orderP S) = stO (runP columnP (wantS ⟨#[98, 121]⟩ S)) := by rw [orderP, seq_st, wantU_st, map_run, stO_mapR]
theorem order_inr {S : Sa} {l : List Tr} {r : List Tk} (h : runP orderP S = .inr (l, r)) : ∃ a, runP columnP (wantS ⟨#[98, 121]⟩ S) = .inr (a, r) ∧ l = [a] := by
  obtain ⟨_, l', q, _, h2, rfl⟩ := seq_inr h
  rw [wantU_st, map_run] at h2
  obtain ⟨a, h3, h4⟩ := mapR_inr h2
  exact ⟨a, h3, h4⟩
end Go.Proofs.YtnboooaockgoiaaGreatDoor
namespace Go.Proofs.YtnboooaockgoiaaGreatDoor
open Go.RowKit
set_option linter.unusedVariables false

/-- A slice's address, length, capacity. -/
abbrev Sl := Option Addr × Nat × Nat
abbrev slV (s : Sl) : Value := .slice s.1 s.2.1 s.2.2
/-- The cells of a statement. -/
structure Sv where
  k : Int
  tb : ByteArray
  nm : ByteArray
  co : Sl
  ta : Sl
  va : Sl
  it : Sl
  jn : ByteArray
  on : Sl
  wh : Sl
  od : Sl
  ds : Bool
  inn : Sl
def stV (s : Sv) : Value := .agg #[.int .i64 s.k, .string s.tb, .string s.nm, .slice s.co.1 s.co.2.1 s.co.2.2, .slice s.ta.1 s.ta.2.1 s.ta.2.2, .slice s.va.1 s.va.2.1 s.va.2.2, .slice s.it.1 s.it.2.1 s.it.2.2, .string s.jn, .slice s.on.1 s.on.2.1 s.on.2.2, .slice s.wh.1 s.wh.2.1 s.wh.2.2, .slice s.od.1 s.od.2.1 s.od.2.2, .bool s.ds, .slice s.inn.1 s.inn.2.1 s.inn.2.2]
def svC (s : Sv) : List Value := [.int .i64 s.k, .string s.tb, .string s.nm, .slice s.co.1 s.co.2.1 s.co.2.2, .slice s.ta.1 s.ta.2.1 s.ta.2.2, .slice s.va.1 s.va.2.1 s.va.2.2, .slice s.it.1 s.it.2.1 s.it.2.2, .string s.jn, .slice s.on.1 s.on.2.1 s.on.2.2, .slice s.wh.1 s.wh.2.1 s.wh.2.2, .slice s.od.1 s.od.2.1 s.od.2.2, .bool s.ds, .slice s.inn.1 s.inn.2.1 s.inn.2.2]
abbrev zS (k : Int) : Sv := ⟨k, ⟨#[]⟩, ⟨#[]⟩, (none, 0, 0), (none, 0, 0), (none, 0, 0), (none, 0, 0), ⟨#[]⟩, (none, 0, 0), (none, 0, 0), (none, 0, 0), false, (none, 0, 0)⟩
structure Bs (w : World) (b : Nat) (s : Sv) : Prop where
  row : w.heap[b]? = some (.cells #[.int .i64 s.k, .string s.tb, .string s.nm, .slice s.co.1 s.co.2.1 s.co.2.2, .slice s.ta.1 s.ta.2.1 s.ta.2.2, .slice s.va.1 s.va.2.1 s.va.2.2, .slice s.it.1 s.it.2.1 s.it.2.2, .string s.jn, .slice s.on.1 s.on.2.1 s.on.2.2, .slice s.wh.1 s.wh.2.1 s.wh.2.2, .slice s.od.1 s.od.2.1 s.od.2.2, .bool s.ds, .slice s.inn.1 s.inn.2.1 s.inn.2.2] 48 (0, 0))
theorem Bs.new (w : World) (s : Sv) : Bs (w.alloc (.cells #[.int .i64 s.k, .string s.tb, .string s.nm, .slice s.co.1 s.co.2.1 s.co.2.2, .slice s.ta.1 s.ta.2.1 s.ta.2.2, .slice s.va.1 s.va.2.1 s.va.2.2, .slice s.it.1 s.it.2.1 s.it.2.2, .string s.jn, .slice s.on.1 s.on.2.1 s.on.2.2, .slice s.wh.1 s.wh.2.1 s.wh.2.2, .slice s.od.1 s.od.2.1 s.od.2.2, .bool s.ds, .slice s.inn.1 s.inn.2.1 s.inn.2.2] 48)) w.heap.size s := ⟨heap_alloc_new w _⟩
theorem Bs.lt {w : World} {b : Nat} {s : Sv} (h : Bs w b s) : b < w.heap.size := (Array.getElem?_eq_some_iff.1 h.row).1
theorem Bs.keep {w w' : World} {b : Nat} {s : Sv} (h : Bs w b s) (hk : w'.heap[b]? = w.heap[b]?) : Bs w' b s := ⟨hk.trans h.row⟩
theorem Bs.later {w w' : World} {b : Nat} {s : Sv} (h : Bs w b s) (hb : Below w.heap.size w w') : Bs w' b s := h.keep (hb.block b h.lt)
theorem Bs.but {w w' : World} {b g : Nat} {s : Sv} (h : Bs w b s) (hb : But g w w') (hg : b ≠ g) : Bs w' b s := h.keep (hb.block b h.lt hg)
theorem Bs.cells {w : World} {b : Nat} {s : Sv} (h : Bs w b s) : w.cell? ⟨b, 0, none⟩ = some (.int .i64 s.k) ∧ w.cell? ⟨b, 1, none⟩ = some (.string s.tb) ∧ w.cell? ⟨b, 2, none⟩ = some (.string s.nm) ∧ w.cell? ⟨b, 3, none⟩ = some (.slice s.co.1 s.co.2.1 s.co.2.2) ∧ w.cell? ⟨b, 4, none⟩ = some (.slice s.ta.1 s.ta.2.1 s.ta.2.2) ∧ w.cell? ⟨b, 5, none⟩ = some (.slice s.va.1 s.va.2.1 s.va.2.2) ∧ w.cell? ⟨b, 6, none⟩ = some (.slice s.it.1 s.it.2.1 s.it.2.2) ∧ w.cell? ⟨b, 7, none⟩ = some (.string s.jn) ∧ w.cell? ⟨b, 8, none⟩ = some (.slice s.on.1 s.on.2.1 s.on.2.2) ∧ w.cell? ⟨b, 9, none⟩ = some (.slice s.wh.1 s.wh.2.1 s.wh.2.2) ∧ w.cell? ⟨b, 10, none⟩ = some (.slice s.od.1 s.od.2.1 s.od.2.2) ∧ w.cell? ⟨b, 11, none⟩ = some (.bool s.ds) ∧ w.cell? ⟨b, 12, none⟩ = some (.slice s.inn.1 s.inn.2.1 s.inn.2.2) := by
  unfold World.cell?; rw [h.row]; exact ⟨rfl, rfl, rfl, rfl, rfl, rfl, rfl, rfl, rfl, rfl, rfl, rfl, rfl⟩
theorem Bs.free {w : World} {b : Nat} {s : Sv} (h : Bs w b s) : w.frozen? ⟨b, 0, none⟩ = false ∧ w.frozen? ⟨b, 1, none⟩ = false ∧ w.frozen? ⟨b, 2, none⟩ = false ∧ w.frozen? ⟨b, 3, none⟩ = false ∧ w.frozen? ⟨b, 4, none⟩ = false ∧ w.frozen? ⟨b, 5, none⟩ = false ∧ w.frozen? ⟨b, 6, none⟩ = false ∧ w.frozen? ⟨b, 7, none⟩ = false ∧ w.frozen? ⟨b, 8, none⟩ = false ∧ w.frozen? ⟨b, 9, none⟩ = false ∧ w.frozen? ⟨b, 10, none⟩ = false ∧ w.frozen? ⟨b, 11, none⟩ = false ∧ w.frozen? ⟨b, 12, none⟩ = false := by
  unfold World.frozen?; rw [h.row]; exact ⟨rfl, rfl, rfl, rfl, rfl, rfl, rfl, rfl, rfl, rfl, rfl, rfl, rfl⟩
theorem Bs.other {w : World} {b : Nat} {s : Sv} (h : Bs w b s) {r : Nat} (hr : b ≠ r) (o : Nat) (v : Value) : Bs (w.setCell ⟨r, o, none⟩ v) b s := h.keep (Below.heap_setCell _ _ _ _ hr)
theorem Bs.set1 {w : World} {b : Nat} {s : Sv} (h : Bs w b s) (v : ByteArray) : Bs (w.setCell ⟨b, 1, none⟩ (.string v)) b { s with tb := v } := ⟨by simp [World.setCell, Array.getElem?_modify, h.row]⟩
theorem Bs.set2 {w : World} {b : Nat} {s : Sv} (h : Bs w b s) (v : ByteArray) : Bs (w.setCell ⟨b, 2, none⟩ (.string v)) b { s with nm := v } := ⟨by simp [World.setCell, Array.getElem?_modify, h.row]⟩
theorem Bs.set3 {w : World} {b : Nat} {s : Sv} (h : Bs w b s) (v : Sl) : Bs (w.setCell ⟨b, 3, none⟩ (.slice v.1 v.2.1 v.2.2)) b { s with co := v } := ⟨by simp [World.setCell, Array.getElem?_modify, h.row]⟩
theorem Bs.set4 {w : World} {b : Nat} {s : Sv} (h : Bs w b s) (v : Sl) : Bs (w.setCell ⟨b, 4, none⟩ (.slice v.1 v.2.1 v.2.2)) b { s with ta := v } := ⟨by simp [World.setCell, Array.getElem?_modify, h.row]⟩
theorem Bs.set5 {w : World} {b : Nat} {s : Sv} (h : Bs w b s) (v : Sl) : Bs (w.setCell ⟨b, 5, none⟩ (.slice v.1 v.2.1 v.2.2)) b { s with va := v } := ⟨by simp [World.setCell, Array.getElem?_modify, h.row]⟩
theorem Bs.set6 {w : World} {b : Nat} {s : Sv} (h : Bs w b s) (v : Sl) : Bs (w.setCell ⟨b, 6, none⟩ (.slice v.1 v.2.1 v.2.2)) b { s with it := v } := ⟨by simp [World.setCell, Array.getElem?_modify, h.row]⟩
theorem Bs.set7 {w : World} {b : Nat} {s : Sv} (h : Bs w b s) (v : ByteArray) : Bs (w.setCell ⟨b, 7, none⟩ (.string v)) b { s with jn := v } := ⟨by simp [World.setCell, Array.getElem?_modify, h.row]⟩
theorem Bs.set8 {w : World} {b : Nat} {s : Sv} (h : Bs w b s) (v : Sl) : Bs (w.setCell ⟨b, 8, none⟩ (.slice v.1 v.2.1 v.2.2)) b { s with on := v } := ⟨by simp [World.setCell, Array.getElem?_modify, h.row]⟩
theorem Bs.set9 {w : World} {b : Nat} {s : Sv} (h : Bs w b s) (v : Sl) : Bs (w.setCell ⟨b, 9, none⟩ (.slice v.1 v.2.1 v.2.2)) b { s with wh := v } := ⟨by simp [World.setCell, Array.getElem?_modify, h.row]⟩
theorem Bs.set10 {w : World} {b : Nat} {s : Sv} (h : Bs w b s) (v : Sl) : Bs (w.setCell ⟨b, 10, none⟩ (.slice v.1 v.2.1 v.2.2)) b { s with od := v } := ⟨by simp [World.setCell, Array.getElem?_modify, h.row]⟩
theorem Bs.set11 {w : World} {b : Nat} {s : Sv} (h : Bs w b s) (v : Bool) : Bs (w.setCell ⟨b, 11, none⟩ (.bool v)) b { s with ds := v } := ⟨by simp [World.setCell, Array.getElem?_modify, h.row]⟩
theorem Bs.set12 {w : World} {b : Nat} {s : Sv} (h : Bs w b s) (v : Sl) : Bs (w.setCell ⟨b, 12, none⟩ (.slice v.1 v.2.1 v.2.2)) b { s with inn := v } := ⟨by simp [World.setCell, Array.getElem?_modify, h.row]⟩
def set13 (w : World) (b : Nat) (s : Sv) : World := (((((((((((((w.setCell ⟨b, 0, none⟩ (.int .i64 s.k)).setCell ⟨b, 1, none⟩ (.string s.tb)).setCell ⟨b, 2, none⟩ (.string s.nm)).setCell ⟨b, 3, none⟩ (.slice s.co.1 s.co.2.1 s.co.2.2)).setCell ⟨b, 4, none⟩ (.slice s.ta.1 s.ta.2.1 s.ta.2.2)).setCell ⟨b, 5, none⟩ (.slice s.va.1 s.va.2.1 s.va.2.2)).setCell ⟨b, 6, none⟩ (.slice s.it.1 s.it.2.1 s.it.2.2)).setCell ⟨b, 7, none⟩ (.string s.jn)).setCell ⟨b, 8, none⟩ (.slice s.on.1 s.on.2.1 s.on.2.2)).setCell ⟨b, 9, none⟩ (.slice s.wh.1 s.wh.2.1 s.wh.2.2)).setCell ⟨b, 10, none⟩ (.slice s.od.1 s.od.2.1 s.od.2.2)).setCell ⟨b, 11, none⟩ (.bool s.ds)).setCell ⟨b, 12, none⟩ (.slice s.inn.1 s.inn.2.1 s.inn.2.2))
theorem But.set13 {g : Nat} {a w : World} (h : But g a w) {b : Nat} (hb : a.heap.size ≤ b) (s : Sv) : But g a (set13 w b s) := (((((((((((((h.new hb 0 _).new hb 1 _).new hb 2 _).new hb 3 _).new hb 4 _).new hb 5 _).new hb 6 _).new hb 7 _).new hb 8 _).new hb 9 _).new hb 10 _).new hb 11 _).new hb 12 _)
theorem set13_heap (w : World) (b : Nat) (s : Sv) {k : Nat} (hk : k ≠ b) : (set13 w b s).heap[k]? = w.heap[k]? := by
  unfold set13
  rw [Below.heap_setCell _ _ _ _ hk, Below.heap_setCell _ _ _ _ hk, Below.heap_setCell _ _ _ _ hk, Below.heap_setCell _ _ _ _ hk, Below.heap_setCell _ _ _ _ hk, Below.heap_setCell _ _ _ _ hk, Below.heap_setCell _ _ _ _ hk, Below.heap_setCell _ _ _ _ hk, Below.heap_setCell _ _ _ _ hk, Below.heap_setCell _ _ _ _ hk, Below.heap_setCell _ _ _ _ hk, Below.heap_setCell _ _ _ _ hk, Below.heap_setCell _ _ _ _ hk]

/-- The cells are the statement. -/
structure IsS (Q : Nat → Prop) (w : World) (m : Sm) (s : Sv) : Prop where
  k : s.k = m.kind
  tb : s.tb = m.table
  nm : s.nm = m.name
  co : RowIs eCol Q w (slV s.co) m.cols
  ta : RowIs eTag Q w (slV s.ta) m.tags
  va : RowIs eExpr Q w (slV s.va) m.values
  it : RowIs eItem Q w (slV s.it) m.items
  jn : s.jn = m.join
  on : RowIs eExpr Q w (slV s.on) m.on
  wh : RowIs eExpr Q w (slV s.wh) m.wh
  od : RowIs eExpr Q w (slV s.od) m.order
  ds : s.ds = m.desc
theorem IsS.keep {Q : Nat → Prop} {w w' : World} {m : Sm} {s : Sv} (hk : ∀ b, Q b → b < w.heap.size → w'.heap[b]? = w.heap[b]?) (h : IsS Q w m s) : IsS Q w' m s :=
  ⟨h.k, h.tb, h.nm, h.co.keep (by decide) hk, h.ta.keep (by decide) hk, h.va.keep (by decide) hk, h.it.keep (by decide) hk, h.jn, h.on.keep (by decide) hk, h.wh.keep (by decide) hk, h.od.keep (by decide) hk, h.ds⟩
theorem IsS.mono {Q Q' : Nat → Prop} {w : World} {m : Sm} {s : Sv} (hk : ∀ b, Q b → b < w.heap.size → Q' b) (h : IsS Q w m s) : IsS Q' w m s :=
  ⟨h.k, h.tb, h.nm, h.co.mono (by decide) hk, h.ta.mono (by decide) hk, h.va.mono (by decide) hk, h.it.mono (by decide) hk, h.jn, h.on.mono (by decide) hk, h.wh.mono (by decide) hk, h.od.mono (by decide) hk, h.ds⟩
theorem IsS.zero (Q : Nat → Prop) (w : World) (k : Int) : IsS Q w (sm k) (zS k) :=
  ⟨rfl, rfl, rfl, RowIs.nil _ _ _, RowIs.nil _ _ _, RowIs.nil _ _ _, RowIs.nil _ _ _, rfl, RowIs.nil _ _ _, RowIs.nil _ _ _, RowIs.nil _ _ _, rfl⟩
def eStmt : Ek Sm := ⟨13, fun Q w m cs => ∃ s, cs = svC s ∧ IsS Q w m s ∧ s.inn = (none, 0, 0), fun hk ⟨s, h1, h2, h3⟩ => ⟨s, h1, h2.keep hk, h3⟩, fun hk ⟨s, h1, h2, h3⟩ => ⟨s, h1, h2.mono hk, h3⟩⟩
/-- A statement, and those that stand in it. -/
abbrev Sf := Sm × List Sm
/-- A field is filled. -/
def fillR {α : Type} (P : List Tk → Re α) (f : Sm → α → Sm) (R : Re Sm) : Re Sm := thenR R fun m r => mapR (f m) (P r)
theorem fill_st {α : Type} (P : List Tk → Re α) (f : Sm → α → Sm) (R : Re Sm) : stO (fillR P f R) = stO (runP P (stO R)) := by
  cases R with
  | inl x => rfl
  | inr x => exact stO_mapR _ _
theorem fill_inr {α : Type} {P : List Tk → Re α} {f : Sm → α → Sm} {R : Re Sm} {m' : Sm} {r : List Tk} (h : fillR P f R = .inr (m', r)) : ∃ m q x, R = .inr (m, q) ∧ runP P (stO R) = .inr (x, r) ∧ m' = f m x := by
  obtain ⟨m, q, h1, h2⟩ := thenR_inr h
  obtain ⟨x, h3, h4⟩ := mapR_inr h2
  subst h1
  exact ⟨m, q, x, rfl, h3, h4⟩
def startR (k : Int) : Sa → Re Sm := runP fun ts => .inr (sm k, ts)
theorem start_st (k : Int) (S : Sa) : stO (startR k S) = S := by cases S <;> rfl

def up_tb (m : Sm) (x : ByteArray) : Sm := { m with table := x }
def up_nm (m : Sm) (x : ByteArray) : Sm := { m with name := x }
def up_jn (m : Sm) (x : ByteArray) : Sm := { m with join := x }
def up_co (m : Sm) (x : List Co) : Sm := { m with cols := x }
def up_ta (m : Sm) (x : List Int) : Sm := { m with tags := x }
def up_va (m : Sm) (x : List Tr) : Sm := { m with values := x }
def up_it (m : Sm) (x : List It) : Sm := { m with items := x }
def up_on (m : Sm) (x : List Tr) : Sm := { m with on := x }
def up_wh (m : Sm) (x : List Tr) : Sm := { m with wh := x }
def up_od (m : Sm) (x : List Tr) : Sm := { m with order := x }
def up_ds (m : Sm) (x : Bool) : Sm := { m with desc := x }
end Go.Proofs.YtnboooaockgoiaaGreatDoor
