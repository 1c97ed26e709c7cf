import Derived.Test.YtnboooaockgoiaaGreatDoorPas
namespace Go.Proofs.YtnboooaockgoiaaGreatDoor
open Go.RowKit
set_option linter.unusedVariables false
set_option linter.unusedSimpArgs false

/-- A block as it is. -/
structure Blk (w : World) (b : Nat) (o : Obj) : Prop where
  row : w.heap[b]? = some o
theorem Blk.new (w : World) (o : Obj) : Blk (w.alloc o) w.heap.size o := ⟨heap_alloc_new w o⟩
theorem Blk.lt {w : World} {b : Nat} {o : Obj} (h : Blk w b o) : b < w.heap.size := (Array.getElem?_eq_some_iff.1 h.row).1
theorem Blk.keep {w w' : World} {b : Nat} {o : Obj} (h : Blk w b o) (hk : w'.heap[b]? = w.heap[b]?) : Blk w' b o := ⟨hk.trans h.row⟩
theorem Blk.later {w w' : World} {b : Nat} {o : Obj} (h : Blk w b o) (hb : Below w.heap.size w w') : Blk w' b o := h.keep (hb.block b h.lt)
theorem Blk.cell {w : World} {b : Nat} {arr : Array Value} {t : TypeId} {mk : Nat × Nat} (h : Blk w b (.cells arr t mk)) (j : Nat) : w.cell? ⟨b, j, none⟩ = arr[j]? := by
  unfold World.cell?; rw [h.row]; rfl
end Go.Proofs.YtnboooaockgoiaaGreatDoor
namespace Go.Proofs.YtnboooaockgoiaaGreatDoor
open Go.RowKit
set_option linter.unusedVariables false

end Go.Proofs.YtnboooaockgoiaaGreatDoor
namespace Go.Proofs.YtnboooaockgoiaaGreatDoor
open Go.RowKit
set_option linter.unusedVariables false

/-- Thirteen cells of a block that was just made. -/
abbrev svO (s : Sv) : Obj := .cells #[.int .i64 s.k, .string s.tb, .string s.nm, .slice s.co.1 s.co.2.1 s.co.2.2, .slice s.ta.1 s.ta.2.1 s.ta.2.2, .slice s.va.1 s.va.2.1 s.va.2.2, .slice s.it.1 s.it.2.1 s.it.2.2, .string s.jn, .slice s.on.1 s.on.2.1 s.on.2.2, .slice s.wh.1 s.wh.2.1 s.wh.2.2, .slice s.od.1 s.od.2.1 s.od.2.2, .bool s.ds, .slice s.inn.1 s.inn.2.1 s.inn.2.2] 48 (0, 0)
theorem s1 {α : Type} (l : List α) (i : Nat) (x : α) : l.toArray.setIfInBounds i x = (l.set i x).toArray := by simp
theorem s2 {α : Type} (a b : α) (l : List α) : (a :: l).set 0 b = b :: l := rfl
theorem s3 {α : Type} (a b : α) (l : List α) (i : Nat) : (a :: l).set (i + 1) b = a :: l.set i b := rfl
end Go.Proofs.YtnboooaockgoiaaGreatDoor
namespace Go.Proofs.YtnboooaockgoiaaGreatDoor
open Go.RowKit
set_option linter.unusedVariables false

/-- A word without its place. -/
abbrev Wd := Int × ByteArray × Int
def wdOf (t : Tk) : Wd := (t.1, t.2.1, t.2.2.1)
def opW (j : Nat) : Wd := (if 9 ≤ j then 2 else 5, opT j, 0)
/-- The words of an expression as it is shown. -/
def wdE : Tr → List Wd
  | .nil => []
  | .node _ op p l r =>
    if op = 1 then [if p.1 = 1 then (3, ⟨#[]⟩, p.2.1) else (4, p.2.2.1, 0)]
    else if op = 2 then (if p.2.2.2.1 = ⟨#[]⟩ then [(1, p.2.2.2.2, 0)] else [(1, p.2.2.2.1, 0), (5, ⟨#[46]⟩, 0), (1, p.2.2.2.2, 0)])
    else if op = 3 then (5, ⟨#[40]⟩, 0) :: (5, ⟨#[45]⟩, 0) :: (wdE l ++ [(5, ⟨#[41]⟩, 0)])
    else if op = 4 then (5, ⟨#[40]⟩, 0) :: (2, ⟨#[110, 111, 116]⟩, 0) :: (wdE l ++ [(5, ⟨#[41]⟩, 0)])
    else (5, ⟨#[40]⟩, 0) :: (wdE l ++ opW (op - 5) :: (wdE r ++ [(5, ⟨#[41]⟩, 0)]))
/-- An expression as Parse makes it; no more than so many brackets, signs and nots lie within one another as it is shown. -/
def Cn : Nat → Tr → Prop
  | _, .nil => False
  | d, .node x op p l r => x = 0 ∧ ((op = 1 ∧ l = .nil ∧ r = .nil ∧ ((∃ n, p = (1, n, ⟨#[]⟩, ⟨#[]⟩, ⟨#[]⟩)) ∨ ∃ s, p = (2, 0, s, ⟨#[]⟩, ⟨#[]⟩))) ∨ (op = 2 ∧ l = .nil ∧ r = .nil ∧ ∃ t n, p = (0, 0, ⟨#[]⟩, t, n)) ∨
      ((op = 3 ∨ op = 4) ∧ p = nilP ∧ r = .nil ∧ ∃ k, d = k + 2 ∧ Cn k l) ∨ (∃ j, op = j + 5 ∧ j < 11 ∧ p = nilP ∧ ∃ k, d = k + 1 ∧ Cn k l ∧ Cn k r))
theorem Cn.int (d : Nat) (n : Int) : Cn d (tInt n) := ⟨rfl, .inl ⟨rfl, rfl, rfl, .inl ⟨n, rfl⟩⟩⟩
theorem Cn.text (d : Nat) (s : ByteArray) : Cn d (tText s) := ⟨rfl, .inl ⟨rfl, rfl, rfl, .inr ⟨s, rfl⟩⟩⟩
theorem Cn.col (d : Nat) (t n : ByteArray) : Cn d (tCol t n) := ⟨rfl, .inr (.inl ⟨rfl, rfl, rfl, t, n, rfl⟩)⟩
theorem Cn.neg {d : Nat} {l : Tr} (h : Cn d l) : Cn (d + 2) (tOne 3 l) := ⟨rfl, .inr (.inr (.inl ⟨.inl rfl, rfl, rfl, d, rfl, h⟩))⟩
theorem Cn.not {d : Nat} {l : Tr} (h : Cn d l) : Cn (d + 2) (tOne 4 l) := ⟨rfl, .inr (.inr (.inl ⟨.inr rfl, rfl, rfl, d, rfl, h⟩))⟩
theorem Cn.two {d : Nat} {l r : Tr} {j : Nat} (hj : j < 11) (h : Cn d l) (h' : Cn d r) : Cn (d + 1) (tTwo (j + 5) l r) := ⟨rfl, .inr (.inr (.inr ⟨j, rfl, hj, rfl, d, rfl, h, h'⟩))⟩
theorem Cn.ind {M : Nat → Tr → Prop} (int : ∀ d n, M d (tInt n)) (text : ∀ d s, M d (tText s)) (col : ∀ d t n, M d (tCol t n)) (neg : ∀ d l, Cn d l → M d l → M (d + 2) (tOne 3 l)) (not : ∀ d l, Cn d l → M d l → M (d + 2) (tOne 4 l))
    (two : ∀ d l r j, j < 11 → Cn d l → Cn d r → M d l → M d r → M (d + 1) (tTwo (j + 5) l r)) (t : Tr) : ∀ d, Cn d t → M d t := by
  induction t with
  | nil => intro d h; exact h.elim
  | node x op p l r ihl ihr =>
    rintro d ⟨rfl, ⟨rfl, rfl, rfl, ⟨n, rfl⟩ | ⟨s, rfl⟩⟩ | ⟨rfl, rfl, rfl, t, n, rfl⟩ | ⟨rfl | rfl, rfl, rfl, k, rfl, h⟩ | ⟨j, rfl, hj, rfl, k, rfl, h, h'⟩⟩
    · exact int d n
    · exact text d s
    · exact col d t n
    · exact neg k l h (ihl k h)
    · exact not k l h (ihl k h)
    · exact two k l r j hj h h' (ihl k h) (ihr k h')
theorem Cn.mono {d e : Nat} {t : Tr} (h : Cn d t) : d ≤ e → Cn e t := by
  refine Cn.ind (M := fun d t => ∀ e, d ≤ e → Cn e t) ?_ ?_ ?_ ?_ ?_ ?_ t d h e
  · intro d n e _; exact .int e n
  · intro d s e _; exact .text e s
  · intro d t n e _; exact .col e t n
  · intro d l h ih e he; obtain ⟨k, rfl⟩ : ∃ k, e = k + 2 := ⟨e - 2, by omega⟩; exact .neg (ih k (by omega))
  · intro d l h ih e he; obtain ⟨k, rfl⟩ : ∃ k, e = k + 2 := ⟨e - 2, by omega⟩; exact .not (ih k (by omega))
  · intro d l r j hj h h' ih ih' e he; obtain ⟨k, rfl⟩ : ∃ k, e = k + 1 := ⟨e - 1, by omega⟩; exact .two hj (ih k (by omega)) (ih' k (by omega))
theorem lo {p q D : Prop} (h : p ∨ D) (e : p → q) : q ∨ D := h.elim (fun h => .inl (e h)) .inr
/-- Not too deep, where D does not say so. -/
def CnD (D : Prop) (t : Tr) : Prop := ∃ d, Cn d t ∧ (d ≤ 64 ∨ D)
/-- This was read; or, if D, it was too deep. -/
def Got (D : Prop) {α : Type} (x : Re α) (y : α × List Tk) : Prop := x = .inr y ∨ (D ∧ ∃ a, x = .inl (a, 6))
theorem Got.then {D : Prop} {α β : Type} {x : Re α} {a : α} {R : List Tk} {f : α → List Tk → Re β} {y : β × List Tk} (h : Got D x (a, R)) (h' : Got D (f a R) y) : Got D (thenR x f) y := by
  rcases h with rfl | ⟨hd, p, rfl⟩
  · exact h'
  · exact .inr ⟨hd, p, rfl⟩
theorem Got.map {D : Prop} {α β : Type} {x : Re α} {a : α} {R : List Tk} (f : α → β) (h : Got D x (a, R)) : Got D (mapR f x) (f a, R) := h.then (.inl rfl)
theorem chain_end {P : List Tk → Re Tr} {l : List (ByteArray × Int)} {R : List Tk} {t : Tr} (h0 : oneOf l R = 0) : ∀ k, chainL P l k t R = .inr (t, R)
  | 0 => rfl
  | k + 1 => by rw [chainL, if_pos h0]
theorem chain_stop {D : Prop} {P : List Tk → Re Tr} {l : List (ByteArray × Int)} {X R : List Tk} {t : Tr} (h : Got D (P X) (t, R)) (h0 : oneOf l R = 0) : Got D (chainP P l X) (t, R) :=
  h.then (.inl (chain_end h0 _))
theorem chain_one {D : Prop} {P : List Tk → Re Tr} {l : List (ByteArray × Int)} {X R' : List Tk} {t u : Tr} {a : Tk} {R : List Tk} {z : Int} (h : Got D (P X) (t, a :: R)) (hz : oneOf l (a :: R) = z) (hn : z ≠ 0) (h2 : Got D (P R) (u, R')) (h0 : oneOf l R' = 0) : Got D (chainP P l X) (tTwo z.toNat t u, R') := by
  refine h.then ?_
  show Got D (chainL P l (R.length + 1) t (a :: R)) _
  rw [chainL, hz, if_neg hn]
  exact h2.then (.inl (chain_end h0 _))
theorem comp_stop' {D : Prop} {U : List Tk → Re Tr} {X R : List Tk} {t : Tr} (h : Got D (sumP U X) (t, R)) (h0 : oneOf opsComp R = 0) : Got D (compP U X) (t, R) :=
  h.then (.inl (if_pos h0))
theorem comp_one {D : Prop} {U : List Tk → Re Tr} {X R' : List Tk} {t u : Tr} {a : Tk} {R : List Tk} {z : Int} (h : Got D (sumP U X) (t, a :: R)) (hz : oneOf opsComp (a :: R) = z) (hn : z ≠ 0) (h2 : Got D (sumP U R) (u, R')) : Got D (compP U X) (tTwo z.toNat t u, R') := by
  refine h.then ?_
  show Got D (if oneOf opsComp (a :: R) = 0 then _ else thenR (sumP U R) _) _
  rw [hz, if_neg hn]
  exact h2.then (.inl rfl)
theorem not_stop {n : Nat} {X : List Tk} (h : isTk ⟨#[110, 111, 116]⟩ X = false) : notP n X = compP (unaryP n) X := by
  rw [notP_eq, notOf, if_neg (by rw [h]; simp)]
/-- A bracket ends everything. -/
def clo (pl : Int) (R : List Tk) : List Tk := (5, ⟨#[41]⟩, 0, pl) :: R
theorem clo_no (pl : Int) (R : List Tk) : oneOf opsTerm (clo pl R) = 0 ∧ oneOf opsSum (clo pl R) = 0 ∧ oneOf opsComp (clo pl R) = 0 ∧ oneOf opsAnd (clo pl R) = 0 ∧ oneOf opsOr (clo pl R) = 0 ∧ isTk ⟨#[46]⟩ (clo pl R) = false ∧ isTk ⟨#[41]⟩ (clo pl R) = true := ⟨rfl, rfl, rfl, rfl, rfl, rfl, rfl⟩
/-- Where nothing goes on, an expression is what a unary is. -/
theorem expr_of {D : Prop} {n : Nat} {X R : List Tk} {t : Tr} (h : Got D (unaryP n X) (t, R)) (hn : isTk ⟨#[110, 111, 116]⟩ X = false) (h1 : oneOf opsTerm R = 0) (h2 : oneOf opsSum R = 0) (h3 : oneOf opsComp R = 0) (h4 : oneOf opsAnd R = 0) (h5 : oneOf opsOr R = 0) : Got D (exprP n X) (t, R) := by
  have e1 : Got D (termP (unaryP n) X) (t, R) := chain_stop h h1
  have e2 : Got D (sumP (unaryP n) X) (t, R) := chain_stop e1 h2
  have e3 : Got D (notP n X) (t, R) := by rw [not_stop hn]; exact comp_stop' e2 h3
  exact chain_stop (chain_stop e3 h4) h5

end Go.Proofs.YtnboooaockgoiaaGreatDoor
namespace Go.Proofs.YtnboooaockgoiaaGreatDoor
open Go.RowKit
set_option linter.unusedVariables false

def opK2 (j : Nat) (pl : Int) : Tk := ((opW j).1, (opW j).2.1, (opW j).2.2, pl)
theorem wdE_two (l r : Tr) (j : Nat) : wdE (tTwo (j + 5) l r) = (5, ⟨#[40]⟩, 0) :: (wdE l ++ opW j :: (wdE r ++ [(5, ⟨#[41]⟩, 0)])) := by
  show (if j + 5 = 1 then _ else _) = _
  rw [if_neg (by omega), if_neg (by omega), if_neg (by omega), if_neg (by omega), Nat.add_sub_cancel]
theorem two_0 {D : Prop} {n : Nat} {X Y R : List Tk} {l r : Tr} {pl pl' : Int} (u1 : Got D (unaryP n X) (l, opK2 0 pl :: Y)) (hn : isTk ⟨#[110, 111, 116]⟩ X = false) (u2 : Got D (unaryP n Y) (r, clo pl' R)) (hn2 : isTk ⟨#[110, 111, 116]⟩ Y = false) : Got D (exprP n X) (tTwo 5 l r, clo pl' R) := by
  obtain ⟨c1, c2, c3, c4, c5, -, -⟩ := clo_no pl' R
  have t1 : Got D (termP (unaryP n) X) (l, opK2 0 pl :: Y) := chain_stop u1 rfl
  have t2 : Got D (termP (unaryP n) Y) (r, clo pl' R) := chain_stop u2 c1
  have e2 : Got D (sumP (unaryP n) X) (tTwo 5 l r, clo pl' R) := chain_one (z := 5) t1 rfl (by decide) t2 c2
  have e3 : Got D (notP n X) (tTwo 5 l r, clo pl' R) := by rw [not_stop hn]; exact comp_stop' e2 c3
  exact chain_stop (chain_stop e3 c4) c5
theorem two_1 {D : Prop} {n : Nat} {X Y R : List Tk} {l r : Tr} {pl pl' : Int} (u1 : Got D (unaryP n X) (l, opK2 1 pl :: Y)) (hn : isTk ⟨#[110, 111, 116]⟩ X = false) (u2 : Got D (unaryP n Y) (r, clo pl' R)) (hn2 : isTk ⟨#[110, 111, 116]⟩ Y = false) : Got D (exprP n X) (tTwo 6 l r, clo pl' R) := by
  obtain ⟨c1, c2, c3, c4, c5, -, -⟩ := clo_no pl' R
  have t1 : Got D (termP (unaryP n) X) (l, opK2 1 pl :: Y) := chain_stop u1 rfl
  have t2 : Got D (termP (unaryP n) Y) (r, clo pl' R) := chain_stop u2 c1
  have e2 : Got D (sumP (unaryP n) X) (tTwo 6 l r, clo pl' R) := chain_one (z := 6) t1 rfl (by decide) t2 c2
  have e3 : Got D (notP n X) (tTwo 6 l r, clo pl' R) := by rw [not_stop hn]; exact comp_stop' e2 c3
  exact chain_stop (chain_stop e3 c4) c5
theorem two_2 {D : Prop} {n : Nat} {X Y R : List Tk} {l r : Tr} {pl pl' : Int} (u1 : Got D (unaryP n X) (l, opK2 2 pl :: Y)) (hn : isTk ⟨#[110, 111, 116]⟩ X = false) (u2 : Got D (unaryP n Y) (r, clo pl' R)) (hn2 : isTk ⟨#[110, 111, 116]⟩ Y = false) : Got D (exprP n X) (tTwo 7 l r, clo pl' R) := by
  obtain ⟨c1, c2, c3, c4, c5, -, -⟩ := clo_no pl' R
  have e1 : Got D (termP (unaryP n) X) (tTwo 7 l r, clo pl' R) := chain_one (z := 7) u1 rfl (by decide) u2 c1
  have e2 : Got D (sumP (unaryP n) X) (tTwo 7 l r, clo pl' R) := chain_stop e1 c2
  have e3 : Got D (notP n X) (tTwo 7 l r, clo pl' R) := by rw [not_stop hn]; exact comp_stop' e2 c3
  exact chain_stop (chain_stop e3 c4) c5
theorem two_3 {D : Prop} {n : Nat} {X Y R : List Tk} {l r : Tr} {pl pl' : Int} (u1 : Got D (unaryP n X) (l, opK2 3 pl :: Y)) (hn : isTk ⟨#[110, 111, 116]⟩ X = false) (u2 : Got D (unaryP n Y) (r, clo pl' R)) (hn2 : isTk ⟨#[110, 111, 116]⟩ Y = false) : Got D (exprP n X) (tTwo 8 l r, clo pl' R) := by
  obtain ⟨c1, c2, c3, c4, c5, -, -⟩ := clo_no pl' R
  have t1 : Got D (termP (unaryP n) X) (l, opK2 3 pl :: Y) := chain_stop u1 rfl
  have t2 : Got D (termP (unaryP n) Y) (r, clo pl' R) := chain_stop u2 c1
  have s1 : Got D (sumP (unaryP n) X) (l, opK2 3 pl :: Y) := chain_stop t1 rfl
  have s2 : Got D (sumP (unaryP n) Y) (r, clo pl' R) := chain_stop t2 c2
  have e3 : Got D (notP n X) (tTwo 8 l r, clo pl' R) := by rw [not_stop hn]; exact comp_one (z := 8) s1 rfl (by decide) s2
  exact chain_stop (chain_stop e3 c4) c5
theorem two_4 {D : Prop} {n : Nat} {X Y R : List Tk} {l r : Tr} {pl pl' : Int} (u1 : Got D (unaryP n X) (l, opK2 4 pl :: Y)) (hn : isTk ⟨#[110, 111, 116]⟩ X = false) (u2 : Got D (unaryP n Y) (r, clo pl' R)) (hn2 : isTk ⟨#[110, 111, 116]⟩ Y = false) : Got D (exprP n X) (tTwo 9 l r, clo pl' R) := by
  obtain ⟨c1, c2, c3, c4, c5, -, -⟩ := clo_no pl' R
  have t1 : Got D (termP (unaryP n) X) (l, opK2 4 pl :: Y) := chain_stop u1 rfl
  have t2 : Got D (termP (unaryP n) Y) (r, clo pl' R) := chain_stop u2 c1
  have s1 : Got D (sumP (unaryP n) X) (l, opK2 4 pl :: Y) := chain_stop t1 rfl
  have s2 : Got D (sumP (unaryP n) Y) (r, clo pl' R) := chain_stop t2 c2
  have e3 : Got D (notP n X) (tTwo 9 l r, clo pl' R) := by rw [not_stop hn]; exact comp_one (z := 9) s1 rfl (by decide) s2
  exact chain_stop (chain_stop e3 c4) c5
theorem two_5 {D : Prop} {n : Nat} {X Y R : List Tk} {l r : Tr} {pl pl' : Int} (u1 : Got D (unaryP n X) (l, opK2 5 pl :: Y)) (hn : isTk ⟨#[110, 111, 116]⟩ X = false) (u2 : Got D (unaryP n Y) (r, clo pl' R)) (hn2 : isTk ⟨#[110, 111, 116]⟩ Y = false) : Got D (exprP n X) (tTwo 10 l r, clo pl' R) := by
  obtain ⟨c1, c2, c3, c4, c5, -, -⟩ := clo_no pl' R
  have t1 : Got D (termP (unaryP n) X) (l, opK2 5 pl :: Y) := chain_stop u1 rfl
  have t2 : Got D (termP (unaryP n) Y) (r, clo pl' R) := chain_stop u2 c1
  have s1 : Got D (sumP (unaryP n) X) (l, opK2 5 pl :: Y) := chain_stop t1 rfl
  have s2 : Got D (sumP (unaryP n) Y) (r, clo pl' R) := chain_stop t2 c2
  have e3 : Got D (notP n X) (tTwo 10 l r, clo pl' R) := by rw [not_stop hn]; exact comp_one (z := 10) s1 rfl (by decide) s2
  exact chain_stop (chain_stop e3 c4) c5
theorem two_6 {D : Prop} {n : Nat} {X Y R : List Tk} {l r : Tr} {pl pl' : Int} (u1 : Got D (unaryP n X) (l, opK2 6 pl :: Y)) (hn : isTk ⟨#[110, 111, 116]⟩ X = false) (u2 : Got D (unaryP n Y) (r, clo pl' R)) (hn2 : isTk ⟨#[110, 111, 116]⟩ Y = false) : Got D (exprP n X) (tTwo 11 l r, clo pl' R) := by
  obtain ⟨c1, c2, c3, c4, c5, -, -⟩ := clo_no pl' R
  have t1 : Got D (termP (unaryP n) X) (l, opK2 6 pl :: Y) := chain_stop u1 rfl
  have t2 : Got D (termP (unaryP n) Y) (r, clo pl' R) := chain_stop u2 c1
  have s1 : Got D (sumP (unaryP n) X) (l, opK2 6 pl :: Y) := chain_stop t1 rfl
  have s2 : Got D (sumP (unaryP n) Y) (r, clo pl' R) := chain_stop t2 c2
  have e3 : Got D (notP n X) (tTwo 11 l r, clo pl' R) := by rw [not_stop hn]; exact comp_one (z := 11) s1 rfl (by decide) s2
  exact chain_stop (chain_stop e3 c4) c5
theorem two_7 {D : Prop} {n : Nat} {X Y R : List Tk} {l r : Tr} {pl pl' : Int} (u1 : Got D (unaryP n X) (l, opK2 7 pl :: Y)) (hn : isTk ⟨#[110, 111, 116]⟩ X = false) (u2 : Got D (unaryP n Y) (r, clo pl' R)) (hn2 : isTk ⟨#[110, 111, 116]⟩ Y = false) : Got D (exprP n X) (tTwo 12 l r, clo pl' R) := by
  obtain ⟨c1, c2, c3, c4, c5, -, -⟩ := clo_no pl' R
  have t1 : Got D (termP (unaryP n) X) (l, opK2 7 pl :: Y) := chain_stop u1 rfl
  have t2 : Got D (termP (unaryP n) Y) (r, clo pl' R) := chain_stop u2 c1
  have s1 : Got D (sumP (unaryP n) X) (l, opK2 7 pl :: Y) := chain_stop t1 rfl
  have s2 : Got D (sumP (unaryP n) Y) (r, clo pl' R) := chain_stop t2 c2
  have e3 : Got D (notP n X) (tTwo 12 l r, clo pl' R) := by rw [not_stop hn]; exact comp_one (z := 12) s1 rfl (by decide) s2
  exact chain_stop (chain_stop e3 c4) c5
theorem two_8 {D : Prop} {n : Nat} {X Y R : List Tk} {l r : Tr} {pl pl' : Int} (u1 : Got D (unaryP n X) (l, opK2 8 pl :: Y)) (hn : isTk ⟨#[110, 111, 116]⟩ X = false) (u2 : Got D (unaryP n Y) (r, clo pl' R)) (hn2 : isTk ⟨#[110, 111, 116]⟩ Y = false) : Got D (exprP n X) (tTwo 13 l r, clo pl' R) := by
  obtain ⟨c1, c2, c3, c4, c5, -, -⟩ := clo_no pl' R
  have t1 : Got D (termP (unaryP n) X) (l, opK2 8 pl :: Y) := chain_stop u1 rfl
  have t2 : Got D (termP (unaryP n) Y) (r, clo pl' R) := chain_stop u2 c1
  have s1 : Got D (sumP (unaryP n) X) (l, opK2 8 pl :: Y) := chain_stop t1 rfl
  have s2 : Got D (sumP (unaryP n) Y) (r, clo pl' R) := chain_stop t2 c2
  have e3 : Got D (notP n X) (tTwo 13 l r, clo pl' R) := by rw [not_stop hn]; exact comp_one (z := 13) s1 rfl (by decide) s2
  exact chain_stop (chain_stop e3 c4) c5
theorem two_9 {D : Prop} {n : Nat} {X Y R : List Tk} {l r : Tr} {pl pl' : Int} (u1 : Got D (unaryP n X) (l, opK2 9 pl :: Y)) (hn : isTk ⟨#[110, 111, 116]⟩ X = false) (u2 : Got D (unaryP n Y) (r, clo pl' R)) (hn2 : isTk ⟨#[110, 111, 116]⟩ Y = false) : Got D (exprP n X) (tTwo 14 l r, clo pl' R) := by
  obtain ⟨c1, c2, c3, c4, c5, -, -⟩ := clo_no pl' R
  have t1 : Got D (termP (unaryP n) X) (l, opK2 9 pl :: Y) := chain_stop u1 rfl
  have t2 : Got D (termP (unaryP n) Y) (r, clo pl' R) := chain_stop u2 c1
  have s1 : Got D (sumP (unaryP n) X) (l, opK2 9 pl :: Y) := chain_stop t1 rfl
  have s2 : Got D (sumP (unaryP n) Y) (r, clo pl' R) := chain_stop t2 c2
  have n1 : Got D (notP n X) (l, opK2 9 pl :: Y) := by rw [not_stop hn]; exact comp_stop' s1 rfl
  have n2 : Got D (notP n Y) (r, clo pl' R) := by rw [not_stop hn2]; exact comp_stop' s2 c3
  have e4 : Got D (chainP (notP n) opsAnd X) (tTwo 14 l r, clo pl' R) := chain_one (z := 14) n1 rfl (by decide) n2 c4
  exact chain_stop e4 c5
theorem two_10 {D : Prop} {n : Nat} {X Y R : List Tk} {l r : Tr} {pl pl' : Int} (u1 : Got D (unaryP n X) (l, opK2 10 pl :: Y)) (hn : isTk ⟨#[110, 111, 116]⟩ X = false) (u2 : Got D (unaryP n Y) (r, clo pl' R)) (hn2 : isTk ⟨#[110, 111, 116]⟩ Y = false) : Got D (exprP n X) (tTwo 15 l r, clo pl' R) := by
  obtain ⟨c1, c2, c3, c4, c5, -, -⟩ := clo_no pl' R
  have t1 : Got D (termP (unaryP n) X) (l, opK2 10 pl :: Y) := chain_stop u1 rfl
  have t2 : Got D (termP (unaryP n) Y) (r, clo pl' R) := chain_stop u2 c1
  have s1 : Got D (sumP (unaryP n) X) (l, opK2 10 pl :: Y) := chain_stop t1 rfl
  have s2 : Got D (sumP (unaryP n) Y) (r, clo pl' R) := chain_stop t2 c2
  have n1 : Got D (notP n X) (l, opK2 10 pl :: Y) := by rw [not_stop hn]; exact comp_stop' s1 rfl
  have n2 : Got D (notP n Y) (r, clo pl' R) := by rw [not_stop hn2]; exact comp_stop' s2 c3
  have a1 : Got D (chainP (notP n) opsAnd X) (l, opK2 10 pl :: Y) := chain_stop n1 rfl
  have a2 : Got D (chainP (notP n) opsAnd Y) (r, clo pl' R) := chain_stop n2 c4
  exact chain_one (z := 15) a1 rfl (by decide) a2 c5
theorem two_any {D : Prop} {n : Nat} {X Y R : List Tk} {l r : Tr} {pl pl' : Int} {j : Nat} (hj : j < 11) (u1 : Got D (unaryP n X) (l, opK2 j pl :: Y)) (hn : isTk ⟨#[110, 111, 116]⟩ X = false) (u2 : Got D (unaryP n Y) (r, clo pl' R)) (hn2 : isTk ⟨#[110, 111, 116]⟩ Y = false) : Got D (exprP n X) (tTwo (j + 5) l r, clo pl' R) := by
  match j, hj with
  | 0, _ => exact two_0 u1 hn u2 hn2
  | 1, _ => exact two_1 u1 hn u2 hn2
  | 2, _ => exact two_2 u1 hn u2 hn2
  | 3, _ => exact two_3 u1 hn u2 hn2
  | 4, _ => exact two_4 u1 hn u2 hn2
  | 5, _ => exact two_5 u1 hn u2 hn2
  | 6, _ => exact two_6 u1 hn u2 hn2
  | 7, _ => exact two_7 u1 hn u2 hn2
  | 8, _ => exact two_8 u1 hn u2 hn2
  | 9, _ => exact two_9 u1 hn u2 hn2
  | 10, _ => exact two_10 u1 hn u2 hn2
theorem opK2_dot {j : Nat} (hj : j < 11) (pl : Int) (Y : List Tk) : isTk ⟨#[46]⟩ (opK2 j pl :: Y) = false := by
  match j, hj with
  | 0, _ => rfl
  | 1, _ => rfl
  | 2, _ => rfl
  | 3, _ => rfl
  | 4, _ => rfl
  | 5, _ => rfl
  | 6, _ => rfl
  | 7, _ => rfl
  | 8, _ => rfl
  | 9, _ => rfl
  | 10, _ => rfl
/-- In brackets. -/
theorem unary_in {D : Prop} {n : Nat} {X R : List Tk} {t : Tr} {pl pl' : Int} (h : Got D (exprP n X) (t, clo pl' R)) : Got D (unaryP (n + 1) ((5, ⟨#[40]⟩, 0, pl) :: X)) (t, R) := by
  rw [unaryP_eq]
  have e1 : isTk ⟨#[45]⟩ ((5, ⟨#[40]⟩, 0, pl) :: X) = false := rfl
  have e2 : isTk ⟨#[40]⟩ ((5, ⟨#[40]⟩, 0, pl) :: X) = true := rfl
  rw [unaryOf, if_neg (by rw [e1]; simp), if_pos e2]
  exact Got.then (x := exprP n X) h (.inl rfl)
theorem unary_minus {D : Prop} {n : Nat} {X R : List Tk} {t : Tr} {pl : Int} (h : Got D (unaryP n X) (t, R)) : Got D (unaryP (n + 1) ((5, ⟨#[45]⟩, 0, pl) :: X)) (tOne 3 t, R) := by
  rw [unaryP_eq]
  have e1 : isTk ⟨#[45]⟩ ((5, ⟨#[45]⟩, 0, pl) :: X) = true := rfl
  rw [unaryOf, if_pos e1]
  exact Got.then (x := unaryP n X) h (.inl rfl)
theorem not_in {D : Prop} {n : Nat} {X R : List Tk} {t : Tr} {pl : Int} (h : Got D (notP n X) (t, R)) : Got D (notP (n + 1) ((2, ⟨#[110, 111, 116]⟩, 0, pl) :: X)) (tOne 4 t, R) := by
  rw [notP_eq]
  have e1 : isTk ⟨#[110, 111, 116]⟩ ((2, ⟨#[110, 111, 116]⟩, 0, pl) :: X) = true := rfl
  rw [notOf, if_pos e1]
  exact Got.then (x := notP n X) h (.inl rfl)
/-- Too deep. -/
theorem unary_deep {D : Prop} (hD : D) {X : List Tk} {pl : Int} {y : Tr × List Tk} : Got D (unaryP 0 ((5, ⟨#[40]⟩, 0, pl) :: X)) y := .inr ⟨hD, pl, rfl⟩
theorem minus_deep {D : Prop} (hD : D) {X R : List Tk} {pl pl' : Int} {y : Tr} : Got D (unaryP 1 ((5, ⟨#[40]⟩, 0, pl) :: (5, ⟨#[45]⟩, 0, pl') :: X)) (y, R) := .inr ⟨hD, pl', rfl⟩
theorem not_deep {D : Prop} (hD : D) {X R : List Tk} {pl pl' : Int} {y : Tr} : Got D (unaryP 1 ((5, ⟨#[40]⟩, 0, pl) :: (2, ⟨#[110, 111, 116]⟩, 0, pl') :: X)) (y, R) := .inr ⟨hD, pl', rfl⟩
theorem tk_eta {t : Tk} {w : Wd} (h : wdOf t = w) : t = (w.1, w.2.1, w.2.2, t.2.2.2) := by subst h; rfl
/-- An expression does not begin with "not". -/
theorem head_not {d : Nat} {t : Tr} (h : Cn d t) {ts : List Tk} (hm : ts.map wdOf = wdE t) (R : List Tk) : isTk ⟨#[110, 111, 116]⟩ (ts ++ R) = false := by
  refine Cn.ind (M := fun d t => ∀ ts : List Tk, ts.map wdOf = wdE t → isTk ⟨#[110, 111, 116]⟩ (ts ++ R) = false) ?_ ?_ ?_ ?_ ?_ ?_ t d h ts hm
  · intro d n ts hm
    have hm' : ts.map wdOf = [(3, ⟨#[]⟩, n)] := hm
    obtain ⟨a, l', rfl, h1, h2⟩ := List.map_eq_cons_iff.1 hm'
    rw [tk_eta h1]; rfl
  · intro d s ts hm
    have hm' : ts.map wdOf = [(4, s, 0)] := hm
    obtain ⟨a, l', rfl, h1, h2⟩ := List.map_eq_cons_iff.1 hm'
    rw [tk_eta h1]; rfl
  · intro d t n ts hm
    by_cases h0 : t = ⟨#[]⟩
    · subst h0
      have hm' : ts.map wdOf = [(1, n, 0)] := hm
      obtain ⟨a, l', rfl, h1, h2⟩ := List.map_eq_cons_iff.1 hm'
      rw [tk_eta h1]; rfl
    · have hm' : ts.map wdOf = [(1, t, 0), (5, ⟨#[46]⟩, 0), (1, n, 0)] := hm.trans (by show (if t = ⟨#[]⟩ then _ else _) = _; rw [if_neg h0])
      obtain ⟨a, l', rfl, h1, h2⟩ := List.map_eq_cons_iff.1 hm'
      rw [tk_eta h1]; rfl
  · intro d l h _ ts hm
    obtain ⟨a, l', rfl, h1, h2⟩ := List.map_eq_cons_iff.1 (show ts.map wdOf = (5, ⟨#[40]⟩, 0) :: _ from hm)
    rw [tk_eta h1]; rfl
  · intro d l h _ ts hm
    obtain ⟨a, l', rfl, h1, h2⟩ := List.map_eq_cons_iff.1 (show ts.map wdOf = (5, ⟨#[40]⟩, 0) :: _ from hm)
    rw [tk_eta h1]; rfl
  · intro d l r j hj h h' _ _ ts hm
    rw [wdE_two] at hm
    obtain ⟨a, l', rfl, h1, h2⟩ := List.map_eq_cons_iff.1 hm
    rw [tk_eta h1]; rfl
/-- What is shown of an expression is read as it was, or is too deep. -/
theorem back {D : Prop} {d : Nat} {t : Tr} (h : Cn d t) : ∀ n, (d ≤ n ∨ D) → ∀ (ts R : List Tk), ts.map wdOf = wdE t → isTk ⟨#[46]⟩ R = false → Got D (unaryP n (ts ++ R)) (t, R) := by
  refine Cn.ind (M := fun d t => ∀ n, (d ≤ n ∨ D) → ∀ (ts R : List Tk), ts.map wdOf = wdE t → isTk ⟨#[46]⟩ R = false → Got D (unaryP n (ts ++ R)) (t, R)) ?_ ?_ ?_ ?_ ?_ ?_ t d h
  · intro d n m _ ts R hm hR
    have hm' : ts.map wdOf = [(3, ⟨#[]⟩, n)] := hm
    obtain ⟨a, l', rfl, h1, h2⟩ := List.map_eq_cons_iff.1 hm'
    obtain rfl := List.map_eq_nil_iff.1 h2
    rw [tk_eta h1, unaryP_eq]
    exact .inl rfl
  · intro d s m _ ts R hm hR
    have hm' : ts.map wdOf = [(4, s, 0)] := hm
    obtain ⟨a, l', rfl, h1, h2⟩ := List.map_eq_cons_iff.1 hm'
    obtain rfl := List.map_eq_nil_iff.1 h2
    rw [tk_eta h1, unaryP_eq]
    exact .inl rfl
  · intro d t n m _ ts R hm hR
    refine .inl ?_
    by_cases h0 : t = ⟨#[]⟩
    · subst h0
      have hm' : ts.map wdOf = [(1, n, 0)] := hm
      obtain ⟨a, l', rfl, h1, h2⟩ := List.map_eq_cons_iff.1 hm'
      obtain rfl := List.map_eq_nil_iff.1 h2
      rw [tk_eta h1, unaryP_eq]
      have e : unaryOf (below unaryP m) (below exprP m) ((1, n, 0, a.2.2.2) :: R) = columnP ((1, n, 0, a.2.2.2) :: R) := rfl
      show unaryOf (below unaryP m) (below exprP m) ((1, n, 0, a.2.2.2) :: R) = _
      rw [e]
      show (if isTk ⟨#[46]⟩ R then _ else _) = _
      rw [if_neg (by rw [hR]; simp)]
    · have hm' : ts.map wdOf = [(1, t, 0), (5, ⟨#[46]⟩, 0), (1, n, 0)] := hm.trans (by show (if t = ⟨#[]⟩ then _ else _) = _; rw [if_neg h0])
      obtain ⟨a, l', rfl, h1, h2⟩ := List.map_eq_cons_iff.1 hm'
      obtain ⟨b, l'', rfl, h3, h4⟩ := List.map_eq_cons_iff.1 h2
      obtain ⟨c, l3, rfl, h5, h6⟩ := List.map_eq_cons_iff.1 h4
      obtain rfl := List.map_eq_nil_iff.1 h6
      rw [tk_eta h1, tk_eta h3, tk_eta h5, unaryP_eq]
      rfl
  · intro d l h ih n hn ts R hm hR
    obtain ⟨a, l1, rfl, h1, h2⟩ := List.map_eq_cons_iff.1 (show ts.map wdOf = (5, ⟨#[40]⟩, 0) :: (5, ⟨#[45]⟩, 0) :: (wdE l ++ [(5, ⟨#[41]⟩, 0)]) from hm)
    obtain ⟨b, l2, rfl, h3, h4⟩ := List.map_eq_cons_iff.1 h2
    obtain ⟨tl, tr, rfl, h5, h6⟩ := List.map_eq_append_iff.1 h4
    obtain ⟨c, l3, rfl, h7, h8⟩ := List.map_eq_cons_iff.1 h6
    obtain rfl := List.map_eq_nil_iff.1 h8
    rw [tk_eta h1, tk_eta h3, tk_eta h7]
    have e : (((5, ⟨#[40]⟩, 0, a.2.2.2) : Tk) :: ((5, ⟨#[45]⟩, 0, b.2.2.2) : Tk) :: (tl ++ [((5, ⟨#[41]⟩, 0, c.2.2.2) : Tk)])) ++ R = ((5, ⟨#[40]⟩, 0, a.2.2.2) : Tk) :: ((5, ⟨#[45]⟩, 0, b.2.2.2) : Tk) :: (tl ++ clo c.2.2.2 R) := by simp [clo]
    show Got D (unaryP n ((((5, ⟨#[40]⟩, 0, a.2.2.2) : Tk) :: ((5, ⟨#[45]⟩, 0, b.2.2.2) : Tk) :: (tl ++ [((5, ⟨#[41]⟩, 0, c.2.2.2) : Tk)])) ++ R)) _
    rw [e]
    match n with
    | 0 => exact unary_deep (hn.resolve_left (by omega))
    | 1 => exact minus_deep (hn.resolve_left (by omega))
    | m + 2 =>
      obtain ⟨c1, c2, c3, c4, c5, c6, c7⟩ := clo_no c.2.2.2 R
      exact unary_in (expr_of (unary_minus (ih m (lo hn (by omega)) tl (clo c.2.2.2 R) h5 c6)) rfl c1 c2 c3 c4 c5)
  · intro d l h ih n hn ts R hm hR
    obtain ⟨a, l1, rfl, h1, h2⟩ := List.map_eq_cons_iff.1 (show ts.map wdOf = (5, ⟨#[40]⟩, 0) :: (2, ⟨#[110, 111, 116]⟩, 0) :: (wdE l ++ [(5, ⟨#[41]⟩, 0)]) from hm)
    obtain ⟨b, l2, rfl, h3, h4⟩ := List.map_eq_cons_iff.1 h2
    obtain ⟨tl, tr, rfl, h5, h6⟩ := List.map_eq_append_iff.1 h4
    obtain ⟨c, l3, rfl, h7, h8⟩ := List.map_eq_cons_iff.1 h6
    obtain rfl := List.map_eq_nil_iff.1 h8
    rw [tk_eta h1, tk_eta h3, tk_eta h7]
    have e : (((5, ⟨#[40]⟩, 0, a.2.2.2) : Tk) :: ((2, ⟨#[110, 111, 116]⟩, 0, b.2.2.2) : Tk) :: (tl ++ [((5, ⟨#[41]⟩, 0, c.2.2.2) : Tk)])) ++ R = ((5, ⟨#[40]⟩, 0, a.2.2.2) : Tk) :: ((2, ⟨#[110, 111, 116]⟩, 0, b.2.2.2) : Tk) :: (tl ++ clo c.2.2.2 R) := by simp [clo]
    show Got D (unaryP n ((((5, ⟨#[40]⟩, 0, a.2.2.2) : Tk) :: ((2, ⟨#[110, 111, 116]⟩, 0, b.2.2.2) : Tk) :: (tl ++ [((5, ⟨#[41]⟩, 0, c.2.2.2) : Tk)])) ++ R)) _
    rw [e]
    match n with
    | 0 => exact unary_deep (hn.resolve_left (by omega))
    | 1 => exact not_deep (hn.resolve_left (by omega))
    | m + 2 =>
      obtain ⟨c1, c2, c3, c4, c5, c6, c7⟩ := clo_no c.2.2.2 R
      have hi := ih m (lo hn (by omega)) tl (clo c.2.2.2 R) h5 c6
      have e1 : Got D (notP m (tl ++ clo c.2.2.2 R)) (l, clo c.2.2.2 R) := by
        rw [not_stop (head_not h h5 _)]
        exact comp_stop' (chain_stop (chain_stop hi c1) c2) c3
      exact unary_in (chain_stop (chain_stop (not_in e1) c4) c5)
  · intro d l r j hj h h' ih ih' n hn ts R hm hR
    rw [wdE_two] at hm
    obtain ⟨a, l1, rfl, h1, h2⟩ := List.map_eq_cons_iff.1 hm
    obtain ⟨tl, t2, rfl, h3, h4⟩ := List.map_eq_append_iff.1 h2
    obtain ⟨b, l2, rfl, h5, h6⟩ := List.map_eq_cons_iff.1 h4
    obtain ⟨tr, t4, rfl, h7, h8⟩ := List.map_eq_append_iff.1 h6
    obtain ⟨c, l3, rfl, h9, h10⟩ := List.map_eq_cons_iff.1 h8
    obtain rfl := List.map_eq_nil_iff.1 h10
    rw [tk_eta h1, tk_eta h5, tk_eta h9]
    have e2 : (((5, ⟨#[40]⟩, 0, a.2.2.2) : Tk) :: (tl ++ opK2 j b.2.2.2 :: (tr ++ [((5, ⟨#[41]⟩, 0, c.2.2.2) : Tk)]))) ++ R = ((5, ⟨#[40]⟩, 0, a.2.2.2) : Tk) :: (tl ++ opK2 j b.2.2.2 :: (tr ++ clo c.2.2.2 R)) := by simp [clo]
    show Got D (unaryP n ((((5, ⟨#[40]⟩, 0, a.2.2.2) : Tk) :: (tl ++ opK2 j b.2.2.2 :: (tr ++ [((5, ⟨#[41]⟩, 0, c.2.2.2) : Tk)]))) ++ R)) _
    rw [e2]
    match n with
    | 0 => exact unary_deep (hn.resolve_left (by omega))
    | m + 1 =>
      obtain ⟨c1, c2, c3, c4, c5, c6, c7⟩ := clo_no c.2.2.2 R
      exact unary_in (two_any hj (ih m (lo hn (by omega)) tl _ h3 (opK2_dot hj _ _)) (head_not h h3 _) (ih' m (lo hn (by omega)) tr _ h7 c6) (head_not h' h7 _))

end Go.Proofs.YtnboooaockgoiaaGreatDoor
