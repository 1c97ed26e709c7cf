/- The grammar as plain functions over words: what the walks of parse and of the document's own are held against. -/
import Derived.Test.YtjlmcnbmhgabpaaGreatLc
import Derived.Deep.Trees
namespace Go.Proofs.YtjlmcnbmhgabpaaGreat
open Go.RowKit
set_option linter.unusedVariables false

/-- What a node of an expression has besides its number: Value (Kind, Int, Text), Table, Name. -/
abbrev Pay := Int × Int × ByteArray × ByteArray × ByteArray
/-- An expression: '.node 0 number payload left right'. -/
abbrev Tr := Go.Deep.BT Pay
def nilP : Pay := (0, 0, ⟨#[]⟩, ⟨#[]⟩, ⟨#[]⟩)
def tInt (n : Int) : Tr := .node 0 1 (1, n, ⟨#[]⟩, ⟨#[]⟩, ⟨#[]⟩) .nil .nil
def tText (s : ByteArray) : Tr := .node 0 1 (2, 0, s, ⟨#[]⟩, ⟨#[]⟩) .nil .nil
def tCol (t n : ByteArray) : Tr := .node 0 2 (0, 0, ⟨#[]⟩, t, n) .nil .nil
def tOne (op : Nat) (x : Tr) : Tr := .node 0 op nilP x .nil
def tTwo (op : Nat) (x y : Tr) : Tr := .node 0 op nilP x y

/-- A fault's place and the fault; or what was read, and the words behind it. -/
abbrev Re (α : Type) := Sum (Int × Int) (α × List Tk)
/-- A fault's place and the fault; or the words that are yet to be read. -/
abbrev Sa := Sum (Int × Int) (List Tk)
def stO {α : Type} : Re α → Sa
  | .inl x => .inl x
  | .inr x => .inr x.2
def runP {α : Type} (P : List Tk → Re α) : Sa → Re α
  | .inl x => .inl x
  | .inr ts => P ts
def thenR {α β : Type} (x : Re α) (f : α → List Tk → Re β) : Re β :=
  match x with
  | .inl e => .inl e
  | .inr y => f y.1 y.2
/-- How much is yet to be read. -/
def szS : Sa → Nat
  | .inl _ => 0
  | .inr ts => ts.length

/-- The last word is the end. -/
def Ended : List Tk → Prop
  | [] => False
  | t :: r => t.1 = 6 ∨ Ended r

/-- Is the first word this one of the grammar's? -/
def isTk (s : ByteArray) : List Tk → Bool
  | [] => false
  | t :: _ => (decide (t.1 = 2) || decide (t.1 = 5)) && decide (t.2.1 = s)
def atOf : List Tk → Int
  | [] => 0
  | t :: _ => t.2.2.2
def kdOf : List Tk → Int
  | [] => 0
  | t :: _ => t.1
def failS (e : Int) : Sa → Sa
  | .inl x => .inl x
  | .inr ts => .inl (atOf ts, e)
def takeB (s : ByteArray) : Sa → Bool
  | .inl _ => false
  | .inr ts => isTk s ts
def takeS (s : ByteArray) : Sa → Sa
  | .inl x => .inl x
  | .inr ts => if isTk s ts then .inr ts.tail else .inr ts
def wantS (s : ByteArray) : Sa → Sa
  | .inl x => .inl x
  | .inr ts => if isTk s ts then .inr ts.tail else .inl (atOf ts, 5)
def endS : Sa → Sa
  | .inl x => .inl x
  | .inr ts => if kdOf ts = 6 then .inr ts else .inl (atOf ts, 5)
/-- What the first word means among these; 0: it is none of them. -/
def oneOf : List (ByteArray × Int) → List Tk → Int
  | [], _ => 0
  | c :: l, ts => if isTk c.1 ts then c.2 else oneOf l ts
def oneB (l : List (ByteArray × Int)) : Sa → Int
  | .inl _ => 0
  | .inr ts => oneOf l ts
def oneS (l : List (ByteArray × Int)) : Sa → Sa
  | .inl x => .inl x
  | .inr ts => if l.any (fun c => isTk c.1 ts) then .inr ts.tail else .inr ts

/-- The word itself, if it is of that kind. -/
def kindP (k : Int) (ts : List Tk) : Re Tk :=
  match ts with
  | [] => .inl (0, 5)
  | t :: r => if t.1 = k then .inr (t, r) else .inl (t.2.2.2, 5)
def nameP (ts : List Tk) : Re ByteArray := thenR (kindP 1 ts) fun t r => .inr (t.2.1, r)
/-- A word that must stand there, and then more. -/
def wantP {α : Type} (s : ByteArray) (P : List Tk → Re α) (ts : List Tk) : Re α :=
  if isTk s ts then P ts.tail else .inl (atOf ts, 5)
def columnP (ts : List Tk) : Re Tr :=
  thenR (nameP ts) fun n r => if isTk ⟨#[46]⟩ r then thenR (nameP r.tail) fun m r' => .inr (tCol n m, r') else .inr (tCol ⟨#[]⟩ n, r)

/-- Parts with one of these words between each two, from the left. -/
def chainL (P : List Tk → Re Tr) (l : List (ByteArray × Int)) : Nat → Tr → List Tk → Re Tr
  | 0, x, ts => .inr (x, ts)
  | k + 1, x, ts => if oneOf l ts = 0 then .inr (x, ts) else thenR (P ts.tail) fun y r => chainL P l k (tTwo (oneOf l ts).toNat x y) r
def chainP (P : List Tk → Re Tr) (l : List (ByteArray × Int)) (ts : List Tk) : Re Tr := thenR (P ts) fun x r => chainL P l r.length x r

def opsOr : List (ByteArray × Int) := [(⟨#[111, 114]⟩, 15)]
def opsAnd : List (ByteArray × Int) := [(⟨#[97, 110, 100]⟩, 14)]
def opsComp : List (ByteArray × Int) := [(⟨#[61]⟩, 8), (⟨#[60, 62]⟩, 9), (⟨#[60]⟩, 10), (⟨#[60, 61]⟩, 11), (⟨#[62]⟩, 12), (⟨#[62, 61]⟩, 13)]
def opsSum : List (ByteArray × Int) := [(⟨#[43]⟩, 5), (⟨#[45]⟩, 6)]
def opsTerm : List (ByteArray × Int) := [(⟨#[42]⟩, 7)]

def leafP (ts : List Tk) : Re Tr :=
  if kdOf ts = 3 then thenR (kindP 3 ts) fun t r => .inr (tInt t.2.2.1, r)
  else if kdOf ts = 4 then thenR (kindP 4 ts) fun t r => .inr (tText t.2.1, r)
  else columnP ts
def termP (U : List Tk → Re Tr) : List Tk → Re Tr := chainP U opsTerm
def sumP (U : List Tk → Re Tr) : List Tk → Re Tr := chainP (termP U) opsSum
def compP (U : List Tk → Re Tr) (ts : List Tk) : Re Tr :=
  thenR (sumP U ts) fun x r => if oneOf opsComp r = 0 then .inr (x, r) else thenR (sumP U r.tail) fun y r' => .inr (tTwo (oneOf opsComp r).toNat x y, r')
def exprOf (N : List Tk → Re Tr) : List Tk → Re Tr := chainP (chainP N opsAnd) opsOr
/-- The word that stands there, and a part within it. -/
def inP (P : Option (List Tk → Re Tr)) (ts : List Tk) : Re Tr :=
  match P with
  | none => .inl (atOf ts, 6)
  | some p => p ts.tail
/-- unary and not, of what may stand one deeper. -/
def unaryOf (U E : Option (List Tk → Re Tr)) (ts : List Tk) : Re Tr :=
  if isTk ⟨#[45]⟩ ts then thenR (inP U ts) fun x r => .inr (tOne 3 x, r)
  else if isTk ⟨#[40]⟩ ts then thenR (inP E ts) fun x r => if isTk ⟨#[41]⟩ r then .inr (x, r.tail) else .inl (atOf r, 5)
  else leafP ts
def notOf (N : Option (List Tk → Re Tr)) (U : List Tk → Re Tr) (ts : List Tk) : Re Tr :=
  if isTk ⟨#[110, 111, 116]⟩ ts then thenR (inP N ts) fun x r => .inr (tOne 4 x, r)
  else compP U ts
/-- unary and not where n more may lie within one another. -/
def unP : Nat → (List Tk → Re Tr) × (List Tk → Re Tr)
  | 0 => (unaryOf none none, notOf none (unaryOf none none))
  | n + 1 => (unaryOf (some (unP n).1) (some (exprOf (unP n).2)), notOf (some (unP n).2) (unaryOf (some (unP n).1) (some (exprOf (unP n).2))))
def unaryP (n : Nat) : List Tk → Re Tr := (unP n).1
def notP (n : Nat) : List Tk → Re Tr := (unP n).2
def exprP (n : Nat) : List Tk → Re Tr := exprOf (notP n)
/-- What may lie one deeper, where n may. -/
def below (f : Nat → List Tk → Re Tr) : Nat → Option (List Tk → Re Tr)
  | 0 => none
  | n + 1 => some (f n)
theorem unaryP_eq (n : Nat) : unaryP n = unaryOf (below unaryP n) (below exprP n) := by cases n <;> rfl
theorem notP_eq (n : Nat) : notP n = notOf (below notP n) (unaryP n) := by cases n <;> rfl
theorem exprP_eq (n : Nat) : exprP n = chainP (chainP (notP n) opsAnd) opsOr := rfl

/-- One thing, and one more behind each comma. -/
def listL {α : Type} (P : List Tk → Re α) : Nat → List α → List Tk → Re (List α)
  | 0, l, ts => .inr (l, ts)
  | k + 1, l, ts => if isTk ⟨#[44]⟩ ts then thenR (P ts.tail) fun y r => listL P k (l ++ [y]) r else .inr (l, ts)
def listP {α : Type} (P : List Tk → Re α) (ts : List Tk) : Re (List α) := thenR (P ts) fun x r => listL P r.length [x] r

/-- Nothing that is read makes more words. -/
def Shr {α : Type} (P : List Tk → Re α) : Prop := ∀ ts t r, P ts = .inr (t, r) → r.length ≤ ts.length

theorem Ended.ne {ts : List Tk} (h : Ended ts) : ts ≠ [] := by rintro rfl; exact h
theorem Ended.pos {ts : List Tk} (h : Ended ts) : 0 < ts.length := by cases ts with | nil => exact h.elim | cons => simp
theorem Ended.tail {ts : List Tk} (h : Ended ts) (hk : kdOf ts ≠ 6) : Ended ts.tail := by
  cases ts with
  | nil => exact h.elim
  | cons t r => exact h.resolve_left hk
theorem isTk_kd {s : ByteArray} {ts : List Tk} (h : isTk s ts = true) : kdOf ts ≠ 6 ∧ (kdOf ts = 2 ∨ kdOf ts = 5) := by
  cases ts with
  | nil => simp [isTk] at h
  | cons t r =>
    simp [isTk] at h
    simp only [kdOf]
    omega
theorem isTk_ne {s : ByteArray} {ts : List Tk} (h : isTk s ts = true) : ∃ t r, ts = t :: r := by
  cases ts with
  | nil => simp [isTk] at h
  | cons t r => exact ⟨t, r, rfl⟩
theorem oneOf_any {l : List (ByteArray × Int)} {ts : List Tk} (hl : ∀ c ∈ l, c.2 ≠ 0) : (l.any fun c => isTk c.1 ts) = !decide (oneOf l ts = 0) := by
  induction l with
  | nil => rfl
  | cons c l ih =>
    rw [List.any_cons, oneOf, ih (fun x hx => hl x (List.mem_cons_of_mem _ hx))]
    cases h : isTk c.1 ts with
    | false => simp
    | true => simp [hl c List.mem_cons_self]

end Go.Proofs.YtjlmcnbmhgabpaaGreat
