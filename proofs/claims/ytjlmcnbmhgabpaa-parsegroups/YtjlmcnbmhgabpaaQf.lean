/- The texts of ParseGroups: their words, and what is told of them. -/
import Derived.Test.YtjlmcnbmhgabpaaQe
namespace Go.Proofs.Ytjlmcnbmhgabpaa
open Go.RowKit
set_option linter.unusedVariables false

def opB : Nat → List UInt8
  | 0 => [111, 114]
  | 1 => [97, 110, 100]
  | 2 => [61]
  | 3 => [43]
  | 4 => [45]
  | _ => [42]
def opK (p j : Nat) : Tk := (if p < 2 then 2 else 5, ⟨(opB p).toArray⟩, 0, (j : Int))
theorem lx_op {s : ByteArray} {A r : List UInt8} {p : Nat} (hp : p < 6) (h : bs s = A ++ (opB p ++ 32 :: r)) {l : List Tk} (hx : Lx s (A.length + (opB p).length) l 0 0) : Lx s A.length (opK p A.length :: l) 0 0 := by
  match p, hp with
  | 0, _ => exact lx_name (n := [114]) h (by decide) (by decide) rfl (by decide) hx
  | 1, _ => exact lx_name (n := [110, 100]) h (by decide) (by decide) rfl (by decide) hx
  | 2, _ => exact lx_sign h (by decide) hx
  | 3, _ => exact lx_sign h (by decide) hx
  | 4, _ => exact lx_sign h (by decide) hx
  | 5, _ => exact lx_sign h (by decide) hx
/-- The byte of a digit. -/
def dgB (d : Nat) : UInt8 := UInt8.ofNat (48 + d)
theorem dg_tab : ∀ d, d < 10 → isN (dgB d) = true ∧ isW ⟨#[97, dgB d]⟩ = false ∧ isW ⟨#[98, dgB d]⟩ = false ∧ isW ⟨#[99, dgB d]⟩ = false := by decide +kernel
theorem lx_var {s : ByteArray} {A r : List UInt8} {c : UInt8} {d : Nat} (hc : c = 97 ∨ c = 98 ∨ c = 99) (hd : d < 10) (h : bs s = A ++ ([c, dgB d] ++ r)) (hr : (r[0]?).any isN = false) {l : List Tk} (hx : Lx s (A.length + 2) l 0 0) : Lx s A.length ((1, ⟨#[c, dgB d]⟩, 0, (A.length : Int)) :: l) 0 0 := by
  obtain ⟨t1, t2, t3, t4⟩ := dg_tab d hd
  have hw : isW ⟨#[c, dgB d]⟩ = false := by rcases hc with rfl | rfl | rfl <;> assumption
  have := lx_name (n := [dgB d]) (l := l) h (by rcases hc with rfl | rfl | rfl <;> decide) (by simp [t1]) hr (by simp) hx
  rw [show (⟨[c, dgB d].toArray⟩ : ByteArray) = ⟨#[c, dgB d]⟩ from rfl, hw] at this
  exact this
/-- A piece of a text. -/
def preK (l : List Tk) : List Tk := (2, ⟨#[100, 101, 108, 101, 116, 101]⟩, 0, 0) :: (2, ⟨#[102, 114, 111, 109]⟩, 0, 7) :: (1, ⟨#[116]⟩, 0, 12) :: (2, ⟨#[119, 104, 101, 114, 101]⟩, 0, 14) :: l
def preD' : List UInt8 := [100, 101, 108, 101, 116, 101, 32, 102, 114, 111, 109, 32, 116, 32, 119, 104, 101, 114, 101, 32]
theorem lx_pre {s : ByteArray} {Z : List UInt8} (q0 : bs s = preD' ++ Z) {l : List Tk} (hx : Lx s 20 l 0 0) : Lx s 0 (preK l) 0 0 := by
  have q0' : bs s = [] ++ ([100, 101, 108, 101, 116, 101] ++ (32 :: [102, 114, 111, 109, 32, 116, 32, 119, 104, 101, 114, 101, 32] ++ Z)) := q0
  have q1 : bs s = [100, 101, 108, 101, 116, 101] ++ 32 :: ([102, 114, 111, 109, 32, 116, 32, 119, 104, 101, 114, 101, 32] ++ Z) := q0
  have q2 : bs s = [100, 101, 108, 101, 116, 101, 32] ++ ([102, 114, 111, 109] ++ (32 :: [116, 32, 119, 104, 101, 114, 101, 32] ++ Z)) := q0
  have q3 : bs s = [100, 101, 108, 101, 116, 101, 32, 102, 114, 111, 109] ++ 32 :: ([116, 32, 119, 104, 101, 114, 101, 32] ++ Z) := q0
  have q4 : bs s = [100, 101, 108, 101, 116, 101, 32, 102, 114, 111, 109, 32] ++ ([116] ++ (32 :: [119, 104, 101, 114, 101, 32] ++ Z)) := q0
  have q5 : bs s = [100, 101, 108, 101, 116, 101, 32, 102, 114, 111, 109, 32, 116] ++ 32 :: ([119, 104, 101, 114, 101, 32] ++ Z) := q0
  have q6 : bs s = [100, 101, 108, 101, 116, 101, 32, 102, 114, 111, 109, 32, 116, 32] ++ ([119, 104, 101, 114, 101] ++ (32 :: Z)) := q0
  have q7 : bs s = [100, 101, 108, 101, 116, 101, 32, 102, 114, 111, 109, 32, 116, 32, 119, 104, 101, 114, 101] ++ 32 :: Z := q0
  refine lx_name (n := [101, 108, 101, 116, 101]) q0' (by decide) (by decide) rfl (by decide) (lx_space q1 ?_)
  refine lx_name (n := [114, 111, 109]) q2 (by decide) (by decide) rfl (by decide) (lx_space q3 ?_)
  refine lx_name (n := []) q4 (by decide) (by decide) rfl (by decide) (lx_space q5 ?_)
  exact lx_name (n := [104, 101, 114, 101]) q6 (by decide) (by decide) rfl (by decide) (lx_space q7 hx)
/-- Lists of bytes, one piece behind the other, and their words: what is to be shown of the text from A on. -/
def Tell (s : ByteArray) (A B : List UInt8) (l : List Tk) : Prop := bs s = A ++ B → Lx s A.length l 0 0
theorem Tell.fin (s : ByteArray) (A : List UInt8) : Tell s A [] [(6, ⟨#[]⟩, 0, (A.length : Int))] := fun h => by
  have := size_list h
  rw [List.length_nil, Nat.add_zero] at this
  rw [← this]
  exact lx_fin
theorem Tell.sp {s : ByteArray} {A B : List UInt8} {l : List Tk} (h : Tell s (A ++ [32]) B l) : Tell s A (32 :: B) l := fun hb => by
  have := h (by rw [hb]; simp)
  rw [List.length_append] at this
  exact lx_space hb this
theorem Tell.sg {s : ByteArray} {A B : List UInt8} {c : UInt8} {l : List Tk} (hc : isO c = true) (h : Tell s (A ++ [c]) B l) : Tell s A (c :: B) ((5, ⟨#[c]⟩, 0, (A.length : Int)) :: l) := fun hb => by
  have := h (by rw [hb]; simp)
  rw [List.length_append] at this
  exact lx_sign hb hc this
theorem Tell.op {s : ByteArray} {A B : List UInt8} {p : Nat} {l : List Tk} (hp : p < 6) (h : Tell s (A ++ opB p) (32 :: B) l) : Tell s A (opB p ++ 32 :: B) (opK p A.length :: l) := fun hb => by
  have := h (by rw [hb]; simp)
  rw [List.length_append] at this
  exact lx_op hp hb this
theorem Tell.var {s : ByteArray} {A B : List UInt8} {c : UInt8} {d : Nat} {l : List Tk} (hc : c = 97 ∨ c = 98 ∨ c = 99) (hd : d < 10) (hr : (B[0]?).any isN = false) (h : Tell s (A ++ [c, dgB d]) B l) : Tell s A (c :: dgB d :: B) ((1, ⟨#[c, dgB d]⟩, 0, (A.length : Int)) :: l) := fun hb => by
  have := h (by rw [hb]; simp)
  rw [List.length_append] at this
  exact lx_var hc hd hb hr this

def whOf : Re Sf → Option (List Tr)
  | .inl _ => none
  | .inr m => some m.1.1.wh
def rk : Nat → Nat
  | 0 => 0
  | 1 => 1
  | 2 => 2
  | 3 => 3
  | 4 => 3
  | _ => 4
def opN : Nat → Nat
  | 0 => 15
  | 1 => 14
  | 2 => 8
  | 3 => 5
  | 4 => 6
  | _ => 7
def grp (p q : Nat) (x y z : ByteArray) : Tr :=
  if rk p < rk q then tTwo (opN p) (tCol ⟨#[]⟩ x) (tTwo (opN q) (tCol ⟨#[]⟩ y) (tCol ⟨#[]⟩ z))
  else tTwo (opN q) (tTwo (opN p) (tCol ⟨#[]⟩ x) (tCol ⟨#[]⟩ y)) (tCol ⟨#[]⟩ z)
/-- The words of the three texts; the places are told. -/
def gT1 (p q : Nat) (x y z : ByteArray) (a b c d e f : Int) : List Tk := preK [(1, x, 0, a), (if p < 2 then 2 else 5, ⟨(opB p).toArray⟩, 0, b), (1, y, 0, c), (if q < 2 then 2 else 5, ⟨(opB q).toArray⟩, 0, d), (1, z, 0, e), (6, ⟨#[]⟩, 0, f)]
def gT2 (p q : Nat) (x y z : ByteArray) (o a b c d' d e f : Int) : List Tk := preK [(5, ⟨#[40]⟩, 0, o), (1, x, 0, a), (if p < 2 then 2 else 5, ⟨(opB p).toArray⟩, 0, b), (1, y, 0, c), (5, ⟨#[41]⟩, 0, d'), (if q < 2 then 2 else 5, ⟨(opB q).toArray⟩, 0, d), (1, z, 0, e), (6, ⟨#[]⟩, 0, f)]
def gT3 (p q : Nat) (x y z : ByteArray) (a b o c d e f' f : Int) : List Tk := preK [(1, x, 0, a), (if p < 2 then 2 else 5, ⟨(opB p).toArray⟩, 0, b), (5, ⟨#[40]⟩, 0, o), (1, y, 0, c), (if q < 2 then 2 else 5, ⟨(opB q).toArray⟩, 0, d), (1, z, 0, e), (5, ⟨#[41]⟩, 0, f'), (6, ⟨#[]⟩, 0, f)]
theorem six {P : Nat → Prop} (h : P 0 ∧ P 1 ∧ P 2 ∧ P 3 ∧ P 4 ∧ P 5) : ∀ p, p < 6 → P p := by
  intro p hp
  match p, hp with
  | 0, _ => exact h.1
  | 1, _ => exact h.2.1
  | 2, _ => exact h.2.2.1
  | 3, _ => exact h.2.2.2.1
  | 4, _ => exact h.2.2.2.2.1
  | 5, _ => exact h.2.2.2.2.2
theorem gT1_no (x y z : ByteArray) (a b c d e f : Int) : whOf (parseW (gT1 2 2 x y z a b c d e f)) = none := by kernel_rfl
theorem gT2_at (x y z : ByteArray) (o a b c d' d e f : Int) : ∀ p, p < 6 → ∀ q, q < 6 → rk q ≤ rk p → whOf (parseW (gT2 p q x y z o a b c d' d e f)) = some [grp p q x y z] := by
  refine six ⟨six ⟨?_, ?_, ?_, ?_, ?_, ?_⟩, six ⟨?_, ?_, ?_, ?_, ?_, ?_⟩, six ⟨?_, ?_, ?_, ?_, ?_, ?_⟩, six ⟨?_, ?_, ?_, ?_, ?_, ?_⟩, six ⟨?_, ?_, ?_, ?_, ?_, ?_⟩, six ⟨?_, ?_, ?_, ?_, ?_, ?_⟩⟩
  all_goals
    intro h
    first
    | exact absurd h (by decide)
    | kernel_rfl
theorem gT3_at (x y z : ByteArray) (a b o c d e f' f : Int) : ∀ p, p < 6 → ∀ q, q < 6 → rk p < rk q → whOf (parseW (gT3 p q x y z a b o c d e f' f)) = some [grp p q x y z] := by
  refine six ⟨six ⟨?_, ?_, ?_, ?_, ?_, ?_⟩, six ⟨?_, ?_, ?_, ?_, ?_, ?_⟩, six ⟨?_, ?_, ?_, ?_, ?_, ?_⟩, six ⟨?_, ?_, ?_, ?_, ?_, ?_⟩, six ⟨?_, ?_, ?_, ?_, ?_, ?_⟩, six ⟨?_, ?_, ?_, ?_, ?_, ?_⟩⟩
  all_goals
    intro h
    first
    | exact absurd h (by decide)
    | kernel_rfl
theorem gT1_at (x y z : ByteArray) (a b c d e f : Int) : ∀ p, p < 6 → ∀ q, q < 6 → ¬ (p = 2 ∧ q = 2) → whOf (parseW (gT1 p q x y z a b c d e f)) = some [grp p q x y z] := by
  refine six ⟨six ⟨?_, ?_, ?_, ?_, ?_, ?_⟩, six ⟨?_, ?_, ?_, ?_, ?_, ?_⟩, six ⟨?_, ?_, ?_, ?_, ?_, ?_⟩, six ⟨?_, ?_, ?_, ?_, ?_, ?_⟩, six ⟨?_, ?_, ?_, ?_, ?_, ?_⟩, six ⟨?_, ?_, ?_, ?_, ?_, ?_⟩⟩
  all_goals
    intro h
    first
    | exact absurd h (by decide)
    | kernel_rfl

end Go.Proofs.Ytjlmcnbmhgabpaa
