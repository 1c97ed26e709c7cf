/- The texts of ParseDeep: their words, and what is told of them. -/
import Derived.Test.YtjlmcnbmhgabpaaQa
namespace Go.Proofs.Ytjlmcnbmhgabpaa
open Go.RowKit
set_option linter.unusedVariables false

/-- So many times the same. -/
def repB (o : List UInt8) : Nat → List UInt8
  | 0 => []
  | n + 1 => o ++ repB o n
theorem repB_len (o : List UInt8) (n : Nat) : (repB o n).length = n * o.length := by
  induction n with
  | zero => simp [repB]
  | succ n ih => rw [repB, List.length_append, ih, Nat.succ_mul]; omega
theorem repB_more (o : List UInt8) (n : Nat) : repB o n ++ o = repB o (n + 1) := by
  induction n with
  | zero => simp [repB]
  | succ n ih => rw [repB, List.append_assoc, ih]; rfl
def repT (T : Nat → Tk) (d : Nat) : Nat → Nat → List Tk
  | 0, _ => []
  | n + 1, j => T j :: repT T d n (j + d)
theorem lx_rep {s : ByteArray} {o : List UInt8} {T : Nat → Tk} (step : ∀ A r, bs s = A ++ (o ++ r) → ∀ l, Lx s (A.length + o.length) l 0 0 → Lx s A.length (T A.length :: l) 0 0) :
    ∀ (k : Nat) (A r : List UInt8) (l : List Tk), bs s = A ++ (repB o k ++ r) → Lx s (A.length + k * o.length) l 0 0 → Lx s A.length (repT T o.length k A.length ++ l) 0 0 := by
  intro k
  induction k with
  | zero => intro A r l h hx; simpa [repT] using hx
  | succ k ih =>
    intro A r l h hx
    rw [repB] at h
    have h1 : bs s = A ++ (o ++ (repB o k ++ r)) := by simpa using h
    refine step A _ h1 _ ?_
    have h2 : bs s = (A ++ o) ++ (repB o k ++ r) := by simpa using h
    have := ih (A ++ o) r l h2 (by
      rw [List.length_append]
      rw [Nat.succ_mul] at hx
      rw [show A.length + o.length + k * o.length = A.length + (k * o.length + o.length) from by omega]
      exact hx)
    rw [List.length_append] at this
    exact this
def deepO (h : Nat) : List UInt8 := if h = 0 then [40] else if h = 1 then [45] else [110, 111, 116, 32]
def preD : List UInt8 := [100, 101, 108, 101, 116, 101, 32, 102, 114, 111, 109, 32, 116, 32, 119, 104, 101, 114, 101, 32]
def deepL (k h : Nat) : List UInt8 := preD ++ (repB (deepO h) k ++ (97 :: (if h = 0 then repB [41] k else [])))
def opT (h : Nat) (j : Nat) : Tk := if h = 0 then (5, ⟨#[40]⟩, 0, (j : Int)) else if h = 1 then (5, ⟨#[45]⟩, 0, (j : Int)) else (2, ⟨#[110, 111, 116]⟩, 0, (j : Int))
def clT (j : Nat) : Tk := (5, ⟨#[41]⟩, 0, (j : Int))
def deepT (k h : Nat) : List Tk :=
  (2, ⟨#[100, 101, 108, 101, 116, 101]⟩, 0, 0) :: (2, ⟨#[102, 114, 111, 109]⟩, 0, 7) :: (1, ⟨#[116]⟩, 0, 12) :: (2, ⟨#[119, 104, 101, 114, 101]⟩, 0, 14) :: (repT (opT h) (deepO h).length k 20 ++ ((1, ⟨#[97]⟩, 0, ((20 + k * (deepO h).length : Nat) : Int)) :: ((if h = 0 then repT clT 1 k (21 + k * (deepO h).length) else []) ++ [(6, ⟨#[]⟩, 0, (((deepL k h).length : Nat) : Int))])))
theorem deep_end {s : ByteArray} {k h : Nat} (hs : bs s = deepL k h) (A : List UInt8) (hA : A.length = 20 + k * (deepO h).length) (hb : bs s = A ++ 97 :: (if h = 0 then repB [41] k else [])) :
    Lx s A.length ((1, ⟨#[97]⟩, 0, ((20 + k * (deepO h).length : Nat) : Int)) :: ((if h = 0 then repT clT 1 k (21 + k * (deepO h).length) else []) ++ [(6, ⟨#[]⟩, 0, (((deepL k h).length : Nat) : Int))])) 0 0 := by
  have hsz : s.size = (deepL k h).length := by rw [← bs_length, hs]
  have hb1 : bs s = A ++ ([97] ++ (if h = 0 then repB [41] k else [])) := hb
  have hw : (if isW ⟨#[97]⟩ then (2 : Int) else 1) = 1 := by decide
  have := lx_name (n := []) (l := (if h = 0 then repT clT 1 k (21 + k * (deepO h).length) else []) ++ [(6, ⟨#[]⟩, 0, (((deepL k h).length : Nat) : Int))]) hb1 (by decide) (by decide) (by
    split
    · cases k with
      | zero => rfl
      | succ k => rfl
    · rfl) (by decide) (by
    rw [← hsz]
    by_cases h0 : h = 0
    · rw [if_pos h0]
      rw [if_pos h0] at hb1
      have hb2 : bs s = (A ++ [97]) ++ (repB [41] k ++ []) := by simpa using hb1
      have hl : (A ++ [97]).length = 21 + k * (deepO h).length := by rw [List.length_append, hA]; simp; omega
      have := lx_rep (s := s) (o := [41]) (T := clT) (fun A r h l hx => lx_sign h (by decide) hx) k (A ++ [97]) [] [(6, ⟨#[]⟩, 0, (s.size : Int))] hb2 (by
        have := size_list hb2
        rw [List.append_nil, repB_len] at this
        rw [← this]
        exact lx_fin)
      rw [hl] at this
      rw [show A.length + (([] : List UInt8).length + 1) = 21 + k * (deepO h).length from by rw [hA]; simp; omega]
      exact this
    · rw [if_neg h0]
      rw [if_neg h0] at hb1
      have := size_list hb1
      rw [show A.length + (([] : List UInt8).length + 1) = s.size from by rw [this]; simp]
      exact lx_fin)
  rw [show (⟨[97].toArray⟩ : ByteArray) = ⟨#[97]⟩ from rfl, hw, hA] at this
  rw [hA]
  exact this
theorem deep_step {s : ByteArray} {h : Nat} (h3 : h < 3) : ∀ A r, bs s = A ++ (deepO h ++ r) → ∀ l, Lx s (A.length + (deepO h).length) l 0 0 → Lx s A.length (opT h A.length :: l) 0 0 := by
  intro A r hb l hx
  match h, h3 with
  | 0, _ => exact lx_sign hb (by decide) hx
  | 1, _ => exact lx_sign hb (by decide) hx
  | 2, _ =>
    have hb' : bs s = A ++ ([110, 111, 116] ++ 32 :: r) := hb
    have hb0 : bs s = A ++ ([110, 111, 116, 32] ++ r) := hb
    have hb2 : bs s = (A ++ [110, 111, 116]) ++ 32 :: r := by simpa using hb0
    have hx' : Lx s (A.length + 4) l 0 0 := hx
    have := lx_name (n := [111, 116]) (l := l) hb' (by decide) (by decide) rfl (by decide) (by
      have := lx_space hb2 (l := l) (a := 0) (e := 0) (by rw [List.length_append]; exact hx')
      rw [List.length_append] at this
      exact this)
    rw [show (⟨[110, 111, 116].toArray⟩ : ByteArray) = ⟨#[110, 111, 116]⟩ from rfl, show (if isW ⟨#[110, 111, 116]⟩ then (2 : Int) else 1) = 2 from by decide] at this
    exact this
theorem deep_lex {s : ByteArray} {k h : Nat} (h3 : h < 3) (hs : bs s = deepL k h) (hz : s.size ≤ 400) : LexR s (deepT k h) 0 0 := by
  refine .inr ⟨hz, ?_⟩
  have q0 : bs s = [] ++ ([100, 101, 108, 101, 116, 101] ++ (32 :: [102, 114, 111, 109, 32, 116, 32, 119, 104, 101, 114, 101, 32] ++ (repB (deepO h) k ++ (97 :: (if h = 0 then repB [41] k else []))))) := by rw [hs]; rfl
  generalize hT : repB (deepO h) k ++ (97 :: (if h = 0 then repB [41] k else [])) = Z at *
  have q1 : bs s = [100, 101, 108, 101, 116, 101] ++ 32 :: ([102, 114, 111, 109, 32, 116, 32, 119, 104, 101, 114, 101, 32] ++ Z) := q0
  have q2 : bs s = [100, 101, 108, 101, 116, 101, 32] ++ ([102, 114, 111, 109] ++ (32 :: [116, 32, 119, 104, 101, 114, 101, 32] ++ Z)) := q0
  have q3 : bs s = [100, 101, 108, 101, 116, 101, 32, 102, 114, 111, 109] ++ 32 :: ([116, 32, 119, 104, 101, 114, 101, 32] ++ Z) := q0
  have q4 : bs s = [100, 101, 108, 101, 116, 101, 32, 102, 114, 111, 109, 32] ++ ([116] ++ (32 :: [119, 104, 101, 114, 101, 32] ++ Z)) := q0
  have q5 : bs s = [100, 101, 108, 101, 116, 101, 32, 102, 114, 111, 109, 32, 116] ++ 32 :: ([119, 104, 101, 114, 101, 32] ++ Z) := q0
  have q6 : bs s = [100, 101, 108, 101, 116, 101, 32, 102, 114, 111, 109, 32, 116, 32] ++ ([119, 104, 101, 114, 101] ++ (32 :: Z)) := q0
  have q7 : bs s = [100, 101, 108, 101, 116, 101, 32, 102, 114, 111, 109, 32, 116, 32, 119, 104, 101, 114, 101] ++ 32 :: Z := q0
  have q8 : bs s = preD ++ Z := q0
  refine lx_name (n := [101, 108, 101, 116, 101]) q0 (by decide) (by decide) rfl (by decide) (lx_space q1 ?_)
  refine lx_name (n := [114, 111, 109]) q2 (by decide) (by decide) rfl (by decide) (lx_space q3 ?_)
  refine lx_name (n := []) q4 (by decide) (by decide) rfl (by decide) (lx_space q5 ?_)
  refine lx_name (n := [104, 101, 114, 101]) q6 (by decide) (by decide) rfl (by decide) (lx_space q7 ?_)
  subst hT
  refine lx_rep (deep_step h3) k preD _ _ q8 ?_
  have q9 : bs s = (preD ++ repB (deepO h) k) ++ 97 :: (if h = 0 then repB [41] k else []) := by rw [q8, List.append_assoc]
  have hl : (preD ++ repB (deepO h) k).length = 20 + k * (deepO h).length := by rw [List.length_append, repB_len]; rfl
  have := deep_end hs _ hl q9
  rw [hl] at this
  exact this
def chkD (k h : Nat) : Bool := match parseW (deepT k h) with
  | .inl x => decide (64 < k) && decide (x = (((20 + 64 * (deepO h).length : Nat) : Int), 6))
  | .inr m => decide (k ≤ 64)
theorem chkD_0 : ∀ k, k < 100 → chkD k 0 = true := by decide +kernel
theorem chkD_1 : ∀ k, k < 100 → chkD k 1 = true := by decide +kernel
theorem chkD_2 : ∀ k, k < 100 → chkD k 2 = true := by decide +kernel
theorem deep_told {s : ByteArray} {k h : Nat} (h3 : h < 3) (hk : k < 100) (hs : bs s = deepL k h) {X : Option Sf} {a f : Int} (hp : PaR s X a f) :
    (400 < s.size → a = 0 ∧ f = 7) ∧ (s.size ≤ 400 → (64 < k → a = ((20 + 64 * (deepO h).length : Nat) : Int) ∧ f = 6) ∧ (k ≤ 64 → f = 0)) := by
  refine ⟨fun hz => ?_, fun hz => ?_⟩
  · have hl : LexR s [] 0 7 := .inl ⟨hz, rfl, rfl, rfl⟩
    obtain ⟨ts, b, e, h1, h2⟩ := hp
    obtain ⟨_, rfl, rfl⟩ := hl.det h1
    rcases h2 with ⟨_, _, rfl, rfl⟩ | ⟨he, _⟩
    · exact ⟨rfl, rfl⟩
    · cases he
  · have hl := deep_lex h3 hs hz
    obtain ⟨ts, b, e, h1, h2⟩ := hp
    obtain ⟨rfl, rfl, rfl⟩ := hl.det h1
    have hc : chkD k h = true := by
      match h, h3 with
      | 0, _ => exact chkD_0 k hk
      | 1, _ => exact chkD_1 k hk
      | 2, _ => exact chkD_2 k hk
    unfold chkD at hc
    rcases h2 with ⟨he, _⟩ | ⟨_, ⟨x, hx, _, rfl, rfl, _⟩ | ⟨m, r, hx, _, rfl, rfl⟩⟩
    · exact absurd rfl he
    · rw [hx] at hc
      simp only [Bool.and_eq_true, decide_eq_true_eq] at hc
      obtain ⟨c1, rfl⟩ := hc
      exact ⟨fun _ => ⟨rfl, rfl⟩, fun hh => by omega⟩
    · rw [hx] at hc
      simp only [decide_eq_true_eq] at hc
      exact ⟨fun hh => by omega, fun _ => rfl⟩

end Go.Proofs.Ytjlmcnbmhgabpaa
