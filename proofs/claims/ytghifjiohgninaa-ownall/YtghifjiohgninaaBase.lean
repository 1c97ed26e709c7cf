/- What the walks of this seat share: how a slice of whole numbers that may be read is told ('Rd'), and that it stays so while nothing old is written. -/
import Derived.Test.YtghifjiohgninaaRows
import Derived.WalkKit
import Derived.WalkSpells
import Derived.WalkLawsBesides
import Derived.BigQuiet
import Derived.Deep.QuietTactic
namespace Go.Proofs.Ytghifjiohgninaa
open Go.RowKit
set_option linter.unusedVariables false

/-- The number at place i (0 beyond the end); a name of its own, so that the walk does not spell it anew. -/
def nth (xs : List Int) (i : Nat) : Int := xs[i]?.getD 0

/-- The slice value '.slice ao n c' reads, in w, as the n numbers xs of kind k. -/
structure Rd (k : IntKind) (w : World) (ao : Option Addr) (n c : Nat) (xs : List Int) : Prop where
  len : xs.length = n
  cap : n ≤ c
  max : c ≤ 9223372036854775807
  non : ao = none → c = 0
  cells : 0 < n → ∃ b o, ao = some ⟨b, o, none⟩ ∧ ∀ i, i < n → w.cell? ⟨b, o + i, none⟩ = some (.int k (nth xs i))

theorem Rd.nil (k : IntKind) (w : World) : Rd k w none 0 0 [] := ⟨rfl, Nat.le_refl _, by omega, fun _ => rfl, fun h => absurd h (Nat.lt_irrefl _)⟩

theorem Rd.later {k : IntKind} {w w' : World} {ao : Option Addr} {n c : Nat} {xs : List Int} (h : Rd k w ao n c xs) (hb : Below w.heap.size w w') : Rd k w' ao n c xs :=
  ⟨h.len, h.cap, h.max, h.non, fun hn => by
    obtain ⟨b, o, ha, hc⟩ := h.cells hn
    exact ⟨b, o, ha, fun i hi => cell_later hb (hc i hi)⟩⟩

/-- Numbers that fit a uint16. -/
def U16 (xs : List Int) : Prop := ∀ x ∈ xs, 0 ≤ x ∧ x ≤ 65535

/-- Does each number stand above the one ahead of it? -/
def risesB : List Int → Bool
  | x :: y :: r => decide (x < y) && risesB (y :: r)
  | _ => true

theorem risesB_iff (xs : List Int) : risesB xs = true ↔ ∀ i, i + 1 < xs.length → nth xs i < nth xs (i + 1) := by
  induction xs with
  | nil => simp [risesB]
  | cons x r ih =>
    cases r with
    | nil => simp [risesB]
    | cons y r =>
      rw [risesB, Bool.and_eq_true, ih, decide_eq_true_iff]
      constructor
      · intro ⟨h1, h2⟩ i hi
        cases i with
        | zero => simpa [nth] using h1
        | succ i => simpa [nth] using h2 i (by simpa [nth] using hi)
      · intro h
        refine ⟨by simpa [nth] using h 0 (by simp), fun i hi => ?_⟩
        simpa [nth] using h (i + 1) (by simpa [nth] using hi)

/-- The first k rounds of the look have met no fault. -/
def upTo (xs : List Int) (k : Nat) : Prop := ∀ i, i + 1 < k → nth xs i < nth xs (i + 1)

theorem upTo_step {xs : List Int} {k : Nat} (h : upTo xs k) (h1 : nth xs (k - 1) < nth xs k) (hk : 1 ≤ k) : upTo xs (k + 1) := by
  intro i hi
  by_cases e : i + 1 = k
  · have : i = k - 1 := by omega
    subst this
    rw [e]; exact h1
  · exact h i (by omega)

theorem risesB_upTo {xs : List Int} {k : Nat} (h : upTo xs k) (hk : xs.length ≤ k) : risesB xs = true :=
  (risesB_iff xs).2 fun i hi => h i (by omega)

theorem risesB_fault {xs : List Int} {k : Nat} (hk : 1 ≤ k) (hl : k < xs.length) (h : nth xs k ≤ nth xs (k - 1)) : risesB xs = false := by
  cases e : risesB xs with
  | false => rfl
  | true =>
    have := (risesB_iff xs).1 e (k - 1) (by omega)
    rw [show k - 1 + 1 = k from by omega] at this
    omega

theorem ret_bool {a b : Bool} (h : a = b) : Ending.returned (.bool a) = .returned (.bool b) := by rw [h]
theorem ret_int {k : IntKind} {a b : Int} (h : a = b) : Ending.returned (.int k a) = .returned (.int k b) := by rw [h]
theorem le8 (n : Nat) : decide ((n : Int) ≤ 8) = decide (n ≤ 8) := by rw [Bool.eq_iff_iff]; simp; omega

/-- How many elements a slice value has: for a loop's measure. -/
def lenOf : Value → Nat | .slice _ n _ => n | _ => 0

theorem drop_nth {xs : List Int} {k : Nat} (h : k < xs.length) : xs.drop k = nth xs k :: xs.drop (k + 1) := by
  rw [List.drop_eq_getElem_cons h, nth, List.getElem?_eq_getElem h]; rfl

theorem nth_zero (y : Int) (r : List Int) : nth (y :: r) 0 = y := rfl
theorem nth_succ (y : Int) (r : List Int) (i : Nat) : nth (y :: r) (i + 1) = nth r i := by simp [nth]

/-- The slice without its first element. -/
theorem Rd.tail {k : IntKind} {w : World} {b o m d : Nat} {y : Int} {r : List Int} (h : Rd k w (some ⟨b, o, none⟩) (m + 1) d (y :: r)) (ao : Option Addr) (dd : Nat) (hd : dd = d - 1) (ha : 0 < m → ao = some ⟨b, o + 1, none⟩) (hn : ao ≠ none) : Rd k w ao m dd r := by
  subst hd
  have hl := h.len
  have hc := h.cap
  have hm := h.max
  refine ⟨by simpa using hl, by omega, by omega, fun e => absurd e hn, fun hp => ⟨b, o + 1, ha hp, fun i hi => ?_⟩⟩
  obtain ⟨b', o', e, hcell⟩ := h.cells (by omega)
  cases e
  have := hcell (i + 1) (by omega)
  rw [nth_succ] at this
  rw [← this, show o + 1 + i = o + (i + 1) from by omega]

/-- What a call has built by appends, read as a slice. -/
theorem Rd.of_owns {k : IntKind} {w : World} {base e : Nat} {v : Value} {out : List Int} (h : w.ownsRow base e 1 v out.length (out.map (Value.int k))) : ∃ ao c, v = .slice ao out.length c ∧ Rd k w ao out.length c out := by
  rcases h.2 with ⟨rfl, h0⟩ | ⟨g, cap, cur, rfl, hb, hg, hn, hc, hs, ht⟩
  · have : out = [] := List.eq_nil_of_length_eq_zero h0
    subst this
    exact ⟨none, 0, rfl, Rd.nil k w⟩
  · refine ⟨_, cap, rfl, ⟨rfl, hn, hc, fun e => by simp at e, fun hp => ⟨g, 0, rfl, fun i hi => ?_⟩⟩⟩
    have := h.cellAt i (by omega)
    rw [show 0 + i = i from by omega, this, List.getElem?_map, nth, List.getElem?_eq_getElem hi]
    rfl

/-- An append of one number to what the call has built. -/
theorem owns_snoc {k : IntKind} {w : World} {base e : Nat} {v : Value} {out : List Int} {x : Int} (h : w.ownsRow base e 1 v (out.length + 1) (out.map (Value.int k) ++ [.int k x])) : w.ownsRow base e 1 v (out ++ [x]).length ((out ++ [x]).map (Value.int k)) := by
  simpa using h

theorem owns_app {k : IntKind} {w : World} {base e : Nat} {v : Value} {out xs : List Int} {n : Nat} (hn : xs.length = n) (h : w.ownsRow base e 1 v (out.length + n) (out.map (Value.int k) ++ xs.map (Value.int k))) : w.ownsRow base e 1 v (out ++ xs).length ((out ++ xs).map (Value.int k)) := by
  subst hn
  simpa using h

theorem below_grown {B : Nat} {a w w' : World} {base e size : Nat} {v : Value} {n : Nat} {xs : List Value} (hb : Below B a w) (hB : B ≤ w.heap.size) (h : w.ownsRow base e size v n xs) (hbase : B ≤ base) (hg : w.grownBy w' v.ownBlock) : Below B a w' :=
  hb.grown hg hB fun k hk => Nat.le_trans hbase (h.lt k hk).1

/-- The cells that a slice that may be read hands to an append. -/
theorem Rd.news {k : IntKind} {w : World} {ad : Addr} {n c : Nat} {xs : List Int} (h : Rd k w (some ad) n c xs) : ∀ j u, (xs.map (Value.int k))[j]? = some u → w.cell? (ad.add j) = some u := by
  intro j u hj
  rw [List.getElem?_map] at hj
  obtain ⟨x, hx, rfl⟩ := Option.map_eq_some_iff.1 hj
  have hl : j < xs.length := (List.getElem?_eq_some_iff.1 hx).1
  have hn := h.len
  obtain ⟨b, o, e, hc⟩ := h.cells (by omega)
  cases e
  rw [show (⟨b, o, none⟩ : Addr).add j = ⟨b, o + j, none⟩ from by simp [Addr.add], hc j (by omega), nth, hx]
  rfl

theorem ints_one (k : IntKind) (xs : List Int) : ∀ u ∈ xs.map (Value.int k), u.oneCell' = true := by
  intro u hu
  obtain ⟨x, _, rfl⟩ := List.mem_map.1 hu
  rfl

theorem Try.info33 : (Try.prog.info? 33).map (fun i => (i.zero, i.size, i.bytes)) = some (some (.int .u16 0), 1, 2) := by kernel_rfl

end Go.Proofs.Ytghifjiohgninaa
