/- The walk of 'quarantineref1.all': tags, rising, each once. -/
import Derived.Test.YtgmodalpmicmnabRef
import Derived.Test.YtgmodalpmicmnabTake
import Derived.Deep.RegionHeld3
namespace Go.Proofs.Ytgmodalpmicmnab
open Go.RowKit
set_option linter.unusedVariables false

/-- A tag among rising ones, if it is not there. -/
def insU (t : Int) : List Int → List Int
  | [] => [t]
  | y :: r => if y < t then y :: insU t r else if y = t then y :: r else t :: y :: r

def allL (l : List Int) : List Int := l.foldl (fun out t => insU t out) []

theorem insU_at : ∀ {out : List Int} {t : Int} {k : Nat}, k ≤ out.length → (∀ j, j < k → nth out j < t) → (k < out.length → t < nth out k) → insU t out = out.take k ++ t :: out.drop k := by
  intro out
  induction out with
  | nil => intro t k hk _ _; simp at hk; subst hk; rfl
  | cons y r ih =>
    intro t k hk h1 h2
    cases k with
    | zero =>
      have := h2 (by simp)
      rw [nth_zero] at this
      rw [insU, if_neg (by omega), if_neg (by omega)]; rfl
    | succ k =>
      have := h1 0 (by omega)
      rw [nth_zero] at this
      rw [insU, if_pos this, ih (by simpa using hk) (fun j hj => by have := h1 (j + 1) (by omega); rwa [nth_succ] at this) (fun hk' => by have := h2 (by simpa using hk'); rwa [nth_succ] at this)]
      rfl

theorem insU_there : ∀ {out : List Int} {t : Int} {k : Nat}, k < out.length → (∀ j, j < k → nth out j < t) → nth out k = t → insU t out = out := by
  intro out
  induction out with
  | nil => intro t k hk; simp at hk
  | cons y r ih =>
    intro t k hk h1 h2
    cases k with
    | zero => rw [nth_zero] at h2; subst h2; rw [insU, if_neg (by omega), if_pos rfl]
    | succ k =>
      have := h1 0 (by omega)
      rw [nth_zero] at this
      rw [nth_succ] at h2
      rw [insU, if_pos this, ih (by simpa using hk) (fun j hj => by have := h1 (j + 1) (by omega); rwa [nth_succ] at this) h2]

theorem insU_len (t : Int) (out : List Int) : (insU t out).length ≤ out.length + 1 := by
  induction out with
  | nil => simp [insU]
  | cons y r ih =>
    rw [insU]
    split
    · simp; omega
    · split <;> simp

/-- The first i tags put in. -/
def allTo (l : List Int) (i : Nat) : List Int := allL (l.take i)

theorem allTo_succ {l : List Int} {i : Nat} (h : i < l.length) : allTo l (i + 1) = insU (nth l i) (allTo l i) := by
  rw [allTo, allTo, allL, allL, List.take_succ_eq_append_getElem h, List.foldl_append, nth, List.getElem?_eq_getElem h]; rfl

theorem allTo_len (l : List Int) (i : Nat) : (allTo l i).length ≤ i := by
  induction i with
  | zero => simp [allTo, allL]
  | succ i ih =>
    by_cases h : i < l.length
    · rw [allTo_succ h]; have := insU_len (nth l i) (allTo l i); omega
    · rw [allTo, List.take_of_length_le (by omega)]
      rw [allTo, List.take_of_length_le (by omega)] at ih
      omega

theorem Rd.drewN {k : IntKind} {w : World} {ao : Option Addr} {n c : Nat} {xs : List Int} (h : Rd k w ao n c xs) (m : Nat) : Rd k (w.drewN m) ao n c xs := ⟨h.len, h.cap, h.max, h.non, h.cells⟩

/-- An append to a row of the call's own, as one step of a region that draws its order; what lay there before Y's end is as it was, and so is every other block's cell. -/
theorem step_append_below {P : Program} {ops : Array Oper} {o : Oper} {a : Act} {w : World} {K : Act → World → Prop} {Q : Exit → Act → World → Prop} {E : Prop}
    (hg : o.guard = none) (s x : Operand) (t : TypeId) (hop : o.op = Op.call { callee := Callee.builtin Builtin.append, args := #[s, x], argTypes := #[t, t] })
    (e : TypeId) (i : TypeInfo) (z : Value) (size bytes : Nat) (ht : P.underlying t = some (.slice e)) (hi : P.info? e = some i) (hz : i.zero = some z)
    (hsize : i.size = size) (hby : i.bytes = bytes) (hzs : z.cells.size = size) (hsz : 0 < size) (Y : World) (hbel : Below Y.heap.size Y w)
    (v : Value) (n : Nat) (xs : List Value) (hs : a.eval s = v) (hown : w.ownsRow Y.heap.size e size v n xs)
    (ad : Addr) (m c : Nat) (news : List Value) (hx : a.eval x = .slice (some ad) m c) (hl : news.length = m * size) (hnews : ∀ j u, news[j]? = some u → w.cell? (ad.add j) = some u) (h1 : ∀ u ∈ news, u.oneCell' = true)
    (h63 : n + m ≤ maxLen) (hbytes : (n + m) * bytes ≤ 140737488355328)
    (hK : ∀ v' w', w'.ownsRow Y.heap.size e size v' (n + m) (xs ++ news) → Below Y.heap.size Y w' → (∀ b o u, w.cell? ⟨b, o, none⟩ = some u → some b ≠ v.ownBlock → w'.cell? ⟨b, o, none⟩ = some u) → K (a.put o.dst v') w') :
    if Region.wanted o (yielded ops a.tmps) = true then Oper.wp P o a w K Q else E := by
  refine step_append_own hg s x t hop Y.heap.size e i z size bytes ht hi hz hsize hby hzs hsz v n xs hs hown ad m c news hx hl hnews h1 h63 hbytes hbel.size fun v' w' h2 h3 => ?_
  refine hK v' w' h2 (below_grown hbel hbel.size hown (Nat.le_refl _) h3) fun b o u hu hb => ?_
  have hlt : b < w.heap.size := World.block_lt_of_cell? _ _ hu
  rw [← hu]
  exact World.cell?_of_block (h3.block b hlt hb)

theorem step_append_none {P : Program} {ops : Array Oper} {o : Oper} {a : Act} {w : World} {K : Act → World → Prop} {Q : Exit → Act → World → Prop} {E : Prop}
    (hg : o.guard = none) (s x : Operand) (t : TypeId) (hop : o.op = Op.call { callee := Callee.builtin Builtin.append, args := #[s, x], argTypes := #[t, t] })
    (base : Nat) (e : TypeId) (i : TypeInfo) (size : Nat) (ht : P.underlying t = some (.slice e)) (hi : P.info? e = some i)
    (v : Value) (n : Nat) (xs : List Value) (hs : a.eval s = v) (hown : w.ownsRow base e size v n xs) (hx : a.eval x = .slice none 0 0) (hK : K (a.put o.dst v) w) :
    if Region.wanted o (yielded ops a.tmps) = true then Oper.wp P o a w K Q else E := by
  have hw : Region.wanted o (yielded ops a.tmps) = true := by simp [Region.wanted, hg]
  rw [if_pos hw]
  have hrun := run_append_owned_none (P := P) (w := w) base t o.type e i size ht hi v n xs hown
  unfold Oper.wp
  simp [execOp, hop, resolve, invoke, builtin, hs, hx, hrun, Result.andThen]
  exact hK

theorem owns_base {w : World} {base base' e size : Nat} {v : Value} {n : Nat} {xs : List Value} (h : w.ownsRow base e size v n xs) (hb : base' ≤ base) : w.ownsRow base' e size v n xs := by
  refine ⟨h.1, ?_⟩
  rcases h.2 with k | ⟨g, cap, cur, hv, hg, r⟩
  · exact .inl k
  · exact .inr ⟨g, cap, cur, hv, by omega, r⟩

/-- What the three appends have built is the tag among the others. -/
theorem all_end {w W w3 : World} {v : Value} {pre suf : List Int} {t : Int} {m : Nat} (hW : w.heap.size ≤ W.heap.size) (hm : m = (pre ++ t :: suf).length)
    (h : w3.ownsRow W.heap.size 28 1 v m (pre.map (Value.int .u16) ++ [.int .u16 t] ++ suf.map (Value.int .u16))) :
    w3.ownsRow w.heap.size 28 1 v (pre ++ t :: suf).length ((pre ++ t :: suf).map (Value.int .u16)) := by
  subst hm
  have := owns_base h hW
  simpa using this

/-- Is the operation this append? -/
theorem step_guard {P : Program} {Y : Nat → Option Bool} {o : Oper} {a : Act} {w : World} {K : Act → World → Prop} {Q : Exit → Act → World → Prop} {E : Prop} (s x : Operand) (t : TypeId)
    (h : o.op = Op.call { callee := Callee.builtin Builtin.append, args := #[s, x], argTypes := #[t, t] }) (g : if Region.wanted o Y = true then Oper.wp P o a w K Q else E) : if Region.wanted o Y = true then Oper.wp P o a w K Q else E := g

theorem one_of {w : World} {g : Nat} {x : Value} (h : w.cell? ⟨g, 0, none⟩ = some x) : ∀ (j : Nat) (u : Value), [x][j]? = some u → w.cell? ((⟨g, 0, none⟩ : Addr).add j) = some u := by
  intro j u hj
  match j, hj with
  | 0, hj =>
    simp at hj
    subst hj
    simpa [Addr.add] using h

end Go.Proofs.Ytgmodalpmicmnab
