import Derived.Test.YtnboooaockgoiabRows
import Derived.WalkKit
import Derived.WalkSpells
import Derived.WalkLawsBesides
import Derived.BigQuiet
import Derived.Deep.QuietTactic
import Derived.Deep.RegionLaw
import Derived.Deep.DeepCutAuto
import Derived.Deep.CutBlock
import Derived.Laws.BitsAllLaws
import Derived.Laws.BytesArg
import Derived.ProofKit
import Derived.OpenShut
import Derived.ShutString
import Derived.ChangeOld
import Derived.Below
import Derived.Deep.Strs
import Derived.ChangeMaps5
import Derived.Deep.AppendSrc
import Derived.Lib.Bytealg
/- What the walks of this seat share: slices of whole numbers that may be read, texts as numbers, lists in order. -/
namespace Go.Proofs.Ytnboooaockgoiab
open Go.RowKit
set_option linter.unusedVariables false

/-- The number at place i (0 beyond the end); a name of its own, so that the walk does not spell it anew. -/
def nth (xs : List Int) (i : Nat) : Int := xs[i]?.getD 0

/-- The slice value '.slice ao n c' reads, in w, as the n numbers xs of kind k. -/
structure Rd (k : IntKind) (w : World) (ao : Option Addr) (n c : Nat) (xs : List Int) : Prop where
  len : xs.length = n
  cap : n ≤ c
  max : c ≤ 9223372036854775807
  non : ao = none → c = 0
  cells : 0 < n → ∃ b o, ao = some ⟨b, o, none⟩ ∧ ∀ i, i < n → w.cell? ⟨b, o + i, none⟩ = some (.int k (nth xs i))

theorem Rd.nil (k : IntKind) (w : World) : Rd k w none 0 0 [] := ⟨rfl, Nat.le_refl _, by omega, fun _ => rfl, fun h => absurd h (Nat.lt_irrefl _)⟩

theorem Rd.later {k : IntKind} {w w' : World} {ao : Option Addr} {n c : Nat} {xs : List Int} (h : Rd k w ao n c xs) (hb : Below w.heap.size w w') : Rd k w' ao n c xs :=
  ⟨h.len, h.cap, h.max, h.non, fun hn => by
    obtain ⟨b, o, ha, hc⟩ := h.cells hn
    exact ⟨b, o, ha, fun i hi => cell_later hb (hc i hi)⟩⟩

theorem ret_bool {a b : Bool} (h : a = b) : Ending.returned (.bool a) = .returned (.bool b) := by rw [h]
theorem ret_int {k : IntKind} {a b : Int} (h : a = b) : Ending.returned (.int k a) = .returned (.int k b) := by rw [h]
theorem le8 (n : Nat) : decide ((n : Int) ≤ 8) = decide (n ≤ 8) := by rw [Bool.eq_iff_iff]; simp; omega

/-- How many elements a slice value has: for a loop's measure. -/
def lenOf : Value → Nat | .slice _ n _ => n | _ => 0

theorem drop_nth {xs : List Int} {k : Nat} (h : k < xs.length) : xs.drop k = nth xs k :: xs.drop (k + 1) := by
  rw [List.drop_eq_getElem_cons h, nth, List.getElem?_eq_getElem h]; rfl

theorem nth_zero (y : Int) (r : List Int) : nth (y :: r) 0 = y := rfl
theorem nth_succ (y : Int) (r : List Int) (i : Nat) : nth (y :: r) (i + 1) = nth r i := by simp [nth]

/-- The slice without its first element. -/
theorem Rd.tail {k : IntKind} {w : World} {b o m d : Nat} {y : Int} {r : List Int} (h : Rd k w (some ⟨b, o, none⟩) (m + 1) d (y :: r)) (ao : Option Addr) (dd : Nat) (hd : dd = d - 1) (ha : 0 < m → ao = some ⟨b, o + 1, none⟩) (hn : ao ≠ none) : Rd k w ao m dd r := by
  subst hd
  have hl := h.len
  have hc := h.cap
  have hm := h.max
  refine ⟨by simpa using hl, by omega, by omega, fun e => absurd e hn, fun hp => ⟨b, o + 1, ha hp, fun i hi => ?_⟩⟩
  obtain ⟨b', o', e, hcell⟩ := h.cells (by omega)
  cases e
  have := hcell (i + 1) (by omega)
  rw [nth_succ] at this
  rw [← this, show o + 1 + i = o + (i + 1) from by omega]

/-- What a call has built by appends, read as a slice. -/
theorem Rd.of_owns {k : IntKind} {w : World} {base e : Nat} {v : Value} {out : List Int} (h : w.ownsRow base e 1 v out.length (out.map (Value.int k))) : ∃ ao c, v = .slice ao out.length c ∧ Rd k w ao out.length c out := by
  rcases h.2 with ⟨rfl, h0⟩ | ⟨g, cap, cur, rfl, hb, hg, hn, hc, hs, ht⟩
  · have : out = [] := List.eq_nil_of_length_eq_zero h0
    subst this
    exact ⟨none, 0, rfl, Rd.nil k w⟩
  · refine ⟨_, cap, rfl, ⟨rfl, hn, hc, fun e => by simp at e, fun hp => ⟨g, 0, rfl, fun i hi => ?_⟩⟩⟩
    have := h.cellAt i (by omega)
    rw [show 0 + i = i from by omega, this, List.getElem?_map, nth, List.getElem?_eq_getElem hi]
    rfl

/-- An append of one number to what the call has built. -/
theorem owns_snoc {k : IntKind} {w : World} {base e : Nat} {v : Value} {out : List Int} {x : Int} (h : w.ownsRow base e 1 v (out.length + 1) (out.map (Value.int k) ++ [.int k x])) : w.ownsRow base e 1 v (out ++ [x]).length ((out ++ [x]).map (Value.int k)) := by
  simpa using h

theorem owns_app {k : IntKind} {w : World} {base e : Nat} {v : Value} {out xs : List Int} {n : Nat} (hn : xs.length = n) (h : w.ownsRow base e 1 v (out.length + n) (out.map (Value.int k) ++ xs.map (Value.int k))) : w.ownsRow base e 1 v (out ++ xs).length ((out ++ xs).map (Value.int k)) := by
  subst hn
  simpa using h

theorem below_grown {B : Nat} {a w w' : World} {base e size : Nat} {v : Value} {n : Nat} {xs : List Value} (hb : Below B a w) (hB : B ≤ w.heap.size) (h : w.ownsRow base e size v n xs) (hbase : B ≤ base) (hg : w.grownBy w' v.ownBlock) : Below B a w' :=
  hb.grown hg hB fun k hk => Nat.le_trans hbase (h.lt k hk).1

/-- The cells that a slice that may be read hands to an append. -/
theorem Rd.news {k : IntKind} {w : World} {ad : Addr} {n c : Nat} {xs : List Int} (h : Rd k w (some ad) n c xs) : ∀ j u, (xs.map (Value.int k))[j]? = some u → w.cell? (ad.add j) = some u := by
  intro j u hj
  rw [List.getElem?_map] at hj
  obtain ⟨x, hx, rfl⟩ := Option.map_eq_some_iff.1 hj
  have hl : j < xs.length := (List.getElem?_eq_some_iff.1 hx).1
  have hn := h.len
  obtain ⟨b, o, e, hc⟩ := h.cells (by omega)
  cases e
  rw [show (⟨b, o, none⟩ : Addr).add j = ⟨b, o + j, none⟩ from by simp [Addr.add], hc j (by omega), nth, hx]
  rfl

theorem ints_one (k : IntKind) (xs : List Int) : ∀ u ∈ xs.map (Value.int k), u.oneCell' = true := by
  intro u hu
  obtain ⟨x, _, rfl⟩ := List.mem_map.1 hu
  rfl

theorem Try.info5 : (Try.prog.info? 5).map (fun i => (i.zero, i.size, i.bytes)) = some (some (.int .u8 0), 1, 1) := by kernel_rfl

set_option linter.unusedVariables false

/-- -1, 0, 1: how two numbers stand. -/
def cmpI (x y : Int) : Int := if x < y then -1 else if y < x then 1 else 0

theorem cmpI_lt {x y : Int} (h : x < y) : cmpI x y = -1 := if_pos h

theorem cmpI_gt {x y : Int} (h : y < x) : cmpI x y = 1 := by rw [cmpI, if_neg (by omega), if_pos h]

theorem cmpI_eq (x : Int) : cmpI x x = 0 := by simp [cmpI]

/-- Two lists, number by number; a beginning of another stands ahead of it. -/
def lexI : List Int → List Int → Int
  | [], [] => 0
  | [], _ :: _ => -1
  | _ :: _, [] => 1
  | x :: xs, y :: ys => if x < y then -1 else if y < x then 1 else lexI xs ys

theorem lexI_lt {x y : Int} (xs ys : List Int) (h : x < y) : lexI (x :: xs) (y :: ys) = -1 := by rw [lexI, if_pos h]

theorem lexI_gt {x y : Int} (xs ys : List Int) (h : y < x) : lexI (x :: xs) (y :: ys) = 1 := by rw [lexI, if_neg (by omega), if_pos h]

theorem lexI_eq (x : Int) (xs ys : List Int) : lexI (x :: xs) (x :: ys) = lexI xs ys := by rw [lexI, if_neg (by omega), if_neg (by omega)]

theorem lexI_self (xs : List Int) : lexI xs xs = 0 := by
  induction xs with
  | nil => rfl
  | cons x xs ih => rw [lexI_eq]; exact ih

set_option linter.unusedVariables false

theorem lexI_vals : ∀ (A B : List Int), lexI A B = -1 ∨ lexI A B = 0 ∨ lexI A B = 1 := by
  intro A
  induction A with
  | nil => intro B; cases B <;> simp [lexI]
  | cons x r ih =>
    intro B
    cases B with
    | nil => simp [lexI]
    | cons y q =>
      rw [lexI]
      split
      · simp
      · split
        · simp
        · exact ih q

theorem owns_drewN {w : World} {base e size : Nat} {v : Value} {n : Nat} {xs : List Value} (h : w.ownsRow base e size v n xs) (k : Nat) : (w.drewN k).ownsRow base e size v n xs := h

theorem cell_drewN (w : World) (k : Nat) (a : Addr) : (w.drewN k).cell? a = w.cell? a := rfl

theorem snoc_rel {k : IntKind} {W0 wr w1 : World} {B e nq : Nat} {v v' : Value} {out : List Int} {x : Int} {o : Obj} (hown : wr.ownsRow B e 1 v out.length (out.map (Value.int k))) (hB : Below B W0 wr) (hs : B ≤ wr.heap.size)
    (hown' : w1.ownsRow B e 1 v' (out.length + 1) (out.map (Value.int k) ++ [.int k x])) (hg : ((wr.drewN nq).alloc o).grownBy w1 v.ownBlock) :
    w1.ownsRow B e 1 v' (out ++ [x]).length ((out ++ [x]).map (Value.int k)) ∧ Below B W0 w1 :=
  ⟨owns_snoc hown', below_grown ((below_drewN hB nq).alloc hs o) (by simp; omega) (owns_drewN (hown.alloc o) 0) (Nat.le_refl _) hg⟩

theorem app_rel {k : IntKind} {W0 wr w1 : World} {B e n : Nat} {v v' : Value} {out xs : List Int} (hn : xs.length = n) (hown : wr.ownsRow B e 1 v out.length (out.map (Value.int k))) (hB : Below B W0 wr) (hs : B ≤ wr.heap.size)
    (hown' : w1.ownsRow B e 1 v' (out.length + n) (out.map (Value.int k) ++ xs.map (Value.int k))) (hg : wr.grownBy w1 v.ownBlock) :
    w1.ownsRow B e 1 v' (out ++ xs).length ((out ++ xs).map (Value.int k)) ∧ Below B W0 w1 ∧ B ≤ w1.heap.size :=
  ⟨owns_app hn hown', below_grown hB hs hown (Nat.le_refl _) hg, Nat.le_trans hs hg.size⟩

theorem one_new (w : World) (nq : Nat) (x : Value) (e : TypeId) : ∀ (j : Nat) (u : Value), [x][j]? = some u → ((w.drewN nq).alloc (.cells #[x] e)).cell? ((⟨w.heap.size, 0, none⟩ : Addr).add j) = some u := by
  intro j u hj
  match j, hj with
  | 0, hj =>
    simp at hj
    subst hj
    exact cell_one_new (w.drewN nq) x e 0 x rfl

theorem below_box {w w1 : World} {o : Obj} (h : Below (w.heap.size + 1) (w.alloc o) w1) : Below w.heap.size w w1 := ((Below.refl w.heap.size w).alloc (Nat.le_refl _) _).trans (h.mono (by omega))

theorem Rd.none_nil {k : IntKind} {w : World} {n c : Nat} {xs : List Int} (h : Rd k w none n c xs) : n = 0 ∧ c = 0 ∧ xs = [] := by
  have h1 := h.non rfl
  have h2 := h.cap
  have h3 := h.len
  exact ⟨by omega, h1, List.eq_nil_of_length_eq_zero (by omega)⟩

theorem nth_mem {xs : List Int} {i : Nat} (h : i < xs.length) : nth xs i ∈ xs := by
  rw [nth, List.getElem?_eq_getElem h]; exact List.getElem_mem h

theorem step_append_own {P : Program} {ops : Array Oper} {o : Oper} {a : Act} {w : World} {K : Act → World → Prop} {Q : Exit → Act → World → Prop} {E : Prop}
    (hg : o.guard = none) (s x : Operand) (t : TypeId) (hop : o.op = Op.call { callee := Callee.builtin Builtin.append, args := #[s, x], argTypes := #[t, t] })
    (base : Nat) (e : TypeId) (i : TypeInfo) (z : Value) (size bytes : Nat) (ht : P.underlying t = some (.slice e)) (hi : P.info? e = some i) (hz : i.zero = some z)
    (hsize : i.size = size) (hby : i.bytes = bytes) (hzs : z.cells.size = size) (hsz : 0 < size)
    (v : Value) (n : Nat) (xs : List Value) (hs : a.eval s = v) (hown : w.ownsRow base e size v n xs)
    (ad : Addr) (m c : Nat) (news : List Value) (hx : a.eval x = .slice (some ad) m c) (hl : news.length = m * size) (hnews : ∀ j u, news[j]? = some u → w.cell? (ad.add j) = some u) (h1 : ∀ u ∈ news, u.oneCell' = true)
    (h63 : n + m ≤ maxLen) (hbytes : (n + m) * bytes ≤ 140737488355328) (hbase : base ≤ w.heap.size)
    (hK : ∀ v' w', w'.ownsRow base e size v' (n + m) (xs ++ news) → w.grownBy w' v.ownBlock → K (a.put o.dst v') w') :
    if Region.wanted o (yielded ops a.tmps) = true then Oper.wp P o a w K Q else E := by
  have hw : Region.wanted o (yielded ops a.tmps) = true := by simp [Region.wanted, hg]
  rw [if_pos hw]
  obtain ⟨v', w', hr, h2, h3, _⟩ := run_append_own (P := P) w base t o.type e i z size bytes ht hi hz hsize hby hzs hsz v n xs hown ad m c news hl hnews h1 h63 hbytes hbase
  unfold Oper.wp
  simp [execOp, hop, resolve, invoke, builtin, hs, hx, hr, Result.andThen]
  exact hK v' w' h2 h3

theorem one_new0 (w : World) (x : Value) (e : TypeId) : ∀ (j : Nat) (u : Value), [x][j]? = some u → (w.alloc (.cells #[x] e)).cell? ((⟨w.heap.size, 0, none⟩ : Addr).add j) = some u := one_new w 0 x e

theorem snoc_rel0 {k : IntKind} {W0 wr w1 : World} {B e : Nat} {v v' : Value} {out : List Int} {x : Int} {o : Obj} (hown : wr.ownsRow B e 1 v out.length (out.map (Value.int k))) (hB : Below B W0 wr) (hs : B ≤ wr.heap.size)
    (hown' : w1.ownsRow B e 1 v' (out.length + 1) (out.map (Value.int k) ++ [.int k x])) (hg : (wr.alloc o).grownBy w1 v.ownBlock) :
    w1.ownsRow B e 1 v' (out ++ [x]).length ((out ++ [x]).map (Value.int k)) ∧ Below B W0 w1 := snoc_rel (nq := 0) hown hB hs hown' hg

theorem Rd.sub {k : IntKind} {w : World} {b o n c lo hi : Nat} {xs : List Int} (h : Rd k w (some ⟨b, o, none⟩) n c xs) (hl : lo ≤ hi) (hh : hi ≤ n) (ao : Option Addr) (m d : Nat) (hm : m = hi - lo) (hd : d = c - lo) (ha : 0 < m → ao = some ⟨b, o + lo, none⟩) (hn : ao ≠ none) :
    Rd k w ao m d ((xs.drop lo).take m) := by
  have h1 := h.len
  have h2 := h.cap
  have h3 := h.max
  refine ⟨by simp; omega, by omega, by omega, fun e => absurd e hn, fun hp => ⟨b, o + lo, ha hp, fun i hi' => ?_⟩⟩
  obtain ⟨b', o', e, hc⟩ := h.cells (by omega)
  cases e
  have := hc (lo + i) (by omega)
  rw [show o + lo + i = o + (lo + i) from by omega, this]
  simp only [nth]
  rw [List.getElem?_take_of_lt hi', List.getElem?_drop]

theorem Rd.drewN {k : IntKind} {w : World} {ao : Option Addr} {n c : Nat} {xs : List Int} (h : Rd k w ao n c xs) (m : Nat) : Rd k (w.drewN m) ao n c xs := ⟨h.len, h.cap, h.max, h.non, h.cells⟩

/-- An append to a row of the call's own, as one step of a region that draws its order; what lay there before Y's end is as it was, and so is every other block's cell. -/
theorem step_append_below {P : Program} {ops : Array Oper} {o : Oper} {a : Act} {w : World} {K : Act → World → Prop} {Q : Exit → Act → World → Prop} {E : Prop}
    (hg : o.guard = none) (s x : Operand) (t : TypeId) (hop : o.op = Op.call { callee := Callee.builtin Builtin.append, args := #[s, x], argTypes := #[t, t] })
    (e : TypeId) (i : TypeInfo) (z : Value) (size bytes : Nat) (ht : P.underlying t = some (.slice e)) (hi : P.info? e = some i) (hz : i.zero = some z)
    (hsize : i.size = size) (hby : i.bytes = bytes) (hzs : z.cells.size = size) (hsz : 0 < size) (Y : World) (hbel : Below Y.heap.size Y w)
    (v : Value) (n : Nat) (xs : List Value) (hs : a.eval s = v) (hown : w.ownsRow Y.heap.size e size v n xs)
    (ad : Addr) (m c : Nat) (news : List Value) (hx : a.eval x = .slice (some ad) m c) (hl : news.length = m * size) (hnews : ∀ j u, news[j]? = some u → w.cell? (ad.add j) = some u) (h1 : ∀ u ∈ news, u.oneCell' = true)
    (h63 : n + m ≤ maxLen) (hbytes : (n + m) * bytes ≤ 140737488355328)
    (hK : ∀ v' w', w'.ownsRow Y.heap.size e size v' (n + m) (xs ++ news) → Below Y.heap.size Y w' → (∀ b o u, w.cell? ⟨b, o, none⟩ = some u → some b ≠ v.ownBlock → w'.cell? ⟨b, o, none⟩ = some u) → K (a.put o.dst v') w') :
    if Region.wanted o (yielded ops a.tmps) = true then Oper.wp P o a w K Q else E := by
  refine step_append_own hg s x t hop Y.heap.size e i z size bytes ht hi hz hsize hby hzs hsz v n xs hs hown ad m c news hx hl hnews h1 h63 hbytes hbel.size fun v' w' h2 h3 => ?_
  refine hK v' w' h2 (below_grown hbel hbel.size hown (Nat.le_refl _) h3) fun b o u hu hb => ?_
  have hlt : b < w.heap.size := World.block_lt_of_cell? _ _ hu
  rw [← hu]
  exact World.cell?_of_block (h3.block b hlt hb)

theorem step_append_none {P : Program} {ops : Array Oper} {o : Oper} {a : Act} {w : World} {K : Act → World → Prop} {Q : Exit → Act → World → Prop} {E : Prop}
    (hg : o.guard = none) (s x : Operand) (t : TypeId) (hop : o.op = Op.call { callee := Callee.builtin Builtin.append, args := #[s, x], argTypes := #[t, t] })
    (base : Nat) (e : TypeId) (i : TypeInfo) (size : Nat) (ht : P.underlying t = some (.slice e)) (hi : P.info? e = some i)
    (v : Value) (n : Nat) (xs : List Value) (hs : a.eval s = v) (hown : w.ownsRow base e size v n xs) (hx : a.eval x = .slice none 0 0) (hK : K (a.put o.dst v) w) :
    if Region.wanted o (yielded ops a.tmps) = true then Oper.wp P o a w K Q else E := by
  have hw : Region.wanted o (yielded ops a.tmps) = true := by simp [Region.wanted, hg]
  rw [if_pos hw]
  have hrun := run_append_owned_none (P := P) (w := w) base t o.type e i size ht hi v n xs hown
  unfold Oper.wp
  simp [execOp, hop, resolve, invoke, builtin, hs, hx, hrun, Result.andThen]
  exact hK

theorem owns_base {w : World} {base base' e size : Nat} {v : Value} {n : Nat} {xs : List Value} (h : w.ownsRow base e size v n xs) (hb : base' ≤ base) : w.ownsRow base' e size v n xs := by
  refine ⟨h.1, ?_⟩
  rcases h.2 with k | ⟨g, cap, cur, hv, hg, r⟩
  · exact .inl k
  · exact .inr ⟨g, cap, cur, hv, by omega, r⟩

theorem one_of {w : World} {g : Nat} {x : Value} (h : w.cell? ⟨g, 0, none⟩ = some x) : ∀ (j : Nat) (u : Value), [x][j]? = some u → w.cell? ((⟨g, 0, none⟩ : Addr).add j) = some u := by
  intro j u hj
  match j, hj with
  | 0, hj =>
    simp at hj
    subst hj
    simpa [Addr.add] using h

set_option linter.unusedVariables false

theorem owns_drew {w : World} {base e size : Nat} {v : Value} {n : Nat} {xs : List Value} (h : w.ownsRow base e size v n xs) : w.drew.ownsRow base e size v n xs := h

theorem two_of {w : World} {g : Nat} {x y : Value} (h : w.cell? ⟨g, 0, none⟩ = some x) (h1 : w.cell? ⟨g, 1, none⟩ = some y) : ∀ (j : Nat) (u : Value), [x, y][j]? = some u → w.cell? ((⟨g, 0, none⟩ : Addr).add j) = some u := by
  intro j u hj
  match j, hj with
  | 0, hj => simp at hj; subst hj; simpa [Addr.add] using h
  | 1, hj => simp at hj; subst hj; simpa [Addr.add] using h1

theorem fin_rel8 {w wr : World} {B e : Nat} {v : Value} {out res : List Int} (h : wr.ownsRow B e 1 v out.length (out.map (Value.int .u8))) (hb : Below w.heap.size w wr) (he : out = res) :
    ∃ oo p q, Ending.returned v = .returned (.slice oo p q) ∧ Rd .u8 wr oo p q res ∧ Below w.heap.size w wr := by
  obtain ⟨oo, q, hv, hr⟩ := Rd.of_owns h
  exact ⟨oo, _, q, by rw [hv], by rw [← he]; exact hr, hb⟩

set_option linter.unusedVariables false

/-- A text's bytes as numbers. -/
def nums (s : ByteArray) : List Int := s.data.toList.map fun c => (c.toNat : Int)

theorem nums_len (s : ByteArray) : (nums s).length = s.size := by rw [nums, List.length_map, Array.length_toList]; rfl

theorem nums_nth (s : ByteArray) (k : Nat) (h : k < s.size) : nth (nums s) k = (s[k].toNat : Int) := by
  have h' : k < s.data.size := h
  rw [nth, nums, List.getElem?_map, Array.getElem?_toList, Array.getElem?_eq_getElem h']
  rfl

/-- Bytes made a text, and its numbers again. -/
theorem nums_str {xs : List Int} (h : ∀ x ∈ xs, 0 ≤ x ∧ x ≤ 255) : nums (strOfNums xs) = xs := by
  rw [nums, strOfNums_data, List.map_map]
  induction xs with
  | nil => rfl
  | cons x r ih =>
    rw [List.map_cons, ih fun z hz => h z (by simp [hz])]
    have := h x (by simp)
    have e : ((UInt8.ofNat x.toNat).toNat : Int) = x := by
      rw [UInt8.toNat_ofNat']
      omega
    simp only [Function.comp]
    rw [e]

end Go.Proofs.Ytnboooaockgoiab
/- What the proofs of this seat's rows share: a slice of whole numbers that came in may be read as the walks are told it. -/
namespace Go.Proofs.Ytnboooaockgoiab
open Go.ChangeShapes Go.WideShapes Go.ChangeAt Go.RowKit
set_option linter.unusedVariables false

theorem own : ownKnob Try.prog.godebug = none := by kernel_rfl
theorem laidOut : laidOutB Try.prog = true := by kernel_rfl

/-- A slice of whole numbers that came in: nil, or a row of cells with its spare room. -/
def IsRow (k : IntKind) (w : World) (a : Option Addr) (len cap : Nat) (zs : List Int) : Prop :=
  (a = none ∧ len = 0 ∧ cap = 0 ∧ zs = []) ∨
  ∃ x, a = some x ∧ len ≤ cap ∧ cap ≤ maxLen ∧ zs.length = cap ∧ (∀ i, i < zs.length → w.cell? (x.add i) = some (.int k (zs.getD i 0))) ∧ ∀ n ∈ zs, (Lit.int k n).wf = true

theorem Rd.of_row {k : IntKind} {w : World} {a : Option Addr} {len cap : Nat} {zs : List Int} (h : IsRow k w a len cap zs) : Rd k w a len cap (zs.take len) := by
  rcases h with ⟨rfl, rfl, rfl, rfl⟩ | ⟨x, rfl, hl, hm, hz, hc, hw⟩
  · exact Rd.nil k w
  · refine ⟨by simp; omega, hl, hm, fun e => by simp at e, fun hp => ?_⟩
    obtain ⟨b, off, spot⟩ := x
    have h0 := hc 0 (by omega)
    have hspot : spot = none := by simpa [Addr.add] using World.cell?_spot h0
    subst hspot
    refine ⟨b, off, rfl, fun i hi => ?_⟩
    have hi' := hc i (by omega)
    rw [show (⟨b, off, none⟩ : Addr).add i = ⟨b, off + i, none⟩ from by simp [Addr.add]] at hi'
    rw [hi', nth, List.getElem?_take_of_lt hi, List.getD]

/-- Its numbers fit their kind. -/
theorem row_wf {k : IntKind} {w : World} {a : Option Addr} {len cap : Nat} {zs : List Int} (h : IsRow k w a len cap zs) : ∀ n ∈ zs.take len, (Lit.int k n).wf = true := by
  rcases h with ⟨rfl, rfl, rfl, rfl⟩ | ⟨x, rfl, hl, hm, hz, hc, hw⟩
  · intro n hn; simp at hn
  · exact fun n hn => hw n (List.mem_of_mem_take hn)

theorem u8_of_row {w : World} {a : Option Addr} {len cap : Nat} {zs : List Int} (h : IsRow .u8 w a len cap zs) : ∀ x ∈ zs.take len, 0 ≤ x ∧ x ≤ 255 :=
  fun x hx => bounds_u8 (row_wf h x hx)

/-- A byte that came in. -/
theorem u8_is {a : Int} (h : (Lit.int .u8 a).wf = true) : ∃ x : UInt8, a = (x.toNat : Int) := by
  have := bounds_u8 h
  refine ⟨UInt8.ofNat a.toNat, ?_⟩
  rw [UInt8.toNat_ofNat']
  omega

end Go.Proofs.Ytnboooaockgoiab
/- What the walks of this seat share: a whole number that fits 64 bits, or that runs over; the walks of num's add, sub, neg. -/
namespace Go.Proofs.Ytnboooaockgoiab
open Go.RowKit
set_option linter.unusedVariables false

/-- Does a whole number fit 64 bits with a sign? -/
abbrev Fits (z : Int) : Prop := -9223372036854775808 ≤ z ∧ z ≤ 9223372036854775807
/-- The number that is told, and the fault that is told beside it. -/
def nV (z : Int) : Int := if Fits z then z else 0
def nE (z : Int) : Int := if Fits z then 0 else 8
def nA (z : Int) : Value := .tuple #[.int .i64 (nV z), .int .i64 (nE z)]

theorem nA_in {z : Int} (h : Fits z) : nA z = .tuple #[.int .i64 z, .int .i64 0] := by simp [nA, nV, nE, h]
theorem nA_out {z : Int} (h : ¬ Fits z) : nA z = .tuple #[.int .i64 0, .int .i64 8] := by simp [nA, nV, nE, h]

theorem add_fits {a b : Int} (h : Fits (a + b)) : (decide (a + b < a) == decide (b < 0)) = true := by
  have : decide (a + b < a) = decide (b < 0) := by rw [Bool.eq_iff_iff]; simp; omega
  simp [this]
theorem wrap_in {z : Int} (h : Fits z) : wrap64 z = z := by obtain ⟨h1, h2⟩ := h; unfold wrap64; omega
theorem add_over {a b : Int} (ha : Fits a) (hb : Fits b) (h : ¬ Fits (a + b)) : (decide (wrap64 (a + b) < a) == decide (b < 0)) = false := by
  unfold Fits wrap64 at *
  by_cases h0 : b < 0
  · have : ¬ ((a + b + 9223372036854775808) % 18446744073709551616 - 9223372036854775808 < a) := by omega
    simp [this, h0]
  · have : ((a + b + 9223372036854775808) % 18446744073709551616 - 9223372036854775808 < a) := by omega
    simp [this, h0]
theorem sub_fits {a b : Int} (h : Fits (a - b)) : (decide (a - b < a) == decide (0 < b)) = true := by
  have : decide (a - b < a) = decide (0 < b) := by rw [Bool.eq_iff_iff]; simp; omega
  simp [this]
theorem sub_over {a b : Int} (ha : Fits a) (hb : Fits b) (h : ¬ Fits (a - b)) : (decide (wrap64 (a - b) < a) == decide (0 < b)) = false := by
  unfold Fits wrap64 at *
  by_cases h0 : 0 < b
  · have : ¬ ((a - b + 9223372036854775808) % 18446744073709551616 - 9223372036854775808 < a) := by omega
    simp [this, h0]
  · have : ((a - b + 9223372036854775808) % 18446744073709551616 - 9223372036854775808 < a) := by omega
    simp [this, h0]

theorem wrap_fits (z : Int) : Fits (wrap64 z) := by unfold Fits wrap64; omega
theorem wrap_off (z : Int) : ∃ m : Int, z = wrap64 z + m * 18446744073709551616 := ⟨(z + 9223372036854775808) / 18446744073709551616, by unfold wrap64; omega⟩
theorem tmod_small {r b : Int} (hb : b ≠ 0) : (r.tmod b).natAbs < b.natAbs := by
  rw [Int.natAbs_tmod]
  exact Nat.mod_lt _ (by omega)
theorem tdiv_fits {r b : Int} (hr : Fits r) (h0 : b ≠ 0) (h1 : b ≠ -1) : Fits (r.tdiv b) := by
  by_cases e : b = 1
  · subst e; rw [Int.tdiv_one]; exact hr
  · have hq : (r.tdiv b).natAbs = r.natAbs / b.natAbs := Int.natAbs_tdiv r b
    have hle : r.natAbs / b.natAbs ≤ r.natAbs / 2 := Nat.div_le_div_left (by omega) (by omega)
    unfold Fits at *
    omega
theorem mul_over {a b : Int} (ha : Fits a) (hb : Fits b) (h0 : b ≠ 0) (h1 : b ≠ -1) (h : ¬ Fits (a * b)) : (wrap64 ((wrap64 (a * b)).tdiv b) == a) = false := by
  rw [wrap_in (tdiv_fits (wrap_fits _) h0 h1)]
  cases e : (wrap64 (a * b)).tdiv b == a with
  | false => rfl
  | true =>
    exfalso
    have e' : (wrap64 (a * b)).tdiv b = a := by simpa using e
    have hd := Int.mul_tdiv_add_tmod (wrap64 (a * b)) b
    rw [e', Int.mul_comm b a] at hd
    have ht := tmod_small (r := wrap64 (a * b)) h0
    obtain ⟨m, hm⟩ := wrap_off (a * b)
    have hm0 : m ≠ 0 := by
      rintro rfl
      apply h
      rw [show a * b = wrap64 (a * b) from by omega]
      exact wrap_fits _
    unfold Fits at hb
    omega

end Go.Proofs.Ytnboooaockgoiab
/- The walks of num's digits, behind, parse. -/
namespace Go.Proofs.Ytnboooaockgoiab
open Go.RowKit
set_option linter.unusedVariables false

/-- Is a byte a digit? -/
def isDig (x : UInt8) : Bool := decide (48 ≤ x.toNat) && decide (x.toNat ≤ 57)
/-- The number that digits say. -/
def val (l : List UInt8) : Nat := l.foldl (fun n x => n * 10 + (x.toNat - 48)) 0
/-- The text's bytes. -/
def bs (s : ByteArray) : List UInt8 := s.data.toList
/-- What a text is told as: a number, one that runs over, or none. -/
def isNum (l : List UInt8) : Bool := decide (0 < l.length) && l.all isDig
def pA (l : List UInt8) : Value := if isNum l then nA (val l) else .tuple #[.int .i64 0, .int .i64 3]

theorem bs_length (s : ByteArray) : (bs s).length = s.size := Array.length_toList
theorem bs_at (s : ByteArray) (k : Nat) (h : k < s.size) : (bs s)[k]? = some s[k] := by
  have h' : k < (bs s).length := by rw [bs_length]; exact h
  rw [List.getElem?_eq_getElem h']
  rfl
theorem take_snoc {l : List UInt8} {k : Nat} {x : UInt8} (h : l[k]? = some x) : l.take (k + 1) = l.take k ++ [x] := by
  rw [List.take_add_one, h]; rfl
theorem all_take {l : List UInt8} {k : Nat} {x : UInt8} (h : l[k]? = some x) (hp : (l.take k).all isDig = true) (hx : isDig x = true) : (l.take (k + 1)).all isDig = true := by
  rw [take_snoc h, List.all_append, hp]; simp [hx]
theorem all_not {l : List UInt8} {k : Nat} {x : UInt8} (h : l[k]? = some x) (hx : isDig x = false) : l.all isDig = false := by
  cases e : l.all isDig with
  | false => rfl
  | true =>
    have := List.all_eq_true.1 e x (List.mem_of_getElem? h)
    rw [hx] at this; cases this
theorem val_snoc (l : List UInt8) (x : UInt8) : val (l ++ [x]) = val l * 10 + (x.toNat - 48) := by simp [val, List.foldl_append]
theorem val_take {l : List UInt8} {k : Nat} {x : UInt8} (h : l[k]? = some x) : val (l.take (k + 1)) = val (l.take k) * 10 + (x.toNat - 48) := by rw [take_snoc h, val_snoc]
theorem val_grows (l m : List UInt8) : val l ≤ val (l ++ m) := by
  induction m generalizing l with
  | nil => simp
  | cons x m ih =>
    have := ih (l ++ [x])
    rw [List.append_assoc, List.singleton_append, val_snoc] at this
    omega
theorem val_take_le (l : List UInt8) (k : Nat) : val (l.take k) ≤ val l := by
  have := val_grows (l.take k) (l.drop k)
  rwa [List.take_append_drop] at this


theorem not_fits_up {l : List UInt8} {k : Nat} (h : ¬ Fits (val (l.take k))) : ¬ Fits (val l) := by
  have := val_take_le l k
  unfold Fits at *
  omega

end Go.Proofs.Ytnboooaockgoiab
/- Words of a text, as plain functions over its bytes: what the walks of lex and of the document's own are held against. -/
namespace Go.Proofs.Ytnboooaockgoiab
open Go.RowKit
set_option linter.unusedVariables false

/-- Bytes that begin a name; that go on in one; that a text value may have; one byte; one of two; a sign that begins no longer one. -/
def isL (x : UInt8) : Bool := (decide (97 ≤ x.toNat) && decide (x.toNat ≤ 122)) || decide (x.toNat = 95)
def isN (x : UInt8) : Bool := isL x || isDig x
def isT (x : UInt8) : Bool := decide (32 ≤ x.toNat) && decide (x.toNat ≤ 126)
def isB (n : Nat) (x : UInt8) : Bool := decide (x.toNat = n)
def is2 (a b : Nat) (x : UInt8) : Bool := decide (x.toNat = a) || decide (x.toNat = b)
def isO (x : UInt8) : Bool := [40, 41, 44, 46, 61, 43, 45, 42].contains x

/-- Is the byte at place k such a one? -/
def got (p : UInt8 → Bool) (s : ByteArray) (k : Nat) : Bool := ((bs s)[k]?).any p
/-- The first place from k on that is no such one. -/
def till (p : UInt8 → Bool) (s : ByteArray) (k : Nat) : Nat := k + (((bs s).drop k).takeWhile p).length

theorem got_at {p : UInt8 → Bool} {s : ByteArray} {k : Nat} (h : k < s.size) : got p s k = p s[k] := by rw [got, bs_at s k h]; rfl
theorem got_end {p : UInt8 → Bool} {s : ByteArray} {k : Nat} (h : s.size ≤ k) : got p s k = false := by
  rw [got, List.getElem?_eq_none (by rw [bs_length]; exact h)]; rfl
theorem got_lt {p : UInt8 → Bool} {s : ByteArray} {k : Nat} (h : got p s k = true) : k < s.size := by
  cases Nat.lt_or_ge k s.size with
  | inl h' => exact h'
  | inr h' => rw [got_end h'] at h; cases h
theorem drop_at {s : ByteArray} {k : Nat} (h : k < s.size) : (bs s).drop k = s[k] :: (bs s).drop (k + 1) := by
  have h' : k < (bs s).length := by rw [bs_length]; exact h
  rw [List.drop_eq_getElem_cons h']
  rfl
theorem till_step {p : UInt8 → Bool} {s : ByteArray} {k : Nat} (h : got p s k = true) : till p s k = till p s (k + 1) := by
  have hl := got_lt h
  rw [got_at hl] at h
  rw [till, till, drop_at hl, List.takeWhile_cons, if_pos h, List.length_cons]
  omega
theorem till_stop {p : UInt8 → Bool} {s : ByteArray} {k : Nat} (h : got p s k = false) : till p s k = k := by
  cases Nat.lt_or_ge k s.size with
  | inl hl =>
    rw [got_at hl] at h
    rw [till, drop_at hl, List.takeWhile_cons, h]
    rfl
  | inr hl => rw [till, List.drop_of_length_le (by rw [bs_length]; exact hl)]; rfl
theorem till_ge (p : UInt8 → Bool) (s : ByteArray) (k : Nat) : k ≤ till p s k := by rw [till]; omega
theorem till_le {p : UInt8 → Bool} {s : ByteArray} {k : Nat} (h : k ≤ s.size) : till p s k ≤ s.size := by
  have h1 := (List.takeWhile_prefix p (l := (bs s).drop k)).length_le
  rw [List.length_drop, bs_length] at h1
  rw [till]; omega
theorem till_got {p : UInt8 → Bool} {s : ByteArray} : ∀ (n k : Nat), s.size - k = n → got p s (till p s k) = false := by
  intro n
  induction n with
  | zero => intro k h; rw [till_stop (got_end (by omega))]; exact got_end (by omega)
  | succ n ih =>
    intro k h
    cases hg : got p s k with
    | false => rw [till_stop hg]; exact hg
    | true => rw [till_step hg]; exact ih (k + 1) (by omega)
theorem got_till (p : UInt8 → Bool) (s : ByteArray) (k : Nat) : got p s (till p s k) = false := till_got _ k rfl
theorem till_lt {p : UInt8 → Bool} {s : ByteArray} {k : Nat} (h : got p s k = true) : k < till p s k := by
  rw [till_step h]
  exact till_ge p s (k + 1)

/-- A word: Kind, Text, Int, At. -/
abbrev Tk := Int × ByteArray × Int × Int
/-- What is told of the word at a place: it, where the next one is looked for; or the fault's place, and the fault. -/
structure Wr where
  tk : Tk
  nx : Nat
  pl : Int
  er : Int
/-- A fault. -/
def flt (k : Nat) (e : Int) : Wr := ⟨(0, ⟨#[]⟩, 0, 0), 0, k, e⟩
def wrd (t : Tk) (n : Nat) : Wr := ⟨t, n, 0, 0⟩

/-- The words that are no names. -/
def wl : List ByteArray := [⟨#[97, 110, 100]⟩, ⟨#[97, 115]⟩, ⟨#[98, 101, 103, 105, 110]⟩, ⟨#[98, 121]⟩, ⟨#[99, 97, 108, 108]⟩, ⟨#[99, 108, 111, 115, 117, 114, 101]⟩, ⟨#[99, 111, 109, 109, 105, 116]⟩, ⟨#[99, 111, 117, 110, 116]⟩, ⟨#[99, 114, 101, 97, 116, 101]⟩, ⟨#[100, 101, 108, 101, 116, 101]⟩, ⟨#[100, 101, 115, 99]⟩, ⟨#[102, 114, 111, 109]⟩, ⟨#[103, 114, 111, 117, 112]⟩, ⟨#[105, 110, 100, 101, 120]⟩, ⟨#[105, 110, 115, 101, 114, 116]⟩, ⟨#[105, 110, 116]⟩, ⟨#[105, 110, 116, 111]⟩, ⟨#[106, 111, 105, 110]⟩, ⟨#[109, 97, 120]⟩, ⟨#[109, 105, 110]⟩, ⟨#[110, 111, 116]⟩, ⟨#[111, 110]⟩, ⟨#[111, 114]⟩, ⟨#[111, 114, 100, 101, 114]⟩, ⟨#[114, 97, 105, 115, 101]⟩, ⟨#[114, 101, 102]⟩, ⟨#[114, 111, 108, 108, 98, 97, 99, 107]⟩, ⟨#[115, 101, 108, 101, 99, 116]⟩, ⟨#[115, 101, 116]⟩, ⟨#[115, 116, 114, 105, 112]⟩, ⟨#[115, 117, 109]⟩, ⟨#[116, 97, 98, 108, 101]⟩, ⟨#[116, 101, 120, 116]⟩, ⟨#[117, 112, 100, 97, 116, 101]⟩, ⟨#[118, 97, 108, 117, 101, 115]⟩, ⟨#[118, 105, 101, 119]⟩, ⟨#[119, 104, 101, 114, 101]⟩]
def isW (s : ByteArray) : Bool := wl.any fun t => decide (t = s)
theorem isW_iff {s : ByteArray} : isW s = true ↔ s ∈ wl := by
  rw [isW, List.any_eq_true]
  constructor
  · rintro ⟨t, ht, h⟩; rw [decide_eq_true_iff] at h; subst h; exact ht
  · exact fun h => ⟨s, h, by simp⟩
theorem wl_short : ∀ s ∈ wl, s.size ≤ 8 := by decide

/-- A name, or a word that is none. -/
def nameW (s : ByteArray) (j : Nat) : Wr :=
  if 16 < till isN s j - j then flt j 7
  else wrd (if isW (s.extract j (till isN s j)) then 2 else 1, s.extract j (till isN s j), 0, j) (till isN s j)
/-- The number that digits from j up to k say. -/
def numV (s : ByteArray) (j k : Nat) : Nat := val (bs (s.extract j k))
def numW (s : ByteArray) (j : Nat) : Wr :=
  if got isL s (till isDig s j) then flt (till isDig s j) 4
  else if Fits (numV s j (till isDig s j)) then wrd (3, ⟨#[]⟩, numV s j (till isDig s j), j) (till isDig s j)
  else flt j 8
/-- The text value in these bytes, behind its first mark: its letters, how many bytes were read, does it end? -/
def quo : List UInt8 → List UInt8 × Nat × Bool
  | [] => ([], 0, false)
  | [x] => if isB 39 x then ([], 1, true) else if isT x then ([x], 1, false) else ([], 0, false)
  | x :: y :: r =>
    if isB 39 x then (if isB 39 y then (x :: (quo r).1, (quo r).2.1 + 2, (quo r).2.2) else ([], 1, true))
    else if isT x then (x :: (quo (y :: r)).1, (quo (y :: r)).2.1 + 1, (quo (y :: r)).2.2) else ([], 0, false)
def quoW (s : ByteArray) (j : Nat) : Wr :=
  if (quo ((bs s).drop (j + 1))).2.2 then
    if 30 < (quo ((bs s).drop (j + 1))).1.length then flt j 7
    else wrd (4, ⟨(quo ((bs s).drop (j + 1))).1.toArray⟩, 0, j) (j + 1 + (quo ((bs s).drop (j + 1))).2.1)
  else flt (j + 1 + (quo ((bs s).drop (j + 1))).2.1) 4
/-- How many bytes the sign at j has. -/
def sgn (s : ByteArray) (j : Nat) : Nat :=
  if got (isB 60) s j then (if got (is2 61 62) s (j + 1) then 2 else 1)
  else if got (isB 62) s j then (if got (isB 61) s (j + 1) then 2 else 1)
  else if got isO s j then 1 else 0
def sgnW (s : ByteArray) (j : Nat) : Wr :=
  if sgn s j = 0 then flt j 4 else wrd (5, s.extract j (j + sgn s j), 0, j) (j + sgn s j)
def oneW (s : ByteArray) (j : Nat) : Wr :=
  if got isL s j then nameW s j else if got isDig s j then numW s j else if got (isB 39) s j then quoW s j else sgnW s j
/-- The word at j, no space there. -/
def endW (s : ByteArray) (j : Nat) : Wr := if j = s.size then wrd (6, ⟨#[]⟩, 0, j) j else oneW s j
def wordW (s : ByteArray) (k : Nat) : Wr := endW s (till (isB 32) s k)

/-- One step of what is told of a text from k on: a fault; the end; a word, and then what R tells of the rest; a word, and then R's fault. -/
def LxS (s : ByteArray) (R : Nat → List Tk → Int → Int → Prop) (k : Nat) (l : List Tk) (a e : Int) : Prop :=
  ((wordW s k).er ≠ 0 ∧ l = [] ∧ a = (wordW s k).pl ∧ e = (wordW s k).er) ∨
  ((wordW s k).er = 0 ∧ (wordW s k).tk.1 = 6 ∧ l = [(wordW s k).tk] ∧ a = 0 ∧ e = 0) ∨
  ((wordW s k).er = 0 ∧ (wordW s k).tk.1 ≠ 6 ∧ ∃ m, l = (wordW s k).tk :: m ∧ a = 0 ∧ e = 0 ∧ R (wordW s k).nx m 0 0) ∨
  ((wordW s k).er = 0 ∧ (wordW s k).tk.1 ≠ 6 ∧ l = [] ∧ e ≠ 0 ∧ R (wordW s k).nx [] a e)
/-- In so many steps. -/
def LxN (s : ByteArray) : Nat → Nat → List Tk → Int → Int → Prop
  | 0 => fun _ _ _ _ => False
  | n + 1 => LxS s (LxN s n)
/-- What is told of a text from k on: words, the fault's place, the fault. -/
structure Lx (s : ByteArray) (k : Nat) (l : List Tk) (a e : Int) : Prop where
  steps : ∃ n, LxN s n k l a e
theorem Lx.bad {s : ByteArray} (k : Nat) (h : (wordW s k).er ≠ 0) : Lx s k [] (wordW s k).pl (wordW s k).er := ⟨1, .inl ⟨h, rfl, rfl, rfl⟩⟩
theorem Lx.fin {s : ByteArray} (k : Nat) (h : (wordW s k).er = 0) (h6 : (wordW s k).tk.1 = 6) : Lx s k [(wordW s k).tk] 0 0 := ⟨1, .inr (.inl ⟨h, h6, rfl, rfl, rfl⟩)⟩
theorem Lx.more {s : ByteArray} (k : Nat) (l : List Tk) (h : (wordW s k).er = 0) (h6 : (wordW s k).tk.1 ≠ 6) (hx : Lx s (wordW s k).nx l 0 0) : Lx s k ((wordW s k).tk :: l) 0 0 := by
  obtain ⟨n, hn⟩ := hx.steps
  exact ⟨n + 1, .inr (.inr (.inl ⟨h, h6, l, rfl, rfl, rfl, hn⟩))⟩
theorem Lx.far {s : ByteArray} (k : Nat) (a e : Int) (h : (wordW s k).er = 0) (h6 : (wordW s k).tk.1 ≠ 6) (hx : Lx s (wordW s k).nx [] a e) (he : e ≠ 0) : Lx s k [] a e := by
  obtain ⟨n, hn⟩ := hx.steps
  exact ⟨n + 1, .inr (.inr (.inr ⟨h, h6, rfl, he, hn⟩))⟩
/-- What holds of each step holds of all that is told. -/
theorem Lx.all {s : ByteArray} (M : Nat → List Tk → Int → Int → Prop)
    (bad : ∀ k, (wordW s k).er ≠ 0 → M k [] (wordW s k).pl (wordW s k).er)
    (fin : ∀ k, (wordW s k).er = 0 → (wordW s k).tk.1 = 6 → M k [(wordW s k).tk] 0 0)
    (more : ∀ k l, (wordW s k).er = 0 → (wordW s k).tk.1 ≠ 6 → Lx s (wordW s k).nx l 0 0 → M (wordW s k).nx l 0 0 → M k ((wordW s k).tk :: l) 0 0)
    (far : ∀ k a e, (wordW s k).er = 0 → (wordW s k).tk.1 ≠ 6 → Lx s (wordW s k).nx [] a e → e ≠ 0 → M (wordW s k).nx [] a e → M k [] a e)
    {k : Nat} {l : List Tk} {a e : Int} (h : Lx s k l a e) : M k l a e := by
  obtain ⟨n, hn⟩ := h.steps
  clear h
  induction n generalizing k l a e with
  | zero => exact hn.elim
  | succ n ih =>
    rcases hn with ⟨h1, rfl, rfl, rfl⟩ | ⟨h1, h2, rfl, rfl, rfl⟩ | ⟨h1, h2, m, rfl, rfl, rfl, hm⟩ | ⟨h1, h2, rfl, he, hm⟩
    · exact bad k h1
    · exact fin k h1 h2
    · exact more k m h1 h2 ⟨n, hm⟩ (ih hm)
    · exact far k a e h1 h2 ⟨n, hm⟩ he (ih hm)
/-- One step. -/
theorem Lx.step {s : ByteArray} {k : Nat} {l : List Tk} {a e : Int} (h : Lx s k l a e) : LxS s (Lx s) k l a e :=
  Lx.all (LxS s (Lx s)) (fun k h1 => .inl ⟨h1, rfl, rfl, rfl⟩) (fun k h1 h2 => .inr (.inl ⟨h1, h2, rfl, rfl, rfl⟩))
    (fun k l h1 h2 hx _ => .inr (.inr (.inl ⟨h1, h2, l, rfl, rfl, rfl, hx⟩))) (fun k a e h1 h2 hx he _ => .inr (.inr (.inr ⟨h1, h2, rfl, he, hx⟩))) h

/-- What Lex tells of a text. -/
def LexR (s : ByteArray) (l : List Tk) (a e : Int) : Prop := (400 < s.size ∧ l = [] ∧ a = 0 ∧ e = 7) ∨ (s.size ≤ 400 ∧ Lx s 0 l a e)

theorem Lx.det {s : ByteArray} {k : Nat} {l m : List Tk} {a b e f : Int} (h : Lx s k l a e) (h' : Lx s k m b f) : l = m ∧ a = b ∧ e = f := by
  refine Lx.all (fun k l a e => ∀ m b f, Lx s k m b f → l = m ∧ a = b ∧ e = f) ?_ ?_ ?_ ?_ h m b f h'
  · intro k h1 m b f g
    rcases g.step with ⟨g1, rfl, rfl, rfl⟩ | ⟨g1, _⟩ | ⟨g1, _⟩ | ⟨g1, _⟩
    · exact ⟨rfl, rfl, rfl⟩
    · exact absurd g1 h1
    · exact absurd g1 h1
    · exact absurd g1 h1
  · intro k h1 h2 m b f g
    rcases g.step with ⟨g1, _⟩ | ⟨_, _, rfl, rfl, rfl⟩ | ⟨_, g2, _⟩ | ⟨_, g2, _⟩
    · exact absurd h1 g1
    · exact ⟨rfl, rfl, rfl⟩
    · exact absurd h2 g2
    · exact absurd h2 g2
  · intro k l h1 h2 h3 ih m b f g
    rcases g.step with ⟨g1, _⟩ | ⟨_, g2, _⟩ | ⟨_, _, n, rfl, rfl, rfl, g3⟩ | ⟨_, _, rfl, g4, g3⟩
    · exact absurd h1 g1
    · exact absurd g2 h2
    · obtain ⟨rfl, _, _⟩ := ih _ _ _ g3
      exact ⟨rfl, rfl, rfl⟩
    · exact absurd (ih _ _ _ g3).2.2.symm g4
  · intro k a e h1 h2 h3 h4 ih m b f g
    rcases g.step with ⟨g1, _⟩ | ⟨_, g2, _⟩ | ⟨_, _, n, rfl, rfl, rfl, g3⟩ | ⟨_, _, rfl, g4, g3⟩
    · exact absurd h1 g1
    · exact absurd g2 h2
    · exact absurd (ih _ _ _ g3).2.2 h4
    · obtain ⟨_, rfl, rfl⟩ := ih _ _ _ g3
      exact ⟨rfl, rfl, rfl⟩
theorem LexR.det {s : ByteArray} {l m : List Tk} {a b e f : Int} (h : LexR s l a e) (h' : LexR s m b f) : l = m ∧ a = b ∧ e = f := by
  rcases h with ⟨h0, rfl, rfl, rfl⟩ | ⟨h0, h⟩ <;> rcases h' with ⟨g0, rfl, rfl, rfl⟩ | ⟨g0, h'⟩
  · exact ⟨rfl, rfl, rfl⟩
  · omega
  · omega
  · exact h.det h'

theorem quo_le : ∀ (n : Nat) (l : List UInt8), l.length ≤ n → (quo l).2.1 ≤ l.length ∧ (quo l).1.length ≤ (quo l).2.1 ∧ ((quo l).2.2 = true → 0 < (quo l).2.1) := by
  intro n
  induction n with
  | zero =>
    intro l h
    obtain rfl : l = [] := List.eq_nil_of_length_eq_zero (by omega)
    simp [quo]
  | succ n ih =>
    intro l h
    match l, h with
    | [], _ => simp [quo]
    | [x], _ =>
      rw [quo]
      split
      · simp
      · split <;> simp
    | x :: y :: r, h =>
      have h1 := ih r (by simp at h; omega)
      have h2 := ih (y :: r) (by simpa using h)
      rw [quo]
      split
      · split
        · simp; omega
        · simp
      · split
        · simp at h2 ⊢; omega
        · simp
theorem quo_end (l : List UInt8) : (quo l).2.1 ≤ l.length := (quo_le _ l (Nat.le_refl _)).1
theorem sgn_le {s : ByteArray} {j : Nat} : j + sgn s j ≤ s.size ∨ sgn s j = 0 := by
  unfold sgn
  split
  · rename_i h
    have := got_lt h
    split
    · rename_i h2; have := got_lt h2; omega
    · omega
  · split
    · rename_i h
      have := got_lt h
      split
      · rename_i h2; have := got_lt h2; omega
      · omega
    · split
      · rename_i h; have := got_lt h; omega
      · exact .inr rfl

/-- A word is no end, and takes a byte at least. -/
theorem oneW_on {s : ByteArray} {j : Nat} (hj : j < s.size) (h : (oneW s j).er = 0) : (oneW s j).tk.1 ≠ 6 ∧ j < (oneW s j).nx ∧ (oneW s j).nx ≤ s.size := by
  unfold oneW at *
  split at h
  · rename_i hg
    rw [if_pos hg]
    unfold nameW at *
    split at h
    · simp [flt] at h
    · rename_i h2
      rw [if_neg h2]
      refine ⟨?_, ?_, till_le (by omega)⟩
      · show (if _ then (2 : Int) else 1) ≠ 6
        split <;> omega
      · exact till_lt (by rw [got_at hj, isN, ← got_at (p := isL) hj, hg]; rfl)
  · rename_i hg
    rw [if_neg hg]
    split at h
    · rename_i hd
      rw [if_pos hd]
      unfold numW at *
      split at h
      · simp [flt] at h
      · rename_i h2
        rw [if_neg h2]
        split at h
        · rename_i h3
          rw [if_pos h3]
          exact ⟨by simp [wrd], till_lt hd, till_le (by omega)⟩
        · simp [flt] at h
    · rename_i hd
      rw [if_neg hd]
      split at h
      · rename_i hq
        rw [if_pos hq]
        unfold quoW at *
        split at h
        · rename_i h2
          rw [if_pos h2]
          split at h
          · simp [flt] at h
          · rename_i h3
            rw [if_neg h3]
            have := quo_end ((bs s).drop (j + 1))
            rw [List.length_drop, bs_length] at this
            exact ⟨by simp [wrd], by simp [wrd]; omega, by simp [wrd]; omega⟩
        · simp [flt] at h
      · rename_i hq
        rw [if_neg hq]
        unfold sgnW at *
        split at h
        · simp [flt] at h
        · rename_i h2
          rw [if_neg h2]
          have := sgn_le (s := s) (j := j)
          exact ⟨by simp [wrd], by simp [wrd]; omega, by simp [wrd]; omega⟩
theorem wordW_on {s : ByteArray} {k : Nat} (hk : k ≤ s.size) (h : (wordW s k).er = 0) : ((wordW s k).tk.1 = 6 ∧ till (isB 32) s k = s.size) ∨ ((wordW s k).tk.1 ≠ 6 ∧ k < (wordW s k).nx ∧ (wordW s k).nx ≤ s.size) := by
  have h1 := till_ge (isB 32) s k
  have h2 := till_le (p := isB 32) hk
  unfold wordW endW at *
  split at h
  · rename_i he
    rw [if_pos he]
    exact .inl ⟨rfl, he⟩
  · rename_i he
    rw [if_neg he]
    have := oneW_on (s := s) (j := till (isB 32) s k) (by omega) h
    exact .inr ⟨this.1, by omega, this.2.2⟩

end Go.Proofs.Ytnboooaockgoiab
/- One law for what this seat appends to bytes of its own: a slice of bytes that may be read (nil too), or a text's bytes. -/
namespace Go.Proofs.Ytnboooaockgoiab
open Go.RowKit
set_option linter.unusedVariables false

/-- The value v is a slice of bytes of the call's own (its block from B on), and reads as l. -/
def Own (B : Nat) (w : World) (v : Value) (l : List Int) : Prop := w.ownsRow B 5 1 v l.length (l.map (Value.int .u8))
/-- What is appended reads as l. -/
def SrcB (w : World) (tx : TypeId) (x : Value) (l : List Int) : Prop := Src Try.prog 1 tx x l.length (l.map (Value.int .u8)) w

/-- What is not nil stays so. -/
def NN (v v' : Value) : Prop := v ≠ .slice none 0 0 → v' ≠ .slice none 0 0
theorem NN.refl (v : Value) : NN v v := fun h => h
theorem NN.trans {a b c : Value} (h : NN a b) (k : NN b c) : NN a c := fun x => k (h x)

theorem Own.nil (B : Nat) (w : World) : Own B w (.slice none 0 0) [] := World.ownsRow_nil w B 5 1
theorem Own.rd {B : Nat} {w : World} {v : Value} {l : List Int} (h : Own B w v l) : ∃ ao c, v = .slice ao l.length c ∧ Rd .u8 w ao l.length c l := Rd.of_owns h
theorem Own.alloc {B : Nat} {w : World} {v : Value} {l : List Int} (h : Own B w v l) (o : Obj) : Own B (w.alloc o) v l := World.ownsRow.alloc h o
theorem Own.drew {B : Nat} {w : World} {v : Value} {l : List Int} (h : Own B w v l) : Own B w.drew v l := h
theorem Own.base {B B' : Nat} {w : World} {v : Value} {l : List Int} (h : Own B w v l) (hb : B' ≤ B) : Own B' w v l := owns_base h hb
theorem Own.later {B : Nat} {w w' : World} {v : Value} {l : List Int} (h : Own B w v l) (hb : Below w.heap.size w w') : Own B w' v l := by
  refine ⟨h.1, ?_⟩
  rcases h.2 with k | ⟨g, cap, cur, hv, hg, hh, r⟩
  · exact .inl k
  · exact .inr ⟨g, cap, cur, hv, hg, by rw [hb.block g (Array.getElem?_eq_some_iff.1 hh).1]; exact hh, r⟩

theorem SrcB.ofRd {w : World} {ao : Option Addr} {n c : Nat} {l : List Int} (h : Rd .u8 w ao n c l) : SrcB w 27 (.slice ao n c) l := by
  have hl := h.len
  rcases ao with _ | ad
  · obtain ⟨rfl, rfl, rfl⟩ := h.none_nil
    exact Src.ofNil w Try.underlying27 0
  · subst hl
    exact Src.ofSlice w Try.underlying27 ad _ c _ (by simp) h.news (ints_one _ _)
theorem SrcB.ofText (w : World) (s : ByteArray) : SrcB w 9 (.string s) (nums s) := by
  have h := Src.ofString (P := Try.prog) w (tx := 9) Try.underlying9 s
  have e : byteCells s = (nums s).map (Value.int .u8) := by simp [byteCells, nums]
  rw [e, ← nums_len s] at h
  exact h
theorem SrcB.one (w : World) (x : Int) : SrcB (w.alloc (.cells #[.int .u8 x] 5)) 27 (.slice (some ⟨w.heap.size, 0, none⟩) 1 1) [x] :=
  Src.ofSlice (w.alloc (.cells #[.int .u8 x] 5)) Try.underlying27 _ 1 1 [.int .u8 x] rfl (one_new0 w (.int .u8 x) 5) (ints_one .u8 [x])
/-- The same behind draws. -/
theorem SrcB.at {w : World} {tx : TypeId} {x : Value} {l : List Int} {g : Nat} {y : Int} (h : w.cell? ⟨g, 0, none⟩ = some (.int .u8 y)) : SrcB w 27 (.slice (some ⟨g, 0, none⟩) 1 1) [y] :=
  Src.ofSlice w Try.underlying27 _ 1 1 [.int .u8 y] rfl (one_of h) (ints_one .u8 [y])

theorem run_app (w : World) (B : Nat) (tx ty : TypeId) (v x : Value) (l m : List Int) (hown : Own B w v l) (hs : SrcB w tx x m) (hlm : l.length + m.length ≤ 100000) (hB : B ≤ w.heap.size) :
    ∃ v' w', (Builtin.append_ #[27, tx] ty #[v, x]).run Try.prog w = .ok v' w' ∧ Own B w' v' (l ++ m) ∧ w.grownBy w' v.ownBlock ∧ (v ≠ .slice none 0 0 → v' ≠ .slice none 0 0) := by
  obtain ⟨i, hi, hz, hsz, hby⟩ := info_parts Try.info5
  have ht := Try.underlying27
  obtain ⟨ll, L, hLl⟩ : ∃ n : Nat, ∃ L : List Value, l.length = n ∧ l.map (Value.int .u8) = L := ⟨_, _, rfl, rfl⟩
  obtain ⟨hL1, hL2⟩ := hLl
  unfold Own at hown ⊢
  unfold SrcB at hs
  have hlen : (l ++ m).map (Value.int .u8) = L ++ m.map (Value.int .u8) := by rw [← hL2, List.map_append]
  have hll : (l ++ m).length = ll + m.length := by rw [← hL1, List.length_append]
  rw [hlen, hll]
  rw [hL1, hL2] at hown
  have hLlen : L.length = ll := by rw [← hL2, ← hL1, List.length_map]
  have grown : ∀ (old : Nat), old < ll + m.length → ∀ (row : Option Nat),
      (w.drew.alloc (.cells ((L ++ m.map (Value.int .u8)).toArray ++ Builtin.zeroCells (Value.int .u8 0).cells (grownCap w (ll + m.length) old 5 - (ll + m.length))) 5)).ownsRow B 5 1
        (.slice (some ⟨w.heap.size, 0, none⟩) (ll + m.length) (grownCap w (ll + m.length) old 5)) (ll + m.length) (L ++ m.map (Value.int .u8)) ∧
      w.grownBy (w.drew.alloc (.cells ((L ++ m.map (Value.int .u8)).toArray ++ Builtin.zeroCells (Value.int .u8 0).cells (grownCap w (ll + m.length) old 5 - (ll + m.length))) 5)) row := by
    intro old ho row
    have hge := grownCap_ge w (ll + m.length) old 5
    have hcm : grownCap w (ll + m.length) old 5 ≤ maxLen := grownCap_le_maxLen w (ll + m.length) old 5 (by unfold maxLen; omega)
    refine ⟨⟨by simp [hLlen], .inr ⟨w.heap.size, _, _, rfl, hB, heap_alloc_new w.drew _, hge, hcm, ?_, ?_⟩⟩, ⟨rfl, rfl, rfl, by simp, fun k hk _ => Below.heap_alloc w.drew _ k hk⟩⟩
    · simp only [Array.size_append, List.size_toArray, size_zeroCells, List.length_append, List.length_map, hLlen]
      simp [Value.cells]
      omega
    · simp only [Array.toList_append]
      have : (ll + m.length) * 1 = (L ++ m.map (Value.int .u8)).length := by simp [hLlen]
      rw [this]
      exact List.take_left
  have h48 : ∀ cap, cap < ll + m.length → Builtin.nextslicecap (ll + m.length) cap * i.bytes ≤ 281474976710656 := fun cap hc => growslice_fits hc (by rw [hby]; omega)
  have hs' : Src Try.prog i.size tx x m.length (m.map (Value.int .u8)) w := by rw [hsz]; exact hs
  rcases hown.2 with ⟨rfl, h0⟩ | ⟨g, cap, cur, rfl, hbg, hg, hnc, hcm, hcs, htake⟩
  · subst h0
    obtain rfl : L = [] := List.eq_nil_of_length_eq_zero hLlen
    by_cases hm : m = []
    · subst hm
      refine ⟨.slice none 0 0, w, ?_, World.ownsRow_nil w B 5 1, ⟨rfl, rfl, rfl, Nat.le_refl _, fun _ _ _ => rfl⟩, fun h => h⟩
      have hc : (Builtin.firstCells i.size 0 x).run Try.prog w = .ok #[] w := hs'.cells
      have hl0 : ∀ w' : World, (Builtin.lenOf x).run Try.prog w' = .ok 0 w' := hs'.len
      rcases hs'.kind with ⟨e', hk⟩ | hk <;> simp [Builtin.append_, run_underlying ht, run_underlying hk, sizeOf, typeInfo, hi, hl0, hc]
    · have hmp : 0 < m.length := List.length_pos_iff.2 hm
      have hr := run_append_grow_src w 27 tx ty 5 i (.int .u8 0) ht hi hz none 0 0 [] (by simp [Builtin.firstCells]) x m.length _ hs' (by omega) (by omega) (h48 0 (by omega))
      have hgr := grown 0 (by omega) (Value.ownBlock (.slice none 0 0))
      exact ⟨_, _, hr, hgr.1, hgr.2, fun _ => by simp⟩
  · by_cases hroom : ll + m.length ≤ cap
    · have hfit : ll * i.size + (m.map (Value.int .u8)).length ≤ cur.size := by rw [hsz, List.length_map]; omega
      have hst := run_storeCells_at Try.prog g (ll * i.size) 5 (m.map (Value.int .u8)) 0 cur w hg (by simpa using hfit) (ints_one _ _)
      simp only [Nat.add_zero] at hst
      have hr : (Builtin.append_ #[27, tx] ty #[.slice (some ⟨g, 0, none⟩) ll cap, x]).run Try.prog w = .ok (.slice (some ⟨g, 0, none⟩) (ll + m.length) cap) (w.setRow g (cur.toList.take (ll * i.size) ++ m.map (Value.int .u8) ++ cur.toList.drop (ll * i.size + (m.map (Value.int .u8)).length)).toArray) := by
        rcases hs'.kind with ⟨e', hk⟩ | hk <;> simp [Builtin.append_, run_underlying ht, run_underlying hk, sizeOf, typeInfo, hi, hs'.len, hroom, hs'.cells, Addr.add_lit, hst]
      rw [hsz] at hr hfit
      refine ⟨_, _, hr, ⟨by simp [hLlen], .inr ⟨g, cap, _, rfl, hbg, setRow_heap w g cur _ 5 _ hg, hroom, hcm, ?_, ?_⟩⟩, ⟨rfl, rfl, rfl, by simp, fun k _ hk => setRow_other w g k _ (fun e => hk (by simp [Value.ownBlock, e]))⟩, by simp⟩
      · simp only [List.size_toArray, List.length_append, List.length_take, List.length_drop, Array.length_toList]
        omega
      · rw [htake]
        have : (ll + m.length) * 1 = (L ++ m.map (Value.int .u8)).length := by simp [hLlen]
        rw [this]
        exact List.take_left
    · have hold : (Builtin.firstCells i.size ll (.slice (some ⟨g, 0, none⟩) ll cap)).run Try.prog w.drew = .ok L.toArray w.drew := by
        have := hown.cells (g := g) rfl
        exact run_firstCells_some w.drew i.size ll ⟨g, 0, none⟩ ll cap L (by rw [hsz, hLlen]; omega) (by simpa using this)
      have hr := run_append_grow_src w 27 tx ty 5 i (.int .u8 0) ht hi hz (some ⟨g, 0, none⟩) ll cap L hold x m.length _ hs' (by omega) (by omega) (h48 cap (by omega))
      have hgr := grown cap (by omega) (Value.ownBlock (.slice (some ⟨g, 0, none⟩) ll cap))
      exact ⟨_, _, hr, hgr.1, hgr.2, fun _ => by simp⟩

theorem Own.below {B : Nat} {w w' : World} {v : Value} {l : List Int} (h : Own B w v l) (hB : B ≤ w.heap.size) (hg : w.grownBy w' v.ownBlock) : Below B w w' :=
  below_grown (Below.refl B w) hB h (Nat.le_refl _) hg

theorem wpList_app {w : World} {ops : Array Oper} {rest : List Oper} {o : Oper} {a : Act} {Q : Exit → Act → World → Prop} (hgd : o.guard = none) (s x : Operand) (tx : TypeId)
    (ho : o.op = .call { callee := .builtin .append, args := #[s, x], argTypes := #[27, tx] }) (B : Nat) (v xv : Value) (l m : List Int) (hs : a.eval s = v) (hx : a.eval x = xv) (hown : Own B w v l) (hsrc : SrcB w tx xv m)
    (hlm : l.length + m.length ≤ 100000) (hB : B ≤ w.heap.size)
    (h : ∀ v' w', Own B w' v' (l ++ m) → Below B w w' → NN v v' → wpList Try.prog ops Q rest (a.put o.dst v') w') : wpList Try.prog ops Q (o :: rest) a w :=
  wpList_plain hgd fun _ hK => by
    obtain ⟨v', w', hr, h2, h3, h4⟩ := run_app w B tx o.type v xv l m hown hsrc hlm hB
    unfold Oper.wp execOp
    simp only [ho, resolve, invoke, builtin, Sem.run_bind, Sem.run_pure, Result.andThen_ok, List.map_toArray, List.map_cons, List.map_nil, hs, hx, hr]
    exact hK _ _ (h v' w' h2 (hown.below hB h3) h4)

theorem step_app {ops : Array Oper} {o : Oper} {a : Act} {w : World} {K : Act → World → Prop} {Q : Exit → Act → World → Prop} {E : Prop}
    (hgd : o.guard = none) (s x : Operand) (tx : TypeId) (ho : o.op = Op.call { callee := Callee.builtin Builtin.append, args := #[s, x], argTypes := #[27, tx] })
    (B : Nat) (v xv : Value) (l m : List Int) (hs : a.eval s = v) (hx : a.eval x = xv) (hown : Own B w v l) (hsrc : SrcB w tx xv m) (hlm : l.length + m.length ≤ 100000) (hB : B ≤ w.heap.size)
    (h : ∀ v' w', Own B w' v' (l ++ m) → w.grownBy w' v.ownBlock → NN v v' → K (a.put o.dst v') w') :
    if Region.wanted o (yielded ops a.tmps) = true then Oper.wp Try.prog o a w K Q else E := by
  have hw : Region.wanted o (yielded ops a.tmps) = true := by simp [Region.wanted, hgd]
  rw [if_pos hw]
  obtain ⟨v', w', hr, h2, h3, h4⟩ := run_app w B tx o.type v xv l m hown hsrc hlm hB
  unfold Oper.wp
  simp [execOp, ho, resolve, invoke, builtin, hs, hx, hr, Result.andThen]
  exact h v' w' h2 h3 h4

end Go.Proofs.Ytnboooaockgoiab
/- The reader in memory; the walks of lex's small functions. -/
namespace Go.Proofs.Ytnboooaockgoiab
open Go.RowKit
set_option linter.unusedVariables false

/-- But for block g all that lay in w lies in w' as it did. -/
structure But (g : Nat) (w w' : World) : Prop where
  os : w'.os = w.os
  tape : w'.tape = w.tape
  output : w'.output = w.output
  size : w.heap.size ≤ w'.heap.size
  block : ∀ k, k < w.heap.size → k ≠ g → w'.heap[k]? = w.heap[k]?
theorem But.refl (g : Nat) (w : World) : But g w w := ⟨rfl, rfl, rfl, Nat.le_refl _, fun _ _ _ => rfl⟩
theorem But.trans {g : Nat} {a b c : World} (h : But g a b) (k : But g b c) : But g a c :=
  ⟨k.os.trans h.os, k.tape.trans h.tape, k.output.trans h.output, Nat.le_trans h.size k.size, fun i hi hg => (k.block i (Nat.lt_of_lt_of_le hi h.size) hg).trans (h.block i hi hg)⟩
theorem But.of {g : Nat} {w w' : World} (h : Below w.heap.size w w') : But g w w' := ⟨h.os, h.tape, h.output, h.size, fun k hk _ => h.block k hk⟩
theorem But.set (g o : Nat) (w : World) (v : Value) : But g w (w.setCell ⟨g, o, none⟩ v) := ⟨rfl, rfl, rfl, by simp [World.setCell], fun k _ hk => Below.heap_setCell _ _ _ _ hk⟩
theorem But.below {g B : Nat} {a w w' : World} (h : Below B a w) (k : But g w w') (hB : B ≤ g) (hw : B ≤ w.heap.size) : Below B a w' :=
  h.trans ⟨k.os, k.tape, k.output, k.size, fun i hi => k.block i (by omega) (by omega)⟩
theorem But.cell {g : Nat} {w w' : World} (h : But g w w') {a : Addr} {v : Value} (hc : w.cell? a = some v) (hg : a.block ≠ g) : w'.cell? a = some v :=
  (World.cell?_of_block (h.block a.block (World.block_lt_of_cell? _ _ hc) hg)).trans hc
theorem But.rdrew {g : Nat} {w w' : World} (h : But g w w') (n : Nat) : But g w (w'.drewN n) := ⟨h.os, h.tape, h.output, h.size, h.block⟩

/-- What is to be read next, for a measure. -/
def rdAt (g : Nat) (w : World) : Nat := match w.cell? ⟨g, 1, none⟩ with | some (.int _ z) => z.toNat | _ => 0
/-- A function value that answers p of a byte, whatever block g holds. -/
def Such (g : Nat) (p : UInt8 → Bool) (w : World) (v : Value) : Prop := ∃ N caps, v = .func (.func N) #[] caps ∧ (∀ args w', (callFunc N args).run Try.prog w' = .ok (.enter N args) w') ∧ ∀ (c : UInt8) (w' : World), But g w w' → Calls Try.prog N (#[.int .u8 (c.toNat : Int)] ++ caps) w' fun e w'' => e = .returned (.bool (p c)) ∧ w'' = w'
theorem Such.later {g : Nat} {p : UInt8 → Bool} {w w' : World} {v : Value} (h : Such g p w v) (hb : But g w w') : Such g p w' v := by
  obtain ⟨N, caps, e, hc, hN⟩ := h
  exact ⟨N, caps, e, hc, fun c w2 h2 => hN c w2 (hb.trans h2)⟩

theorem u8_eq {c : UInt8} {n : Nat} : decide (c.toNat = n) = decide ((c.toNat : Int) = (n : Int)) := by rw [Bool.eq_iff_iff]; simp; omega

theorem isO_index (c : UInt8) : decide ((0 : Int) ≤ Lib.indexByte [40, 41, 44, 46, 61, 43, 45, 42] c) = isO c := by
  have gen : ∀ l : List UInt8, decide ((0 : Int) ≤ Lib.indexByte l c) = l.contains c := by
    intro l
    induction l with
    | nil => rfl
    | cons x l ih =>
      rw [Lib.indexByte, List.contains_cons]
      have hge := Lib.indexByte_ge l c
      cases h : (x == c) with
      | true =>
        have : (c == x) = true := by rw [beq_iff_eq] at h ⊢; exact h.symm
        simp [this]
      | false =>
        have h' : (c == x) = false := by rw [beq_eq_false_iff_ne] at h ⊢; exact fun e => h e.symm
        rw [h', Bool.false_or, ← ih]
        simp only [Bool.false_eq_true, if_false]
        cases h2 : (Lib.indexByte l c == -1) with
        | true =>
          have : Lib.indexByte l c = -1 := by simpa using h2
          simp [this]
        | false =>
          have : Lib.indexByte l c ≠ -1 := by simpa using h2
          simp only [Bool.false_eq_true, if_false]
          rw [Bool.eq_iff_iff]; simp; omega
  exact gen _
theorem such_of {g N : Nat} {p : UInt8 → Bool} {w : World} (hc : ∀ args w', (callFunc N args).run Try.prog w' = .ok (.enter N args) w') (h : ∀ (c : UInt8) (w : World), Calls Try.prog N #[.int .u8 (c.toNat : Int)] w fun e w' => e = .returned (.bool (p c)) ∧ w' = w) : Such g p w (.func (.func N) #[] #[]) :=
  ⟨N, #[], rfl, hc, fun c w' _ => h c w'⟩
end Go.Proofs.Ytnboooaockgoiab
