/- The walk of 'label.merge', and of Join, Meet, Minus at tags that rise: what the two lists come to lies in new memory; nothing that was there is turned. -/
import Derived.Test.YtghifjiohgninaaRises
import Derived.Laws.AppendOwnNone
namespace Go.Proofs.Ytghifjiohgninaa
open Go.RowKit
set_option linter.unusedVariables false

def pre (b : Bool) (x : Int) (xs : List Int) : List Int := if b then x :: xs else xs

/-- What the code makes of two rising lists: which of the numbers of the first alone (l), of both (t), of the second alone (r) are wanted. -/
def mergeF (l t r : Bool) : Nat → List Int → List Int → List Int
  | 0, _, _ => []
  | _ + 1, [], ys => if r then ys else []
  | _ + 1, x :: xs, [] => if l then x :: xs else []
  | f + 1, x :: xs, y :: ys => if x < y then pre l x (mergeF l t r f xs (y :: ys)) else if y < x then pre r y (mergeF l t r f (x :: xs) ys) else pre t x (mergeF l t r f xs ys)


theorem pre_app (b : Bool) (x : Int) (out xs : List Int) : out ++ pre b x xs = (if b then out ++ [x] else out) ++ xs := by cases b <;> simp [pre]

theorem mergeF_lt {l t r : Bool} {f : Nat} {x y : Int} (xs ys : List Int) (h : x < y) : mergeF l t r (f + 1) (x :: xs) (y :: ys) = pre l x (mergeF l t r f xs (y :: ys)) := by rw [mergeF, if_pos h]
theorem mergeF_gt {l t r : Bool} {f : Nat} {x y : Int} (xs ys : List Int) (h : y < x) : mergeF l t r (f + 1) (x :: xs) (y :: ys) = pre r y (mergeF l t r f (x :: xs) ys) := by rw [mergeF, if_neg (by omega), if_pos h]
theorem mergeF_eq {l t r : Bool} {f : Nat} (x : Int) (xs ys : List Int) : mergeF l t r (f + 1) (x :: xs) (x :: ys) = pre t x (mergeF l t r f xs ys) := by rw [mergeF, if_neg (by omega), if_neg (by omega)]

theorem owns_drewN {w : World} {base e size : Nat} {v : Value} {n : Nat} {xs : List Value} (h : w.ownsRow base e size v n xs) (k : Nat) : (w.drewN k).ownsRow base e size v n xs := h

theorem cell_drewN (w : World) (k : Nat) (a : Addr) : (w.drewN k).cell? a = w.cell? a := rfl

theorem snoc_rel {k : IntKind} {W0 wr w1 : World} {B e nq : Nat} {v v' : Value} {out : List Int} {x : Int} {o : Obj} (hown : wr.ownsRow B e 1 v out.length (out.map (Value.int k))) (hB : Below B W0 wr) (hs : B ≤ wr.heap.size)
    (hown' : w1.ownsRow B e 1 v' (out.length + 1) (out.map (Value.int k) ++ [.int k x])) (hg : ((wr.drewN nq).alloc o).grownBy w1 v.ownBlock) :
    w1.ownsRow B e 1 v' (out ++ [x]).length ((out ++ [x]).map (Value.int k)) ∧ Below B W0 w1 :=
  ⟨owns_snoc hown', below_grown ((below_drewN hB nq).alloc hs o) (by simp; omega) (owns_drewN (hown.alloc o) 0) (Nat.le_refl _) hg⟩

theorem app_rel {k : IntKind} {W0 wr w1 : World} {B e n : Nat} {v v' : Value} {out xs : List Int} (hn : xs.length = n) (hown : wr.ownsRow B e 1 v out.length (out.map (Value.int k))) (hB : Below B W0 wr) (hs : B ≤ wr.heap.size)
    (hown' : w1.ownsRow B e 1 v' (out.length + n) (out.map (Value.int k) ++ xs.map (Value.int k))) (hg : wr.grownBy w1 v.ownBlock) :
    w1.ownsRow B e 1 v' (out ++ xs).length ((out ++ xs).map (Value.int k)) ∧ Below B W0 w1 ∧ B ≤ w1.heap.size :=
  ⟨owns_app hn hown', below_grown hB hs hown (Nat.le_refl _) hg, Nat.le_trans hs hg.size⟩

theorem fin_rel {w wr : World} {B e : Nat} {v : Value} {out res : List Int} (h : wr.ownsRow B e 1 v out.length (out.map (Value.int .u16))) (hb : Below w.heap.size w wr) (he : res = out) :
    ∃ oo p q, Ending.returned v = .returned (.slice oo p q) ∧ Rd .u16 wr oo p q res ∧ Below w.heap.size w wr := by
  obtain ⟨oo, q, hv, hr⟩ := Rd.of_owns h
  exact ⟨oo, _, q, by rw [hv], by rw [he]; exact hr, hb⟩

theorem one_new (w : World) (nq : Nat) (x : Value) (e : TypeId) : ∀ (j : Nat) (u : Value), [x][j]? = some u → ((w.drewN nq).alloc (.cells #[x] e)).cell? ((⟨w.heap.size, 0, none⟩ : Addr).add j) = some u := by
  intro j u hj
  match j, hj with
  | 0, hj =>
    simp at hj
    subst hj
    exact cell_one_new (w.drewN nq) x e 0 x rfl

theorem below_box {w w1 : World} {o : Obj} (h : Below (w.heap.size + 1) (w.alloc o) w1) : Below w.heap.size w w1 := ((Below.refl w.heap.size w).alloc (Nat.le_refl _) _).trans (h.mono (by omega))

theorem Rd.none_nil {k : IntKind} {w : World} {n c : Nat} {xs : List Int} (h : Rd k w none n c xs) : n = 0 ∧ c = 0 ∧ xs = [] := by
  have h1 := h.non rfl
  have h2 := h.cap
  have h3 := h.len
  exact ⟨by omega, h1, List.eq_nil_of_length_eq_zero (by omega)⟩

set_option maxHeartbeats 4000000 in
theorem merge_any (l t r : Bool) (ao bo : Option Addr) (n c m d : Nat) (xs ys : List Int) (w : World) (ha : Rd .u16 w ao n c xs) (hb : Rd .u16 w bo m d ys) (hn : n ≤ 100) (hm : m ≤ 100) :
    Calls Try.prog 25 #[.slice ao n c, .slice bo m d, .agg #[.bool l, .bool t, .bool r]] w fun e w' => ∃ oo p q, e = .returned (.slice oo p q) ∧ Rd .u16 w' oo p q (mergeF l t r 300 xs ys) ∧ Below w.heap.size w w' := by
  obtain ⟨i0, hi, hz0, hz1, hz2⟩ := info_parts Try.info33
  go_enter Try.func25, Try.ntmps25
  go_wp2
  go_loopw [0, 1, 7] (fun va vb vo wr => ∃ ao' : Option Addr, ∃ n' c' : Nat, ∃ xs' : List Int, ∃ bo' : Option Addr, ∃ m' d' : Nat, ∃ ys' : List Int, ∃ out : List Int, ∃ f : Nat,
      va = .slice ao' n' c' ∧ vb = .slice bo' m' d' ∧ Rd .u16 w ao' n' c' xs' ∧ Rd .u16 w bo' m' d' ys' ∧ n' + m' < f ∧ out.length + n' + m' ≤ 200 ∧ wr.ownsRow (w.heap.size + 1) 33 1 vo out.length (out.map (Value.int .u16)) ∧
      Below (w.heap.size + 1) (w.alloc (.cells #[.bool l, .bool t, .bool r] 44)) wr ∧ Hid (mergeF l t r 300 xs ys = out ++ mergeF l t r f xs' ys'))
    (fun va vb _ _ => lenOf va + lenOf vb)
  case atStart => exact ⟨ao, n, c, xs, bo, m, d, ys, [], 300, rfl, rfl, ha, hb, by omega, by simp; omega, World.ownsRow_nil _ _ _ _, Below.refl _ _, rfl⟩
  case round =>
    obtain ⟨ao', n', c', xs', bo', m', d', ys', out, f, rfl, rfl, ha', hb', hf, hle, hown, hB, HE⟩ := hrel
    have hsz : w.heap.size + 1 ≤ wr.heap.size := by have := hB.size; simp at this; omega
    have hB0 : Below w.heap.size w wr := ((Below.refl w.heap.size w).alloc (Nat.le_refl _) _).trans (hB.mono (by omega))
    have hl0 : wr.cell? ⟨w.heap.size, 0, none⟩ = some (.bool l) := by rw [hB.cell (by simp)]; simp
    have ht0 : wr.cell? ⟨w.heap.size, 1, none⟩ = some (.bool t) := by rw [hB.cell (by simp)]; simp
    have hr0 : wr.cell? ⟨w.heap.size, 2, none⟩ = some (.bool r) := by rw [hB.cell (by simp)]; simp
    have hla := ha'.len
    have hca := ha'.cap
    have hma := ha'.max
    have hlb := hb'.len
    have hcb := hb'.cap
    have hmb := hb'.max
    obtain ⟨g, rfl⟩ : ∃ g, f = g + 1 := ⟨f - 1, by omega⟩
    by_cases hgo : 0 < n' ∧ 0 < m'
    · obtain ⟨p, rfl⟩ : ∃ q, n' = q + 1 := ⟨n' - 1, by omega⟩
      obtain ⟨q, rfl⟩ : ∃ q, m' = q + 1 := ⟨m' - 1, by omega⟩
      obtain ⟨x, xr, rfl⟩ : ∃ x xr, xs' = x :: xr := by cases xs' with | nil => simp at hla | cons x xr => exact ⟨x, xr, rfl⟩
      obtain ⟨y, yr, rfl⟩ : ∃ x xr, ys' = x :: xr := by cases ys' with | nil => simp at hlb | cons x xr => exact ⟨x, xr, rfl⟩
      obtain ⟨b1, o1, rfl, hc1⟩ := ha'.cells (by omega)
      obtain ⟨b2, o2, rfl, hc2⟩ := hb'.cells (by omega)
      have hx0 := cell_later hB0 (hc1 0 (by omega))
      have hy0 := cell_later hB0 (hc2 0 (by omega))
      rw [nth_zero, Nat.add_zero] at hx0 hy0
      have hta := fun ao dd h0 h1 h2 => ha'.tail ao dd h0 h1 h2
      have htb := fun ao dd h0 h1 h2 => hb'.tail ao dd h0 h1 h2
      clear hgo hc1 hc2
      rcases (by omega : x < y ∨ x = y ∨ y < x) with hord | hord | hord
      · have hxy1 : (x == y) = false := by simp; omega
        cases l with
        | false =>
          go_wp2
          go_quiet (fail)
          go_wp2
          all_goals
            go_roundw
            case rel => exact ⟨_, p, _, xr, _, q + 1, d', y :: yr, out, g, rfl, rfl, (hta _ _ (by omega) (fun hq => by first | rfl | omega | (rw [if_neg (by omega)])) (by first | exact Option.some_ne_none _ | (split <;> simp))), hb', by omega, by omega, owns_drewN hown _, below_drewN hB _, by rw [HE.out, mergeF_lt _ _ hord]; rfl⟩
            case measure => simp only [lenOf]; omega
        | true =>
          go_wp2
          go_quiet (fail)
          go_wp2_with (at_builtin; refine wpList_append_own _ rfl _ _ 22 rfl (w.heap.size + 1) 33 i0 (.int .u16 0) 1 2 Try.underlying22 hi hz0 hz1 hz2 rfl (by decide) _ _ _ rfl (owns_drewN (hown.alloc _) _) ⟨wr.heap.size, 0, none⟩ 1 1 [.int .u16 x] rfl rfl (one_new _ _ _ _) (ints_one .u16 [x]) (by unfold maxLen; omega) (by omega) (by simp; omega) ?_)
          all_goals
            intro v1 w1 hown1 hgrow1 _
            have R := snoc_rel hown hB hsz hown1 hgrow1
            clear hown1 hgrow1 hown hB
            go_wp2
            go_roundw
            case rel => exact ⟨_, p, _, xr, _, q + 1, d', y :: yr, out ++ [x], g, rfl, rfl, (hta _ _ (by omega) (fun hq => by first | rfl | omega | (rw [if_neg (by omega)])) (by first | exact Option.some_ne_none _ | (split <;> simp))), hb', by omega, by simp; omega, R.1, R.2, by rw [HE.out, mergeF_lt _ _ hord, pre_app]; rfl⟩
            case measure => simp only [lenOf]; omega
      · subst hord
        cases t with
        | false =>
          go_wp2
          go_quiet (fail)
          go_wp2
          all_goals
            go_roundw
            case rel => exact ⟨_, p, _, xr, _, q, _, yr, out, g, rfl, rfl, (hta _ _ (by omega) (fun hq => by first | rfl | omega | (rw [if_neg (by omega)])) (by first | exact Option.some_ne_none _ | (split <;> simp))), (htb _ _ (by omega) (fun hq => by first | rfl | omega | (rw [if_neg (by omega)])) (by first | exact Option.some_ne_none _ | (split <;> simp))), by omega, by omega, owns_drewN hown _, below_drewN hB _, by rw [HE.out, mergeF_eq]; rfl⟩
            case measure => simp only [lenOf]; omega
        | true =>
          go_wp2
          go_quiet (fail)
          go_wp2_with (at_builtin; refine wpList_append_own _ rfl _ _ 22 rfl (w.heap.size + 1) 33 i0 (.int .u16 0) 1 2 Try.underlying22 hi hz0 hz1 hz2 rfl (by decide) _ _ _ rfl (owns_drewN (hown.alloc _) _) ⟨wr.heap.size, 0, none⟩ 1 1 [.int .u16 x] rfl rfl (one_new _ _ _ _) (ints_one .u16 [x]) (by unfold maxLen; omega) (by omega) (by simp; omega) ?_)
          all_goals
            intro v1 w1 hown1 hgrow1 _
            have R := snoc_rel hown hB hsz hown1 hgrow1
            clear hown1 hgrow1 hown hB
            go_wp2
            go_roundw
            case rel => exact ⟨_, p, _, xr, _, q, _, yr, out ++ [x], g, rfl, rfl, (hta _ _ (by omega) (fun hq => by first | rfl | omega | (rw [if_neg (by omega)])) (by first | exact Option.some_ne_none _ | (split <;> simp))), (htb _ _ (by omega) (fun hq => by first | rfl | omega | (rw [if_neg (by omega)])) (by first | exact Option.some_ne_none _ | (split <;> simp))), by omega, by simp; omega, R.1, R.2, by rw [HE.out, mergeF_eq, pre_app]; rfl⟩
            case measure => simp only [lenOf]; omega
      · have hxy1 : (x == y) = false := by simp; omega
        cases r with
        | false =>
          go_wp2
          go_quiet (fail)
          go_wp2
          all_goals
            go_roundw
            case rel => exact ⟨_, p + 1, c', x :: xr, _, q, _, yr, out, g, rfl, rfl, ha', (htb _ _ (by omega) (fun hq => by first | rfl | omega | (rw [if_neg (by omega)])) (by first | exact Option.some_ne_none _ | (split <;> simp))), by omega, by omega, owns_drewN hown _, below_drewN hB _, by rw [HE.out, mergeF_gt _ _ hord]; rfl⟩
            case measure => simp only [lenOf]; omega
        | true =>
          go_wp2
          go_quiet (fail)
          go_wp2_with (at_builtin; refine wpList_append_own _ rfl _ _ 22 rfl (w.heap.size + 1) 33 i0 (.int .u16 0) 1 2 Try.underlying22 hi hz0 hz1 hz2 rfl (by decide) _ _ _ rfl (owns_drewN (hown.alloc _) _) ⟨wr.heap.size, 0, none⟩ 1 1 [.int .u16 y] rfl rfl (one_new _ _ _ _) (ints_one .u16 [y]) (by unfold maxLen; omega) (by omega) (by simp; omega) ?_)
          all_goals
            intro v1 w1 hown1 hgrow1 _
            have R := snoc_rel hown hB hsz hown1 hgrow1
            clear hown1 hgrow1 hown hB
            go_wp2
            go_roundw
            case rel => exact ⟨_, p + 1, c', x :: xr, _, q, _, yr, out ++ [y], g, rfl, rfl, ha', (htb _ _ (by omega) (fun hq => by first | rfl | omega | (rw [if_neg (by omega)])) (by first | exact Option.some_ne_none _ | (split <;> simp))), by omega, by simp; omega, R.1, R.2, by rw [HE.out, mergeF_gt _ _ hord, pre_app]; rfl⟩
            case measure => simp only [lenOf]; omega
    · have hfin : mergeF l t r 300 xs ys = out ++ (if l then xs' else []) ++ (if r then ys' else []) := by
        rw [HE.out]
        cases xs' with
        | nil => cases l <;> cases r <;> simp [mergeF]
        | cons x xr =>
          cases ys' with
          | nil => cases l <;> cases r <;> simp [mergeF]
          | cons y yr => simp at hla hlb; omega
      have HF := hfin
      replace HF : Hid (mergeF l t r 300 xs ys = out ++ (if l then xs' else []) ++ (if r then ys' else [])) := hfin
      clear hfin HE
      have hA2 := ha'.later hB0
      have hB2 := hb'.later hB0
      have hgo2 : n' ≤ 0 ∨ (0 < n' ∧ m' ≤ 0) := by omega
      clear hgo
      rcases hgo2 with hn0 | ⟨hn0, hm0⟩
      · cases l with
        | false =>
          cases r with
          | false =>
            go_wp2
            go_ret
            exact fin_rel hown hB0 (by rw [HF.out]; simp)
          | true =>
            rcases bo' with _ | ad
            · obtain ⟨rfl, rfl, rfl⟩ := hB2.none_nil
              go_wp2_with (at_builtin; refine wpList_append_own_none rfl (.tmp 72) (.tmp 73) 22 rfl (w.heap.size + 1) 33 i0 1 Try.underlying22 hi _ _ _ rfl hown rfl ?_)
              go_ret
              exact fin_rel hown hB0 (by rw [HF.out]; simp)
            · go_wp2_with (at_builtin; refine wpList_append_own _ rfl (.tmp 72) (.tmp 73) 22 rfl (w.heap.size + 1) 33 i0 (.int .u16 0) 1 2 Try.underlying22 hi hz0 hz1 hz2 rfl (by decide) _ _ _ rfl hown ad m' d' (ys'.map (Value.int .u16)) rfl (by simp; omega) hB2.news (ints_one _ _) (by unfold maxLen; omega) (by omega) (by omega) ?_)
              intro v2 w2 hown2 hgrow2 _
              have R2 := app_rel hlb hown hB hsz hown2 hgrow2
              clear hown2 hgrow2
              go_wp2
              go_ret
              exact fin_rel R2.1 (below_box R2.2.1) (by rw [HF.out]; simp)
        | true =>
          rcases ao' with _ | ad1
          · obtain ⟨rfl, rfl, rfl⟩ := hA2.none_nil
            cases r with
            | false =>
              go_wp2_with (at_builtin; refine wpList_append_own_none rfl (.tmp 67) (.tmp 68) 22 rfl (w.heap.size + 1) 33 i0 1 Try.underlying22 hi _ _ _ rfl hown rfl ?_)
              go_ret
              exact fin_rel hown hB0 (by rw [HF.out]; simp)
            | true =>
              rcases bo' with _ | ad
              · obtain ⟨rfl, rfl, rfl⟩ := hB2.none_nil
                go_wp2_with (first | (at_builtin; refine wpList_append_own_none rfl (.tmp 67) (.tmp 68) 22 rfl (w.heap.size + 1) 33 i0 1 Try.underlying22 hi _ _ _ rfl hown rfl ?_) | (at_builtin; refine wpList_append_own_none rfl (.tmp 72) (.tmp 73) 22 rfl (w.heap.size + 1) 33 i0 1 Try.underlying22 hi _ _ _ rfl hown rfl ?_))
                go_ret
                exact fin_rel hown hB0 (by rw [HF.out]; simp)
              · go_wp2_with (first | (at_builtin; refine wpList_append_own_none rfl (.tmp 67) (.tmp 68) 22 rfl (w.heap.size + 1) 33 i0 1 Try.underlying22 hi _ _ _ rfl hown rfl ?_) | (at_builtin; refine wpList_append_own _ rfl (.tmp 72) (.tmp 73) 22 rfl (w.heap.size + 1) 33 i0 (.int .u16 0) 1 2 Try.underlying22 hi hz0 hz1 hz2 rfl (by decide) _ _ _ rfl hown ad m' d' (ys'.map (Value.int .u16)) rfl (by simp; omega) hB2.news (ints_one _ _) (by unfold maxLen; omega) (by omega) (by omega) ?_))
                intro v2 w2 hown2 hgrow2 _
                have R2 := app_rel hlb hown hB hsz hown2 hgrow2
                clear hown2 hgrow2
                go_wp2
                go_ret
                exact fin_rel R2.1 (below_box R2.2.1) (by rw [HF.out]; simp)
          · go_wp2_with (at_builtin; refine wpList_append_own _ rfl (.tmp 67) (.tmp 68) 22 rfl (w.heap.size + 1) 33 i0 (.int .u16 0) 1 2 Try.underlying22 hi hz0 hz1 hz2 rfl (by decide) _ _ _ rfl hown ad1 n' c' (xs'.map (Value.int .u16)) rfl (by simp; omega) hA2.news (ints_one _ _) (by unfold maxLen; omega) (by omega) (by omega) ?_)
            intro v1 w1 hown1 hgrow1 _
            obtain ⟨hown1a, hBx1, hsz1⟩ := app_rel hla hown hB hsz hown1 hgrow1
            have hB1 := below_box hBx1
            replace hB2 := hb'.later hB1
            have hr1 : w1.cell? ⟨w.heap.size, 2, none⟩ = some (.bool r) := by rw [hBx1.cell (by simp)]; simp
            clear hown1 hgrow1
            obtain ⟨out1, HO, hown1b, hol2⟩ : ∃ o : List Int, Hid (o = out ++ xs') ∧ w1.ownsRow (w.heap.size + 1) 33 1 v1 o.length (o.map (Value.int .u16)) ∧ o.length + m' ≤ 200 := ⟨_, rfl, hown1a, by simp; omega⟩
            clear hown1a
            cases r with
            | false =>
              go_wp2
              go_ret
              exact fin_rel hown1b hB1 (by rw [HF.out, HO.out]; simp)
            | true =>
              rcases bo' with _ | ad
              · obtain ⟨rfl, rfl, rfl⟩ := hB2.none_nil
                go_wp2_with (at_builtin; refine wpList_append_own_none rfl (.tmp 72) (.tmp 73) 22 rfl (w.heap.size + 1) 33 i0 1 Try.underlying22 hi _ _ _ rfl hown1b rfl ?_)
                go_ret
                exact fin_rel hown1b hB1 (by rw [HF.out, HO.out]; simp)
              · go_wp2_with (at_builtin; refine wpList_append_own _ rfl (.tmp 72) (.tmp 73) 22 rfl (w.heap.size + 1) 33 i0 (.int .u16 0) 1 2 Try.underlying22 hi hz0 hz1 hz2 rfl (by decide) _ _ _ rfl hown1b ad m' d' (ys'.map (Value.int .u16)) rfl (by simp; omega) hB2.news (ints_one _ _) (by unfold maxLen; omega) (by omega) (by omega) ?_)
                intro v2 w2 hown2 hgrow2 _
                have R2 := app_rel hlb hown1b hBx1 hsz1 hown2 hgrow2
                clear hown2 hgrow2
                go_wp2
                go_ret
                exact fin_rel R2.1 (below_box R2.2.1) (by rw [HF.out, HO.out]; simp)
      · cases l with
        | false =>
          cases r with
          | false =>
            go_wp2
            go_ret
            exact fin_rel hown hB0 (by rw [HF.out]; simp)
          | true =>
            rcases bo' with _ | ad
            · obtain ⟨rfl, rfl, rfl⟩ := hB2.none_nil
              go_wp2_with (at_builtin; refine wpList_append_own_none rfl (.tmp 72) (.tmp 73) 22 rfl (w.heap.size + 1) 33 i0 1 Try.underlying22 hi _ _ _ rfl hown rfl ?_)
              go_ret
              exact fin_rel hown hB0 (by rw [HF.out]; simp)
            · go_wp2_with (at_builtin; refine wpList_append_own _ rfl (.tmp 72) (.tmp 73) 22 rfl (w.heap.size + 1) 33 i0 (.int .u16 0) 1 2 Try.underlying22 hi hz0 hz1 hz2 rfl (by decide) _ _ _ rfl hown ad m' d' (ys'.map (Value.int .u16)) rfl (by simp; omega) hB2.news (ints_one _ _) (by unfold maxLen; omega) (by omega) (by omega) ?_)
              intro v2 w2 hown2 hgrow2 _
              have R2 := app_rel hlb hown hB hsz hown2 hgrow2
              clear hown2 hgrow2
              go_wp2
              go_ret
              exact fin_rel R2.1 (below_box R2.2.1) (by rw [HF.out]; simp)
        | true =>
          rcases ao' with _ | ad1
          · exact absurd hA2.none_nil.1 (by omega)
          · go_wp2_with (at_builtin; refine wpList_append_own _ rfl (.tmp 67) (.tmp 68) 22 rfl (w.heap.size + 1) 33 i0 (.int .u16 0) 1 2 Try.underlying22 hi hz0 hz1 hz2 rfl (by decide) _ _ _ rfl hown ad1 n' c' (xs'.map (Value.int .u16)) rfl (by simp; omega) hA2.news (ints_one _ _) (by unfold maxLen; omega) (by omega) (by omega) ?_)
            intro v1 w1 hown1 hgrow1 _
            obtain ⟨hown1a, hBx1, hsz1⟩ := app_rel hla hown hB hsz hown1 hgrow1
            have hB1 := below_box hBx1
            replace hB2 := hb'.later hB1
            have hr1 : w1.cell? ⟨w.heap.size, 2, none⟩ = some (.bool r) := by rw [hBx1.cell (by simp)]; simp
            clear hown1 hgrow1
            obtain ⟨out1, HO, hown1b, hol2⟩ : ∃ o : List Int, Hid (o = out ++ xs') ∧ w1.ownsRow (w.heap.size + 1) 33 1 v1 o.length (o.map (Value.int .u16)) ∧ o.length + m' ≤ 200 := ⟨_, rfl, hown1a, by simp; omega⟩
            clear hown1a
            cases r with
            | false =>
              go_wp2
              go_ret
              exact fin_rel hown1b hB1 (by rw [HF.out, HO.out]; simp)
            | true =>
              rcases bo' with _ | ad
              · obtain ⟨rfl, rfl, rfl⟩ := hB2.none_nil
                go_wp2_with (at_builtin; refine wpList_append_own_none rfl (.tmp 72) (.tmp 73) 22 rfl (w.heap.size + 1) 33 i0 1 Try.underlying22 hi _ _ _ rfl hown1b rfl ?_)
                go_ret
                exact fin_rel hown1b hB1 (by rw [HF.out, HO.out]; simp)
              · go_wp2_with (at_builtin; refine wpList_append_own _ rfl (.tmp 72) (.tmp 73) 22 rfl (w.heap.size + 1) 33 i0 (.int .u16 0) 1 2 Try.underlying22 hi hz0 hz1 hz2 rfl (by decide) _ _ _ rfl hown1b ad m' d' (ys'.map (Value.int .u16)) rfl (by simp; omega) hB2.news (ints_one _ _) (by unfold maxLen; omega) (by omega) (by omega) ?_)
                intro v2 w2 hown2 hgrow2 _
                have R2 := app_rel hlb hown1b hBx1 hsz1 hown2 hgrow2
                clear hown2 hgrow2
                go_wp2
                go_ret
                exact fin_rel R2.1 (below_box R2.2.1) (by rw [HF.out, HO.out]; simp)

end Go.Proofs.Ytghifjiohgninaa
