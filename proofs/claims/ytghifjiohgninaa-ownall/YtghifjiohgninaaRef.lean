/- The walks of the document's own answers: 'in', 'Flows', 'Meet', 'Minus', 'Compare', 'Same' of quarantineref1. -/
import Derived.Test.YtghifjiohgninaaMerge
import Derived.Test.YtghifjiohgninaaCmp
namespace Go.Proofs.Ytghifjiohgninaa
open Go.RowKit
set_option linter.unusedVariables false

def inB (xs : List Int) (t : Int) : Bool := decide (t ∈ xs)

theorem inB_nil (t : Int) : inB [] t = false := by simp [inB]
theorem inB_hit (t : Int) (xs : List Int) : inB (t :: xs) t = true := by simp [inB]
theorem inB_miss {x t : Int} (xs : List Int) (h : x ≠ t) : inB (x :: xs) t = inB xs t := by
  rw [inB, inB, Bool.eq_iff_iff]; simp [Ne.symm h]

set_option maxHeartbeats 400000 in
theorem in_any (ao : Option Addr) (n c : Nat) (xs : List Int) (t : Int) (w : World) (h : Rd .u16 w ao n c xs) :
    Calls Try.prog 21 #[.slice ao n c, .int .u16 t] w fun e w' => e = .returned (.bool (inB xs t)) ∧ w' = w := by
  have hlen := h.len
  have hcap := h.cap
  have hmax := h.max
  go_enter Try.func21, Try.ntmps21
  go_wp2
  go_loop [5] (fun i => ∃ k : Nat, k ≤ n ∧ i = .int .i64 k ∧ Hid (inB xs t = inB (xs.drop k) t)) (fun i => n - (intOf i).toNat)
  case atStart => exact ⟨0, by omega, rfl, rfl⟩
  case round =>
    obtain ⟨k, hk, rfl, HE⟩ := hrel
    by_cases hlt : k < n
    · obtain ⟨b, o, rfl, hc⟩ := h.cells (by omega)
      have hck := hc k hlt
      have HX : Hid (inB xs t = inB (nth xs k :: xs.drop (k + 1)) t) := by rw [← drop_nth (by omega)]; exact HE
      clear HE hc
      by_cases hq : nth xs k = t
      · have hq2 : (nth xs k == t) = true := by rw [beq_iff_eq]; exact hq
        have HX2 : Hid (inB xs t = true) := by rw [Hid, HX.out, hq, inB_hit]
        clear hq
        go_wp2
        go_ret
        exact ⟨ret_bool HX2.out.symm, rfl⟩
      · have hq2 : (nth xs k == t) = false := by rw [beq_eq_false_iff_ne]; exact hq
        have HX2 : Hid (inB xs t = inB (xs.drop (k + 1)) t) := by rw [Hid, HX.out, inB_miss _ hq]
        clear hq HX
        go_wp2
        go_round
        case rel => exact ⟨k + 1, by omega, by go_num, HX2⟩
        case measure => simp only [intOf]; omega
    · go_wp2
      go_ret
      exact ⟨ret_bool (by rw [HE.out, List.drop_eq_nil_of_le (by omega), inB_nil]), rfl⟩

def allIn (xs ys : List Int) : Bool := xs.all fun x => inB ys x

set_option maxHeartbeats 400000 in
theorem refFlows_any (ao bo : Option Addr) (n c m d : Nat) (xs ys : List Int) (w : World) (ha : Rd .u16 w ao n c xs) (hb : Rd .u16 w bo m d ys) :
    Calls Try.prog 11 #[.slice ao n c, .slice bo m d] w fun e w' => e = .returned (.bool (allIn xs ys)) ∧ w' = w := by
  have hlen := ha.len
  have hcap := ha.cap
  have hmax := ha.max
  go_enter Try.func11, Try.ntmps11
  go_wp2
  go_loop [5] (fun i => ∃ k : Nat, k ≤ n ∧ i = .int .i64 k ∧ Hid (allIn xs ys = allIn (xs.drop k) ys)) (fun i => n - (intOf i).toNat)
  case atStart => exact ⟨0, by omega, rfl, rfl⟩
  case round =>
    obtain ⟨k, hk, rfl, HE⟩ := hrel
    by_cases hlt : k < n
    · obtain ⟨b, o, rfl, hc⟩ := ha.cells (by omega)
      have hck := hc k hlt
      have HX : Hid (allIn xs ys = (inB ys (nth xs k) && allIn (xs.drop (k + 1)) ys)) := by
        rw [Hid, HE.out, drop_nth (by omega)]; rfl
      clear HE hc
      cases hq : inB ys (nth xs k) with
      | false =>
        have HX2 : Hid (allIn xs ys = false) := by rw [Hid, HX.out, hq]; rfl
        clear HX
        go_wp2_with (go_at_call 21; refine (in_any bo m d ys _ _ hb).mono ?_; rintro e w' ⟨rfl, rfl⟩)
        go_ret
        exact ⟨ret_bool HX2.out.symm, rfl⟩
      | true =>
        have HX2 : Hid (allIn xs ys = allIn (xs.drop (k + 1)) ys) := by rw [Hid, HX.out, hq]; rfl
        clear HX
        go_wp2_with (go_at_call 21; refine (in_any bo m d ys _ _ hb).mono ?_; rintro e w' ⟨rfl, rfl⟩)
        go_round
        case rel => exact ⟨k + 1, by omega, by go_num, HX2⟩
        case measure => simp only [intOf]; omega
    · go_wp2
      go_ret
      exact ⟨ret_bool (by rw [HE.out, List.drop_eq_nil_of_le (by omega)]; rfl), rfl⟩

/-- Those of the first list that are (want) or are not (not want) in the second. -/
def keepIn (want : Bool) (xs ys : List Int) : List Int := xs.filter fun x => inB ys x == want

theorem keepIn_hit {want : Bool} {x : Int} (xs ys : List Int) (h : inB ys x = want) : keepIn want (x :: xs) ys = x :: keepIn want xs ys := by simp [keepIn, h]
theorem keepIn_miss {want : Bool} {x : Int} (xs ys : List Int) (h : inB ys x = !want) : keepIn want (x :: xs) ys = keepIn want xs ys := by cases want <;> simp [keepIn, h]

theorem one_new0 (w : World) (x : Value) (e : TypeId) : ∀ (j : Nat) (u : Value), [x][j]? = some u → (w.alloc (.cells #[x] e)).cell? ((⟨w.heap.size, 0, none⟩ : Addr).add j) = some u := one_new w 0 x e

theorem snoc_rel0 {k : IntKind} {W0 wr w1 : World} {B e : Nat} {v v' : Value} {out : List Int} {x : Int} {o : Obj} (hown : wr.ownsRow B e 1 v out.length (out.map (Value.int k))) (hB : Below B W0 wr) (hs : B ≤ wr.heap.size)
    (hown' : w1.ownsRow B e 1 v' (out.length + 1) (out.map (Value.int k) ++ [.int k x])) (hg : (wr.alloc o).grownBy w1 v.ownBlock) :
    w1.ownsRow B e 1 v' (out ++ [x]).length ((out ++ [x]).map (Value.int k)) ∧ Below B W0 w1 := snoc_rel (nq := 0) hown hB hs hown' hg

set_option maxHeartbeats 1000000 in
theorem refMeet_any (ao bo : Option Addr) (n c m d : Nat) (xs ys : List Int) (w : World) (ha : Rd .u16 w ao n c xs) (hb : Rd .u16 w bo m d ys) (hn : n ≤ 1000) :
    Calls Try.prog 16 #[.slice ao n c, .slice bo m d] w fun e w' => ∃ oo p q, e = .returned (.slice oo p q) ∧ Rd .u16 w' oo p q (keepIn true xs ys) ∧ Below w.heap.size w w' := by
  obtain ⟨i0, hi, hz0, hz1, hz2⟩ := info_parts Try.info33
  have hlen := ha.len
  have hcap := ha.cap
  have hmax := ha.max
  go_enter Try.func16, Try.ntmps16
  go_wp2
  go_loopw [5, 6] (fun v i wr => ∃ k : Nat, ∃ out : List Int, k ≤ n ∧ i = .int .i64 k ∧ out.length ≤ k ∧ wr.ownsRow w.heap.size 33 1 v out.length (out.map (Value.int .u16)) ∧ Below w.heap.size w wr ∧ Hid (keepIn true xs ys = out ++ keepIn true (xs.drop k) ys)) (fun _ i _ => n - (intOf i).toNat)
  case atStart => exact ⟨0, [], by omega, rfl, by simp, World.ownsRow_nil _ _ _ _, Below.refl _ _, rfl⟩
  case round =>
    obtain ⟨k, out, hk, rfl, hol, hown, hB, HE⟩ := hrel
    have hsz := hB.size
    by_cases hlt : k < n
    · obtain ⟨b, o, rfl, hc⟩ := ha.cells (by omega)
      have hck := cell_later hB (hc k hlt)
      clear hc
      cases hq : inB ys (nth xs k) with
      | false =>
        have HX2 : Hid (keepIn true xs ys = out ++ keepIn true (xs.drop (k + 1)) ys) := by rw [Hid, HE.out, drop_nth (by omega), keepIn_miss _ _ (by rw [hq]; rfl)]
        clear HE
        go_wp2_with (go_at_call 21; refine (in_any bo m d ys _ _ (hb.later hB)).mono ?_; rintro e w' ⟨rfl, rfl⟩)
        go_roundw
        case rel => exact ⟨k + 1, out, by omega, by go_num, by omega, hown, hB, HX2⟩
        case measure => simp only [intOf]; omega
      | true =>
        have HX2 : Hid (keepIn true xs ys = (out ++ [nth xs k]) ++ keepIn true (xs.drop (k + 1)) ys) := by rw [Hid, HE.out, drop_nth (by omega), keepIn_hit _ _ hq]; simp
        clear HE
        go_wp2_with fail
        refine (in_any bo m d ys _ _ (hb.later hB)).mono ?_
        rintro e w' ⟨rfl, hw'⟩
        rw [hw']
        clear hw'
        go_wp2_with (at_builtin; refine wpList_append_own _ rfl _ _ 23 rfl w.heap.size 33 i0 (.int .u16 0) 1 2 Try.underlying23 hi hz0 hz1 hz2 rfl (by decide) _ _ _ rfl (hown.alloc _) ⟨wr.heap.size, 0, none⟩ 1 1 [.int .u16 (nth xs k)] rfl rfl (one_new0 _ _ _) (ints_one .u16 [nth xs k]) (by unfold maxLen; omega) (by omega) (by simp; omega) ?_)
        intro v1 w1 hown1 hgrow1 _
        have R := snoc_rel0 hown hB hsz hown1 hgrow1
        clear hown1 hgrow1 hown hB
        go_wp2
        go_roundw
        case rel => exact ⟨k + 1, out ++ [nth xs k], by omega, by go_num, by simp; omega, R.1, R.2, HX2⟩
        case measure => simp only [intOf]; omega
    · go_wp2
      go_ret
      refine fin_rel hown hB ?_
      rw [HE.out, List.drop_eq_nil_of_le (by omega)]
      simp [keepIn]

set_option maxHeartbeats 1000000 in
theorem refMinus_any (ao bo : Option Addr) (n c m d : Nat) (xs ys : List Int) (w : World) (ha : Rd .u16 w ao n c xs) (hb : Rd .u16 w bo m d ys) (hn : n ≤ 1000) :
    Calls Try.prog 12 #[.slice ao n c, .slice bo m d] w fun e w' => ∃ oo p q, e = .returned (.slice oo p q) ∧ Rd .u16 w' oo p q (keepIn false xs ys) ∧ Below w.heap.size w w' := by
  obtain ⟨i0, hi, hz0, hz1, hz2⟩ := info_parts Try.info33
  have hlen := ha.len
  have hcap := ha.cap
  have hmax := ha.max
  go_enter Try.func12, Try.ntmps12
  go_wp2
  go_loopw [5, 6] (fun v i wr => ∃ k : Nat, ∃ out : List Int, k ≤ n ∧ i = .int .i64 k ∧ out.length ≤ k ∧ wr.ownsRow w.heap.size 33 1 v out.length (out.map (Value.int .u16)) ∧ Below w.heap.size w wr ∧ Hid (keepIn false xs ys = out ++ keepIn false (xs.drop k) ys)) (fun _ i _ => n - (intOf i).toNat)
  case atStart => exact ⟨0, [], by omega, rfl, by simp, World.ownsRow_nil _ _ _ _, Below.refl _ _, rfl⟩
  case round =>
    obtain ⟨k, out, hk, rfl, hol, hown, hB, HE⟩ := hrel
    have hsz := hB.size
    by_cases hlt : k < n
    · obtain ⟨b, o, rfl, hc⟩ := ha.cells (by omega)
      have hck := cell_later hB (hc k hlt)
      clear hc
      cases hq : inB ys (nth xs k) with
      | true =>
        have HX2 : Hid (keepIn false xs ys = out ++ keepIn false (xs.drop (k + 1)) ys) := by rw [Hid, HE.out, drop_nth (by omega), keepIn_miss _ _ (by rw [hq]; rfl)]
        clear HE
        go_wp2_with (go_at_call 21; refine (in_any bo m d ys _ _ (hb.later hB)).mono ?_; rintro e w' ⟨rfl, rfl⟩)
        go_roundw
        case rel => exact ⟨k + 1, out, by omega, by go_num, by omega, hown, hB, HX2⟩
        case measure => simp only [intOf]; omega
      | false =>
        have HX2 : Hid (keepIn false xs ys = (out ++ [nth xs k]) ++ keepIn false (xs.drop (k + 1)) ys) := by rw [Hid, HE.out, drop_nth (by omega), keepIn_hit _ _ hq]; simp
        clear HE
        go_wp2_with fail
        refine (in_any bo m d ys _ _ (hb.later hB)).mono ?_
        rintro e w' ⟨rfl, hw'⟩
        rw [hw']
        clear hw'
        go_wp2_with (at_builtin; refine wpList_append_own _ rfl _ _ 23 rfl w.heap.size 33 i0 (.int .u16 0) 1 2 Try.underlying23 hi hz0 hz1 hz2 rfl (by decide) _ _ _ rfl (hown.alloc _) ⟨wr.heap.size, 0, none⟩ 1 1 [.int .u16 (nth xs k)] rfl rfl (one_new0 _ _ _) (ints_one .u16 [nth xs k]) (by unfold maxLen; omega) (by omega) (by simp; omega) ?_)
        intro v1 w1 hown1 hgrow1 _
        have R := snoc_rel0 hown hB hsz hown1 hgrow1
        clear hown1 hgrow1 hown hB
        go_wp2
        go_roundw
        case rel => exact ⟨k + 1, out ++ [nth xs k], by omega, by go_num, by simp; omega, R.1, R.2, HX2⟩
        case measure => simp only [intOf]; omega
    · go_wp2
      go_ret
      refine fin_rel hown hB ?_
      rw [HE.out, List.drop_eq_nil_of_le (by omega)]
      simp [keepIn]

set_option maxHeartbeats 1000000 in
theorem refCompare_any (ao bo : Option Addr) (n c m d : Nat) (xs ys : List Int) (w : World) (ha : Rd .u16 w ao n c xs) (hb : Rd .u16 w bo m d ys) :
    Calls Try.prog 22 #[.slice ao n c, .slice bo m d] w fun e w' => e = .returned (.int .i64 (cmpL xs ys)) ∧ Below w.heap.size w w' := by
  have hlen := ha.len
  have hcap := ha.cap
  have hmax := ha.max
  have hlen2 := hb.len
  rcases (by omega : n < m ∨ n = m ∨ m < n) with hnm | hnm | hnm
  · rw [cmpL_lt (by omega)]
    have hne : ((n : Int) != (m : Int)) = true := by rw [bne_iff_ne]; omega
    go_enter Try.func22, Try.ntmps22
    go_wp2
    go_ret
    exact ⟨rfl, Below.refl _ _⟩
  · rw [cmpL_eq (by omega)]
    subst hnm
    go_enter Try.func22, Try.ntmps22
    go_wp2
    go_loopw [5] (fun i wr => ∃ k : Nat, k ≤ n ∧ i = .int .i64 k ∧ Below w.heap.size w wr ∧ Hid (lexI xs ys = lexI (xs.drop k) (ys.drop k))) (fun i _ => n - (intOf i).toNat)
    case atStart => exact ⟨0, by omega, rfl, Below.refl _ _, rfl⟩
    case round =>
      obtain ⟨k, hk, rfl, hB, HE⟩ := hrel
      by_cases hlt : k < n
      · obtain ⟨b, o, rfl, hc⟩ := ha.cells (by omega)
        obtain ⟨b2, o2, rfl, hc2⟩ := hb.cells (by omega)
        have hck := cell_later hB (hc k hlt)
        have hck2 := cell_later hB (hc2 k hlt)
        have HX : Hid (lexI xs ys = lexI (nth xs k :: xs.drop (k + 1)) (nth ys k :: ys.drop (k + 1))) := by
          rw [← drop_nth (by omega), ← drop_nth (by omega)]; exact HE
        clear hc hc2 HE
        rcases (by omega : nth xs k < nth ys k ∨ nth xs k = nth ys k ∨ nth ys k < nth xs k) with h | h | h
        · go_wp2
          go_quiet (fail)
          go_wp2
          go_ret
          exact ⟨ret_int (by rw [HX.out, lexI_lt _ _ h]), below_drewN hB _⟩
        · rw [← h] at hck2
          have HX2 : Hid (lexI xs ys = lexI (xs.drop (k + 1)) (ys.drop (k + 1))) := by
            have e := HX.out
            rw [← h, lexI_eq] at e
            exact e
          clear HX h
          go_wp2
          go_quiet (fail)
          go_wp2
          go_quiet (fail)
          go_wp2
          go_roundw
          case rel => exact ⟨k + 1, by omega, by go_num, by first | exact below_drewN hB _ | exact below_drewN (below_drewN hB _) _, HX2⟩
          case measure => simp only [intOf]; omega
        · go_wp2
          go_quiet (fail)
          go_wp2
          go_quiet (fail)
          go_wp2
          go_ret
          exact ⟨ret_int (by rw [HX.out, lexI_gt _ _ h]), by first | exact below_drewN hB _ | exact below_drewN (below_drewN hB _) _⟩
      · go_wp2
        go_ret
        exact ⟨ret_int (by rw [HE.out, List.drop_eq_nil_of_le (by omega : ys.length ≤ k), List.drop_eq_nil_of_le (by omega : xs.length ≤ k)]; rfl), hB⟩
  · rw [cmpL_gt (by omega)]
    have hne : ((n : Int) != (m : Int)) = true := by rw [bne_iff_ne]; omega
    go_enter Try.func22, Try.ntmps22
    go_wp2
    go_ret
    exact ⟨rfl, Below.refl _ _⟩

/-- Are two lists one? -/
def sameB (xs ys : List Int) : Bool := cmpL xs ys == 0

set_option maxHeartbeats 400000 in
theorem same_any (ao bo : Option Addr) (n c m d : Nat) (xs ys : List Int) (w : World) (ha : Rd .u16 w ao n c xs) (hb : Rd .u16 w bo m d ys) :
    Calls Try.prog 13 #[.slice ao n c, .slice bo m d] w fun e w' => e = .returned (.bool (sameB xs ys)) ∧ Below w.heap.size w w' := by
  go_enter Try.func13, Try.ntmps13
  go_wp2_with (go_at_call 22; refine (refCompare_any ao bo n c m d xs ys _ ha hb).mono ?_; rintro e w' ⟨rfl, hB⟩)
  go_ret
  exact ⟨rfl, hB⟩

end Go.Proofs.Ytghifjiohgninaa
