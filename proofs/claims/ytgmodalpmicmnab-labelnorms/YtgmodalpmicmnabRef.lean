/- The walks of the document's own answers: 'in', 'Flows', 'Meet', 'Minus', 'Compare', 'Same' of quarantineref1. -/
import Derived.Test.YtgmodalpmicmnabMerge
import Derived.Test.YtgmodalpmicmnabCmp
namespace Go.Proofs.Ytgmodalpmicmnab
open Go.RowKit
set_option linter.unusedVariables false

def inB (xs : List Int) (t : Int) : Bool := decide (t ∈ xs)

theorem inB_nil (t : Int) : inB [] t = false := by simp [inB]
theorem inB_hit (t : Int) (xs : List Int) : inB (t :: xs) t = true := by simp [inB]
theorem inB_miss {x t : Int} (xs : List Int) (h : x ≠ t) : inB (x :: xs) t = inB xs t := by
  rw [inB, inB, Bool.eq_iff_iff]; simp [Ne.symm h]

def allIn (xs ys : List Int) : Bool := xs.all fun x => inB ys x

/-- Those of the first list that are (want) or are not (not want) in the second. -/
def keepIn (want : Bool) (xs ys : List Int) : List Int := xs.filter fun x => inB ys x == want

theorem keepIn_hit {want : Bool} {x : Int} (xs ys : List Int) (h : inB ys x = want) : keepIn want (x :: xs) ys = x :: keepIn want xs ys := by simp [keepIn, h]
theorem keepIn_miss {want : Bool} {x : Int} (xs ys : List Int) (h : inB ys x = !want) : keepIn want (x :: xs) ys = keepIn want xs ys := by cases want <;> simp [keepIn, h]

theorem one_new0 (w : World) (x : Value) (e : TypeId) : ∀ (j : Nat) (u : Value), [x][j]? = some u → (w.alloc (.cells #[x] e)).cell? ((⟨w.heap.size, 0, none⟩ : Addr).add j) = some u := one_new w 0 x e

theorem snoc_rel0 {k : IntKind} {W0 wr w1 : World} {B e : Nat} {v v' : Value} {out : List Int} {x : Int} {o : Obj} (hown : wr.ownsRow B e 1 v out.length (out.map (Value.int k))) (hB : Below B W0 wr) (hs : B ≤ wr.heap.size)
    (hown' : w1.ownsRow B e 1 v' (out.length + 1) (out.map (Value.int k) ++ [.int k x])) (hg : (wr.alloc o).grownBy w1 v.ownBlock) :
    w1.ownsRow B e 1 v' (out ++ [x]).length ((out ++ [x]).map (Value.int k)) ∧ Below B W0 w1 := snoc_rel (nq := 0) hown hB hs hown' hg

set_option maxHeartbeats 1000000 in
theorem refCompare_any (ao bo : Option Addr) (n c m d : Nat) (xs ys : List Int) (w : World) (ha : Rd .u16 w ao n c xs) (hb : Rd .u16 w bo m d ys) :
    Calls Try.prog 13 #[.slice ao n c, .slice bo m d] w fun e w' => e = .returned (.int .i64 (cmpL xs ys)) ∧ Below w.heap.size w w' := by
  have hlen := ha.len
  have hcap := ha.cap
  have hmax := ha.max
  have hlen2 := hb.len
  rcases (by omega : n < m ∨ n = m ∨ m < n) with hnm | hnm | hnm
  · rw [cmpL_lt (by omega)]
    have hne : ((n : Int) != (m : Int)) = true := by rw [bne_iff_ne]; omega
    go_enter Try.func13, Try.ntmps13
    go_wp2
    go_ret
    exact ⟨rfl, Below.refl _ _⟩
  · rw [cmpL_eq (by omega)]
    subst hnm
    go_enter Try.func13, Try.ntmps13
    go_wp2
    go_loopw [5] (fun i wr => ∃ k : Nat, k ≤ n ∧ i = .int .i64 k ∧ Below w.heap.size w wr ∧ Hid (lexI xs ys = lexI (xs.drop k) (ys.drop k))) (fun i _ => n - (intOf i).toNat)
    case atStart => exact ⟨0, by omega, rfl, Below.refl _ _, rfl⟩
    case round =>
      obtain ⟨k, hk, rfl, hB, HE⟩ := hrel
      by_cases hlt : k < n
      · obtain ⟨b, o, rfl, hc⟩ := ha.cells (by omega)
        obtain ⟨b2, o2, rfl, hc2⟩ := hb.cells (by omega)
        have hck := cell_later hB (hc k hlt)
        have hck2 := cell_later hB (hc2 k hlt)
        have HX : Hid (lexI xs ys = lexI (nth xs k :: xs.drop (k + 1)) (nth ys k :: ys.drop (k + 1))) := by
          rw [← drop_nth (by omega), ← drop_nth (by omega)]; exact HE
        clear hc hc2 HE
        rcases (by omega : nth xs k < nth ys k ∨ nth xs k = nth ys k ∨ nth ys k < nth xs k) with h | h | h
        · go_wp2
          go_quiet (fail)
          go_wp2
          go_ret
          exact ⟨ret_int (by rw [HX.out, lexI_lt _ _ h]), below_drewN hB _⟩
        · rw [← h] at hck2
          have HX2 : Hid (lexI xs ys = lexI (xs.drop (k + 1)) (ys.drop (k + 1))) := by
            have e := HX.out
            rw [← h, lexI_eq] at e
            exact e
          clear HX h
          go_wp2
          go_quiet (fail)
          go_wp2
          go_quiet (fail)
          go_wp2
          go_roundw
          case rel => exact ⟨k + 1, by omega, by go_num, by first | exact below_drewN hB _ | exact below_drewN (below_drewN hB _) _, HX2⟩
          case measure => simp only [intOf]; omega
        · go_wp2
          go_quiet (fail)
          go_wp2
          go_quiet (fail)
          go_wp2
          go_ret
          exact ⟨ret_int (by rw [HX.out, lexI_gt _ _ h]), by first | exact below_drewN hB _ | exact below_drewN (below_drewN hB _) _⟩
      · go_wp2
        go_ret
        exact ⟨ret_int (by rw [HE.out, List.drop_eq_nil_of_le (by omega : ys.length ≤ k), List.drop_eq_nil_of_le (by omega : xs.length ≤ k)]; rfl), hB⟩
  · rw [cmpL_gt (by omega)]
    have hne : ((n : Int) != (m : Int)) = true := by rw [bne_iff_ne]; omega
    go_enter Try.func13, Try.ntmps13
    go_wp2
    go_ret
    exact ⟨rfl, Below.refl _ _⟩

/-- Are two lists one? -/
def sameB (xs ys : List Int) : Bool := cmpL xs ys == 0

set_option maxHeartbeats 400000 in
theorem same_any (ao bo : Option Addr) (n c m d : Nat) (xs ys : List Int) (w : World) (ha : Rd .u16 w ao n c xs) (hb : Rd .u16 w bo m d ys) :
    Calls Try.prog 6 #[.slice ao n c, .slice bo m d] w fun e w' => e = .returned (.bool (sameB xs ys)) ∧ Below w.heap.size w w' := by
  go_enter Try.func6, Try.ntmps6
  go_wp2_with (go_at_call 13; refine (refCompare_any ao bo n c m d xs ys _ ha hb).mono ?_; rintro e w' ⟨rfl, hB⟩)
  go_ret
  exact ⟨rfl, hB⟩

end Go.Proofs.Ytgmodalpmicmnab
