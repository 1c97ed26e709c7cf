/- The walk of 'label.Put': the bytes of a label behind others, in new memory. -/
import Derived.Test.YtgmodalpmicmnaaRef
import Derived.Test.YtgmodalpmicmnaaTags
import Derived.Deep.DeepCutAuto
namespace Go.Proofs.Ytgmodalpmicmnaa
open Go.RowKit
set_option linter.unusedVariables false

/-- The tags as bytes, the higher one first. -/
def tagsB (l : List Int) : List Int := l.flatMap fun t => [t / 256, t % 256]
/-- A label as bytes. -/
def putL (l : List Int) : List Int := (l.length : Int) :: tagsB l

theorem tagsB_len (l : List Int) : (tagsB l).length = 2 * l.length := by
  induction l with
  | nil => rfl
  | cons t r ih => simp [tagsB] at ih ⊢; omega

theorem tagsB_succ {l : List Int} {k : Nat} (h : k < l.length) : tagsB (l.take (k + 1)) = tagsB (l.take k) ++ [nth l k / 256, nth l k % 256] := by
  rw [List.take_succ_eq_append_getElem h, tagsB, tagsB, List.flatMap_append, nth, List.getElem?_eq_getElem h]; rfl

theorem Try.info5 : (Try.prog.info? 5).map (fun i => (i.zero, i.size, i.bytes)) = some (some (.int .u8 0), 1, 1) := by kernel_rfl

theorem two_new0 (w : World) (x y : Value) (e : TypeId) : ∀ (j : Nat) (u : Value), [x, y][j]? = some u → (w.alloc (.cells #[x, y] e)).cell? ((⟨w.heap.size, 0, none⟩ : Addr).add j) = some u := by
  intro j u hj
  match j, hj with
  | 0, hj => simp at hj; subst hj; simp [Addr.add, go_sem]
  | 1, hj => simp at hj; subst hj; simp [Addr.add, go_sem]

theorem snoc_rel2 {k : IntKind} {W0 wr w1 : World} {B e : Nat} {v v' : Value} {out : List Int} {x y : Int} {o : Obj} (hown : wr.ownsRow B e 1 v out.length (out.map (Value.int k))) (hB : Below B W0 wr) (hs : B ≤ wr.heap.size)
    (hown' : w1.ownsRow B e 1 v' (out.length + 2) (out.map (Value.int k) ++ [.int k x, .int k y])) (hg : (wr.alloc o).grownBy w1 v.ownBlock) :
    w1.ownsRow B e 1 v' (out ++ [x, y]).length ((out ++ [x, y]).map (Value.int k)) ∧ Below B W0 w1 :=
  ⟨by simpa using hown', below_grown (hB.alloc hs o) (by simp; omega) (hown.alloc o) (Nat.le_refl _) hg⟩

set_option maxHeartbeats 1000000 in
theorem put_any (ao bo : Option Addr) (n c m d : Nat) (bs l : List Int) (w : World) (ha : Rd .u8 w ao n c bs) (hb : Rd .u16 w bo m d l) (hn : n ≤ 1000) (hm : m ≤ 8) (hu : U16 l) :
    Calls Try.prog 26 #[.slice ao n c, .slice bo m d] w fun e w' => ∃ v, e = .returned v ∧ w'.ownsRow w.heap.size 5 1 v (bs ++ putL l).length ((bs ++ putL l).map (Value.int .u8)) ∧ Below w.heap.size w w' ∧ v ≠ .slice none 0 0 := by
  obtain ⟨i0, hi, hz0, hz1, hz2⟩ := info_parts Try.info5
  have hla := ha.len
  have hlb := hb.len
  subst hla
  subst hlb
  have hwr : IntKind.u8.wrap (l.length : Int) = (l.length : Int) := by rw [IntKind.wrap_u8]; omega
  go_enter Try.func26, Try.ntmps26
  go_wp2_with (at_make; refine wpList_make_own _ rfl _ _ 34 rfl w.heap.size 5 i0 (.int .u8 0) 1 Try.underlying34 hi hz0 hz1 .i64 .i64 _ (bs.length + 1 + 2 * l.length) rfl rfl (by omega) (by rw [hz2]; omega) (by unfold maxLen; omega) (Nat.le_refl _) ?_)
  intro w1 hown1 hg1
  have hB1 : Below w.heap.size w w1 := (Below.refl w.heap.size w).grown hg1 (Nat.le_refl _) (fun k hk => by cases hk)
  clear hg1
  go_upto_region 2 with fail
  go_cut [5] (fun v w' => w'.ownsRow w.heap.size 5 1 v bs.length (bs.map (Value.int .u8)) ∧ Below w.heap.size w w' ∧ v ≠ .slice none 0 0)
  case first =>
    rcases ao with _ | ad
    · obtain ⟨-, rfl, rfl⟩ := ha.none_nil
      go_wp2_with (first | (at_builtin; refine wpList_append_own_none rfl (.tmp 16) (.tmp 17) 34 rfl w.heap.size 5 i0 1 Try.underlying34 hi _ _ _ rfl hown1 rfl ?_) | fail)
      go_meet
      exact ⟨hown1, hB1, by simp⟩
    · go_wp2_with (at_builtin; refine wpList_append_own _ rfl (.tmp 16) (.tmp 17) 34 rfl w.heap.size 5 i0 (.int .u8 0) 1 1 Try.underlying34 hi hz0 hz1 hz2 rfl (by decide) _ _ _ rfl hown1 ad bs.length c (bs.map (Value.int .u8)) rfl (by simp) (ha.later hB1).news (ints_one _ _) (by unfold maxLen; omega) (by omega) hB1.size ?_)
      intro v2 w2 hown2 hg2 hnn
      have hB2 := below_grown hB1 hB1.size hown1 (Nat.le_refl _) hg2
      clear hg2
      go_wp2_with fail
      go_meet
      exact ⟨by simpa using hown2, hB2, by simpa using hnn⟩
  case rest =>
    obtain ⟨hown2, hB2, hnn2⟩ := hcut
    have hs2 := hB2.size
    clear hown1 hB1
    go_wp2_with (at_builtin; refine wpList_append_own _ rfl (.tmp 19) (.tmp 23) 34 rfl w.heap.size 5 i0 (.int .u8 0) 1 1 Try.underlying34 hi hz0 hz1 hz2 rfl (by decide) _ _ _ rfl (hown2.alloc _) ⟨wc.heap.size, 0, none⟩ 1 1 [.int .u8 (l.length : Int)] rfl rfl (one_new0 _ _ _) (ints_one .u8 [(l.length : Int)]) (by unfold maxLen; omega) (by omega) (by simp; omega) ?_)
    intro v3 w3 hown3 hg3 hnn3
    have R := snoc_rel0 hown2 hB2 hs2 hown3 hg3
    clear hown3 hg3 hown2 hB2
    obtain ⟨out3, HO, hown3, hl3⟩ : ∃ o : List Int, Hid (o = bs ++ [(l.length : Int)]) ∧ w3.ownsRow w.heap.size 5 1 v3 o.length (o.map (Value.int .u8)) ∧ o.length ≤ 1001 := ⟨_, rfl, R.1, by simp; omega⟩
    have hB3 := R.2
    clear R
    go_wp2
    go_loopw [5, 27] (fun v i wr => ∃ k : Nat, ∃ out : List Int, k ≤ l.length ∧ i = .int .i64 k ∧ out.length ≤ 1001 + 2 * k ∧ wr.ownsRow w.heap.size 5 1 v out.length (out.map (Value.int .u8)) ∧ Below w.heap.size w wr ∧ v ≠ .slice none 0 0 ∧ Hid (out = bs ++ (l.length : Int) :: tagsB (l.take k))) (fun _ i _ => l.length - (intOf i).toNat)
    case atStart => exact ⟨0, out3, by omega, rfl, by omega, hown3, hB3, by simpa using hnn3, by rw [HO.out]; rfl⟩
    case round =>
      obtain ⟨k, out, hk, rfl, hol, hown, hB, hnn, HE⟩ := hrel
      have hsz := hB.size
      by_cases hlt : k < l.length
      · obtain ⟨b, o, rfl, hc⟩ := hb.cells (by omega)
        have hck := cell_later hB (hc k hlt)
        obtain ⟨t, ht⟩ : ∃ t, t = nth l k := ⟨_, rfl⟩
        rw [← ht] at hck
        have hut := hu t (by rw [ht]; exact nth_mem hlt)
        have hw1 : IntKind.u8.wrap (t / 256) = t / 256 := by rw [IntKind.wrap_u8]; omega
        have hw2 : IntKind.u8.wrap t = t % 256 := by rw [IntKind.wrap_u8]
        have HE2 : Hid (out ++ [t / 256, t % 256] = bs ++ (l.length : Int) :: tagsB (l.take (k + 1))) := by rw [Hid, tagsB_succ hlt, HE.out, ← ht]; simp
        clear HE hc ht hown3 hB3 HO
        go_wp2_with (at_builtin; refine wpList_append_own _ rfl (.tmp 31) (.tmp 37) 34 rfl w.heap.size 5 i0 (.int .u8 0) 1 1 Try.underlying34 hi hz0 hz1 hz2 rfl (by decide) _ _ _ rfl (hown.alloc _) ⟨wr.heap.size, 0, none⟩ 2 2 [.int .u8 (t / 256), .int .u8 (t % 256)] rfl rfl (two_new0 _ _ _ _) (ints_one .u8 [t / 256, t % 256]) (by unfold maxLen; omega) (by omega) (by simp; omega) ?_)
        intro v4 w4 hown4 hg4 hnn4
        have R := snoc_rel2 hown hB hsz hown4 hg4
        clear hown4 hg4 hown hB
        go_wp2
        go_roundw
        case rel => exact ⟨k + 1, out ++ [t / 256, t % 256], by omega, by go_num, by simp; omega, R.1, R.2, by simpa using hnn4, HE2⟩
        case measure => simp only [intOf]; omega
      · go_wp2
        go_ret
        refine ⟨_, rfl, ?_, hB, hnn⟩
        have e : out = bs ++ putL l := by rw [HE.out, List.take_of_length_le (by omega)]; rfl
        rw [← e]
        exact hown

end Go.Proofs.Ytgmodalpmicmnaa
