/- The walks of the document's own Put and Take. -/
import Derived.Test.YtgmodalpmicmnaaTwin
import Derived.Test.YtgmodalpmicmnaaAll
namespace Go.Proofs.Ytgmodalpmicmnaa
open Go.RowKit
set_option linter.unusedVariables false

theorem owns_drew {w : World} {base e size : Nat} {v : Value} {n : Nat} {xs : List Value} (h : w.ownsRow base e size v n xs) : w.drew.ownsRow base e size v n xs := h

theorem snoc_rel2d {k : IntKind} {W0 wr w1 : World} {B e : Nat} {v v' : Value} {out : List Int} {x y : Int} {o : Obj} (hown : wr.ownsRow B e 1 v out.length (out.map (Value.int k))) (hB : Below B W0 wr) (hs : B ≤ wr.heap.size)
    (hown' : w1.ownsRow B e 1 v' (out.length + 2) (out.map (Value.int k) ++ [.int k x, .int k y])) (hg : (wr.alloc o).drew.grownBy w1 v.ownBlock) :
    w1.ownsRow B e 1 v' (out ++ [x, y]).length ((out ++ [x, y]).map (Value.int k)) ∧ Below B W0 w1 :=
  ⟨by simpa using hown', below_grown (hB.alloc hs o).drew (by show B ≤ (wr.alloc o).heap.size; simp; omega) (owns_drew (hown.alloc o)) (Nat.le_refl _) hg⟩

theorem two_of {w : World} {g : Nat} {x y : Value} (h : w.cell? ⟨g, 0, none⟩ = some x) (h1 : w.cell? ⟨g, 1, none⟩ = some y) : ∀ (j : Nat) (u : Value), [x, y][j]? = some u → w.cell? ((⟨g, 0, none⟩ : Addr).add j) = some u := by
  intro j u hj
  match j, hj with
  | 0, hj => simp at hj; subst hj; simpa [Addr.add] using h
  | 1, hj => simp at hj; subst hj; simpa [Addr.add] using h1

theorem fin_rel8 {w wr : World} {B e : Nat} {v : Value} {out res : List Int} (h : wr.ownsRow B e 1 v out.length (out.map (Value.int .u8))) (hb : Below w.heap.size w wr) (he : out = res) :
    ∃ oo p q, Ending.returned v = .returned (.slice oo p q) ∧ Rd .u8 wr oo p q res ∧ Below w.heap.size w wr := by
  obtain ⟨oo, q, hv, hr⟩ := Rd.of_owns h
  exact ⟨oo, _, q, by rw [hv], by rw [← he]; exact hr, hb⟩

set_option maxHeartbeats 1000000 in
theorem refPut_any (ao bo : Option Addr) (n c m d : Nat) (bs l : List Int) (w : World) (ha : Rd .u8 w ao n c bs) (hb : Rd .u16 w bo m d l) (hn : n ≤ 1000) (hm : m ≤ 8) (hu : U16 l) :
    Calls Try.prog 27 #[.slice ao n c, .slice bo m d] w fun e w' => ∃ oo p q, e = .returned (.slice oo p q) ∧ Rd .u8 w' oo p q (bs ++ putL l) ∧ Below w.heap.size w w' := by
  obtain ⟨i0, hi, hz0, hz1, hz2⟩ := info_parts Try.info5
  have hla := ha.len
  have hlb := hb.len
  subst hla
  subst hlb
  have hwr : IntKind.u8.wrap (l.length : Int) = (l.length : Int) := by rw [IntKind.wrap_u8]; omega
  have hb0 : Below w.heap.size w (w.alloc (.cells #[] 5)) := (Below.refl w.heap.size w).alloc (Nat.le_refl _) (.cells #[] 5)
  have hm0 := World.ownsRow_made (size := 1) (e := 5) (base := w.heap.size) w #[] 0 (Nat.le_refl _) (Nat.zero_le _) rfl
  go_enter Try.func27, Try.ntmps27
  go_upto_region 1 with fail
  go_cut [0] (fun v w' => ∃ out : List Int, w'.ownsRow w.heap.size 5 1 v out.length (out.map (Value.int .u8)) ∧ Below w.heap.size w w' ∧ out.length ≤ 1001 ∧ Hid (out = bs ++ [(l.length : Int)]))
  case first =>
    rcases ao with _ | ad
    · obtain ⟨-, rfl, rfl⟩ := ha.none_nil
      go_wp2_with (first | (at_builtin; refine wpList_append_own_none rfl (.tmp 6) (.tmp 7) 34 rfl w.heap.size 5 i0 1 Try.underlying34 hi _ _ _ rfl hm0 rfl ?_) | (at_builtin; refine wpList_append_own _ rfl (.tmp 8) (.tmp 12) 34 rfl w.heap.size 5 i0 (.int .u8 0) 1 1 Try.underlying34 hi hz0 hz1 hz2 rfl (by decide) _ _ _ rfl (hm0.alloc _) _ 1 1 [.int .u8 (l.length : Int)] rfl rfl (one_of (by simp [go_sem])) (ints_one .u8 [(l.length : Int)]) (by unfold maxLen; omega) (by omega) (by simp; omega) ?_))
      intro v3 w3 hown3 hg3 _
      have hB3 : Below w.heap.size w w3 := below_grown (hb0.alloc (by simp) _) (by simp; omega) (hm0.alloc _) (Nat.le_refl _) hg3
      clear hg3
      go_wp2_with fail
      go_meet
      exact ⟨[(l.length : Int)], by simpa using hown3, hB3, by simp, rfl⟩
    · go_wp2_with (at_builtin; refine wpList_append_own _ rfl (.tmp 6) (.tmp 7) 34 rfl w.heap.size 5 i0 (.int .u8 0) 1 1 Try.underlying34 hi hz0 hz1 hz2 rfl (by decide) _ _ _ rfl hm0 ad bs.length c (bs.map (Value.int .u8)) rfl (by simp) (ha.later hb0).news (ints_one _ _) (by unfold maxLen; omega) (by omega) hb0.size ?_)
      intro v2 w2 hown2 hg2 _
      have hB2 := below_grown hb0 hb0.size hm0 (Nat.le_refl _) hg2
      have hs2 := hB2.size
      clear hg2
      replace hown2 : w2.ownsRow w.heap.size 5 1 v2 bs.length (bs.map (Value.int .u8)) := by simpa using hown2
      go_wp2_with (at_builtin; refine wpList_append_own _ rfl (.tmp 8) (.tmp 12) 34 rfl w.heap.size 5 i0 (.int .u8 0) 1 1 Try.underlying34 hi hz0 hz1 hz2 rfl (by decide) _ _ _ rfl (hown2.alloc _) ⟨w2.heap.size, 0, none⟩ 1 1 [.int .u8 (l.length : Int)] rfl rfl (one_new0 _ _ _) (ints_one .u8 [(l.length : Int)]) (by unfold maxLen; omega) (by omega) (by simp; omega) ?_)
      intro v3 w3 hown3 hg3 _
      have R := snoc_rel0 hown2 hB2 hs2 hown3 hg3
      clear hown3 hg3 hown2 hB2
      go_wp2_with fail
      go_meet
      exact ⟨_, R.1, R.2, by simp; omega, rfl⟩
  case rest =>
    obtain ⟨out3, hown3, hB3, hl3, HO⟩ := hcut
    go_wp2
    go_loopw [0, 5] (fun v i wr => ∃ k : Nat, ∃ out : List Int, k ≤ l.length ∧ i = .int .i64 k ∧ out.length ≤ 1001 + 2 * k ∧ wr.ownsRow w.heap.size 5 1 v out.length (out.map (Value.int .u8)) ∧ Below w.heap.size w wr ∧ Hid (out = bs ++ (l.length : Int) :: tagsB (l.take k))) (fun _ i _ => l.length - (intOf i).toNat)
    case atStart => exact ⟨0, out3, by omega, rfl, by omega, hown3, hB3, by rw [HO.out]; rfl⟩
    case round =>
      obtain ⟨k, out, hk, rfl, hol, hown, hB, HE⟩ := hrel
      have hsz := hB.size
      by_cases hlt : k < l.length
      · obtain ⟨b, o, rfl, hc⟩ := hb.cells (by omega)
        have hck := cell_later hB (hc k hlt)
        have hck0 := hc k hlt
        obtain ⟨t, ht⟩ : ∃ t, t = nth l k := ⟨_, rfl⟩
        rw [← ht] at hck hck0
        have hut := hu t (by rw [ht]; exact nth_mem hlt)
        have v1 : IntKind.u8.wrap (IntKind.u16.wrap (t.tdiv 256)) = t / 256 := by
          rw [Int.tdiv_eq_ediv_of_nonneg hut.1, IntKind.wrap_u16, IntKind.wrap_u8]; omega
        have v2 : IntKind.u8.wrap (t.tmod 256) = t % 256 := by
          rw [Int.tmod_eq_emod_of_nonneg hut.1, IntKind.wrap_u8]; omega
        have v3 : IntKind.u8.wrap (IntKind.u16.wrap (t.tmod 256)) = t % 256 := by
          rw [Int.tmod_eq_emod_of_nonneg hut.1, IntKind.wrap_u16, IntKind.wrap_u8]; omega
        have HE2 : Hid (out ++ [t / 256, t % 256] = bs ++ (l.length : Int) :: tagsB (l.take (k + 1))) := by rw [Hid, tagsB_succ hlt, HE.out, ← ht]; simp
        have j1 : (k : Int) < (l.length : Int) := by omega
        clear HE hc ht hown3 hB3 HO
        go_wp2
        go_region_held3 (fun w' => w'.cell? ⟨b, o + k, none⟩ = some (.int .u16 t)) (first | go_keep | exact cell_later (snoc_rel2d hown hB hsz hown4 hg4).2 hck0)
          ((refine step_append_own (by rfl) (.tmp 20) (.tmp 33) 34 (by rfl) w.heap.size 5 i0 (.int .u8 0) 1 1 Try.underlying34 hi hz0 hz1 hz2 rfl (by decide) _ out.length (out.map (Value.int .u8)) (by rfl) (by first | exact owns_drew (hown.alloc _) | exact hown.alloc _) _ 2 2 [.int .u8 (t / 256), .int .u8 (t % 256)] (by rfl) (by rfl) (two_of (by simp [go_sem]) (by simp [go_sem])) (ints_one .u8 [t / 256, t % 256]) (by unfold maxLen; omega) (by omega) (by simp; omega) ?_; intro v4 w4 hown4 hg4))
        all_goals
          have R := snoc_rel2d hown hB hsz hown4 hg4
          clear hown4 hg4 hown hB
          go_wp2
          go_roundw
          case rel => exact ⟨k + 1, out ++ [t / 256, t % 256], by omega, by go_num, by simp; omega, R.1, R.2, HE2⟩
          case measure => simp only [intOf]; omega
      · go_wp2
        go_ret
        refine fin_rel8 hown hB ?_
        rw [HE.out, List.take_of_length_le (by omega)]; rfl

end Go.Proofs.Ytgmodalpmicmnaa
