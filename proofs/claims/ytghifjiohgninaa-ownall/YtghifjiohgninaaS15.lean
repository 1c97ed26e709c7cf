/- The walks of 'label.ordered' and 'label.Norm' at any tags, fewer than 50. -/
import Derived.Test.YtghifjiohgninaaS14
import Derived.Test.YtghifjiohgninaaAllF
namespace Go.Proofs.Ytghifjiohgninaa
open Go.RowKit
open Go.Sort (swp PermIn SortedIn ltInt)
set_option linter.unusedVariables false

theorem SW.below {B g cap : Nat} {w w0 w' : World} {d : Array Int} (h : SW g cap w0 w' d) (hb : Below B w w0) (hB : B ≤ w0.heap.size) (hg : B ≤ g) : Below B w w' :=
  ⟨h.os.trans hb.os, h.tape.trans hb.tape, h.output.trans hb.output, Nat.le_trans hb.size h.size, fun k hk => (h.other k (by omega) (by omega)).trans (hb.block k hk)⟩

theorem SW.rd {g cap : Nat} {w0 w : World} {ys : List Int} (h : SW g cap w0 w ys.toArray) (hmax : cap ≤ 9223372036854775807) : Rd .u16 w (some ⟨g, 0, none⟩) ys.length cap ys := by
  have hle : ys.length ≤ cap := by
    obtain ⟨cur, _, _, hd, _⟩ := h.row
    simpa using hd
  refine ⟨rfl, hle, hmax, fun e => by simp at e, fun _ => ⟨g, 0, rfl, fun i hi => ?_⟩⟩
  have := h.cell (j := i) (by simpa using hi)
  rw [Nat.zero_add, this]
  congr 2
  rw [getElem!_pos _ i (by simpa using hi)]
  simp [nth, hi]

theorem SW.of_row {g cap n : Nat} {w : World} {cur : Array Value} {xs : List Int} (hc : w.heap[g]? = some (.cells cur 33 (0, 0))) (hs : cur.size = cap * 1) (hl : xs.length = n) (hn : n ≤ cap) (ht : cur.toList.take (n * 1) = xs.map (Value.int .u16)) : SW g cap w w xs.toArray := by
  refine ⟨rfl, rfl, rfl, Nat.le_refl _, fun _ _ _ => rfl, cur, hc, by omega, by simp; omega, fun j hj => ?_⟩
  have hj' : j < xs.length := by simpa using hj
  have e : (cur.toList.take (n * 1))[j]? = (xs.map (Value.int .u16))[j]? := by rw [ht]
  rw [List.getElem?_take, if_pos (by omega), Array.getElem?_toList] at e
  rw [e, getElem!_pos _ j hj, List.getElem?_map, List.getElem?_eq_getElem hj']
  simp

theorem all_of_up {xs : List Int} (h : Up xs) : allL xs = xs := up_ext (up_all xs) h (mem_all xs)

theorem rises_small {xs : List Int} (h : xs.length < 2) : risesB xs = true := by
  apply rises_of_up
  match xs, h with
  | [], _ => exact List.Pairwise.nil
  | [x], _ => exact List.pairwise_singleton _ _

set_option maxHeartbeats 1000000 in
theorem ordered_any (ao : Option Addr) (n c : Nat) (xs : List Int) (w : World) (h : Rd .u16 w ao n c xs) (hn : n < 50) :
    Calls Try.prog 24 #[.slice ao n c] w fun e w' => ∃ oo p q, e = .returned (.slice oo p q) ∧ Rd .u16 w' oo p q (allL xs) ∧ Below w.heap.size w w' := by
  by_cases hr : risesB xs = true
  · refine (ordered_same ao n c xs w h hr).mono ?_
    rintro e w' ⟨rfl, hb⟩
    exact ⟨ao, n, c, rfl, by rw [all_of_up (up_of_rises hr)]; exact h.later hb, hb⟩
  · have hr2 : risesB xs = false := by simpa using hr
    have h2 : 2 ≤ n := by
      rcases Nat.lt_or_ge n 2 with h3 | h3
      · exact absurd (rises_small (by rw [h.len]; exact h3)) hr
      · exact h3
    obtain ⟨b, o, rfl, -⟩ := h.cells (by omega)
    clear hr
    go_enter Try.func24, Try.ntmps24
    go_wp2_with fail
    refine (rises_any (some ⟨b, o, none⟩) n c xs w h).mono ?_
    rintro e w1 ⟨rfl, hb1⟩
    go_wp2_with fail
    refine (clone_any ⟨b, o, none⟩ n c xs w1 (h.later hb1) (by omega)).mono ?_
    rintro e w2 ⟨v, rfl, hown, hb2, hnn⟩
    rcases hown.2 with ⟨hv, _⟩ | ⟨g, cap, cur, hv, hg, hcur, hnc, hcm, hcs, htk⟩
    · exact absurd hv (hnn (by omega))
    rw [hv]
    have hlen := h.len
    have hmax : cap ≤ 9223372036854775807 := hcm
    have hS := SW.of_row hcur hcs hlen hnc htk
    have hb12 : Below w.heap.size w w2 := hb1.trans (hb2.mono hb1.size)
    have hgw : w.heap.size ≤ g := by have := hb1.size; omega
    clear hown hv hnn htk hcur hcs hcm
    go_wp2_with fail
    refine (sort_many g cap n xs.toArray w2 _ hS (by simpa using hlen) hn).mono ?_
    rintro e w3 ⟨rfl, d', hd1, hd2, hd3, hS3⟩
    go_wp2_with fail
    refine (compact_any g cap n d' w2 _ hS3 hd3 h2 hd1 (by omega) hnc hmax).mono ?_
    rintro e w4 ⟨ys, rfl, hu, hm, hyl, hS4⟩
    obtain rfl : ys = allL xs := up_ext hu (up_all xs) fun z => by rw [hm, hd2, mem_all]
    go_wp2
    go_ret
    exact ⟨some ⟨g, 0, none⟩, (allL xs).length, cap, rfl, hS4.rd hmax, hS4.below hb12 hb12.size hgw⟩

set_option maxHeartbeats 1000000 in
/-- 'Norm' at tags of which no more than MaxTags are unlike: new memory. -/
theorem norm_few (ao : Option Addr) (n c : Nat) (xs : List Int) (w : World) (h : Rd .u16 w ao n c xs) (hn : n < 50) (hf : (allL xs).length ≤ 8) :
    Calls Try.prog 17 #[.slice ao n c] w fun e w' => ∃ v, e = .returned (.tuple #[v, .int .i64 0]) ∧ w'.ownsRow w.heap.size 33 1 v (allL xs).length ((allL xs).map (Value.int .u16)) ∧ Below w.heap.size w w' := by
  obtain ⟨i0, hi, hz0, hz1, hz2⟩ := info_parts Try.info33
  obtain ⟨ys, HY⟩ : ∃ ys, Hid (ys = allL xs) := ⟨_, rfl⟩
  have HO := ordered_any ao n c xs w h hn
  rw [← HY.out] at HO hf ⊢
  replace HO : Hid _ := HO
  go_enter Try.func17, Try.ntmps17
  go_wp2_with fail
  refine Calls.mono HO.out ?_
  rintro e w1 ⟨oo, p, q, rfl, hr, hb1⟩
  have hl := hr.len
  subst hl
  have hsz := hb1.size
  have g1 : decide ((8 : Int) < (ys.length : Int)) = false := by simp; omega
  rcases oo with _ | ad
  · obtain ⟨-, rfl, rfl⟩ := hr.none_nil
    go_wp2_with (at_builtin; refine wpList_append_none2 rfl (.const (.slice none 0 0)) (.tmp 10) 23 22 rfl w1.heap.size 33 33 i0 1 Try.underlying23 Try.underlying22 hi _ _ _ rfl (World.ownsRow_nil _ _ _ _) rfl ?_)
    go_ret2
    exact ⟨.slice none 0 0, rfl, World.ownsRow_nil _ _ _ _, hb1⟩
  · go_wp2_with (at_builtin; refine wpList_append_own2 _ rfl (.const (.slice none 0 0)) (.tmp 10) 23 22 rfl w1.heap.size 33 33 i0 (.int .u16 0) 1 2 Try.underlying23 Try.underlying22 hi hz0 hz1 hz2 rfl (by decide) _ _ _ rfl (World.ownsRow_nil _ _ _ _) ad ys.length q (ys.map (Value.int .u16)) rfl (by simp) hr.news (ints_one _ _) (by unfold maxLen; omega) (by omega) (by omega) ?_)
    intro v2 w2 hown2 hgrow2 _
    have hB2 : Below w.heap.size w w2 := hb1.trans (below_grown (Below.refl w.heap.size w1) (by omega) (World.ownsRow_nil w1 w1.heap.size 33 1) (by omega) hgrow2)
    clear hgrow2
    go_wp2
    go_ret2
    exact ⟨v2, rfl, owns_base (by simpa using hown2) hsz, hB2⟩

/-- 'Norm' at more unlike tags: no label. -/
theorem norm_many (ao : Option Addr) (n c : Nat) (xs : List Int) (w : World) (h : Rd .u16 w ao n c xs) (hn : n < 50) (hf : ¬ (allL xs).length ≤ 8) :
    Calls Try.prog 17 #[.slice ao n c] w fun e w' => e = .returned (.tuple #[.slice none 0 0, .int .i64 7]) ∧ Below w.heap.size w w' := by
  obtain ⟨ys, HY⟩ : ∃ ys, Hid (ys = allL xs) := ⟨_, rfl⟩
  have HO := ordered_any ao n c xs w h hn
  rw [← HY.out] at HO hf
  replace HO : Hid _ := HO
  go_enter Try.func17, Try.ntmps17
  go_wp2_with fail
  refine Calls.mono HO.out ?_
  rintro e w1 ⟨oo, p, q, rfl, hr, hb1⟩
  have hl := hr.len
  subst hl
  have g1 : decide ((8 : Int) < (ys.length : Int)) = true := by simp; omega
  go_wp2
  go_ret2
  exact ⟨rfl, hb1⟩

end Go.Proofs.Ytghifjiohgninaa
