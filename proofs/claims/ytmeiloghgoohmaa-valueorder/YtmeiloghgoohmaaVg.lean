/- The walks of 'Twin', 'Kept' and 'Spoil' of quarantinelaw0. -/
import Derived.Test.YtmeiloghgoohmaaV9
import Derived.Laws.CopyOwn
namespace Go.Proofs.Ytmeiloghgoohmaa
open Go.RowKit
set_option linter.unusedVariables false

theorem frozen_set (w : World) (a b : Addr) (u : Value) : (w.setCell a u).frozen? b = w.frozen? b := by simp [go_sem]
theorem cell_set_same {w : World} {a : Addr} {v u : Value} (h : w.cell? a = some v) : (w.setCell a u).cell? a = some u := by simp [go_sem, h]
theorem cell_set_other {w : World} {a b : Addr} {u : Value} (h : b ≠ a) : (w.setCell a u).cell? b = w.cell? b := World.cell?_setCell_other _ _ _ _ (Ne.symm h)

theorem cell_of_block {w : World} {g k : Nat} {arr : Array Value} {e : TypeId} (h : w.heap[g]? = some (.cells arr e (0, 0))) : w.cell? ⟨g, k, none⟩ = arr[k]? := by simp [World.cell?, h]
theorem free_of_block {w : World} {g k : Nat} {arr : Array Value} {e : TypeId} (h : w.heap[g]? = some (.cells arr e (0, 0))) : w.frozen? ⟨g, k, none⟩ = false := by simp [World.frozen?, h]

set_option maxHeartbeats 1000000 in
theorem twin_any (ao : Option Addr) (n c : Nat) (bs : List Int) (w : World) (h : Rd .u8 w ao n c bs) (hn : n ≤ 1000) :
    Calls Try.prog 11 #[.slice ao n c] w fun e w' => e = .returned (.slice (some ⟨w.heap.size, 0, none⟩) n (n + 3)) ∧ Rd .u8 w' (some ⟨w.heap.size, 0, none⟩) (n + 3) (n + 3) (bs ++ [229, 229, 229]) ∧ Below w.heap.size w w' := by
  obtain ⟨i0, hi, hz0, hz1, hz2⟩ := info_parts Try.info5
  have hlen := h.len
  have hi1 : (Try.prog.info? 5).map (·.size) = some 1 := by rw [hi]; simp [hz1]
  subst hlen
  go_enter Try.func11, Try.ntmps11
  go_wp2_with (at_make; refine wpList_make_full _ rfl _ _ 22 rfl w.heap.size 5 i0 (.int .u8 0) 1 Try.underlying22 hi hz0 hz1 .i64 .i64 _ _ (bs.length + 3) rfl rfl (by omega) (by omega) (by rw [hz2]; omega) (by unfold maxLen; omega) (Nat.le_refl _) ?_)
  intro w1 hown1 hg1
  have hB1 : Below w.heap.size w w1 := (Below.refl w.heap.size w).grown hg1 (Nat.le_refl _) (fun k hk => by cases hk)
  clear hg1
  obtain ⟨cur, hcur, hcl⟩ : ∃ cur : List Value, w1.heap[w.heap.size]? = some (.cells cur.toArray 5 (0, 0)) ∧ cur.length = bs.length + 3 := by
    rcases hown1.2 with ⟨hv, _⟩ | ⟨g, cap, cur, hv, _, hh, _, _, hs, _⟩
    · simp at hv
    · simp only [Value.slice.injEq, Option.some.injEq, Addr.mk.injEq, and_true, true_and] at hv
      obtain ⟨rfl, rfl⟩ := hv
      exact ⟨cur.toList, by simpa using hh, by simpa using hs⟩
  clear hown1
  have hsrc : 0 < (bs.map (Value.int .u8)).length → (some (⟨w.heap.size, 0, none⟩ : Addr)) = some ⟨w.heap.size, 0, none⟩ ∧ ∃ ad, ao = some ad ∧ ∀ j v, (bs.map (Value.int .u8))[j]? = some v → w1.cell? (ad.add j) = some v := fun hp => by
    refine ⟨rfl, ?_⟩
    obtain ⟨b, o, rfl, _⟩ := h.cells (by simpa using hp)
    exact ⟨_, rfl, (h.later hB1).news⟩
  go_wp2_with (refine wpList_copy_splice rfl (.tmp 9) (.tmp 10) 22 22 rfl 5 Try.underlying22 hi1 (some ⟨w.heap.size, 0, none⟩) ao (bs.length + 3) (bs.length + 3) bs.length c rfl rfl w.heap.size 0 cur 5 hcur (bs.map (Value.int .u8)) (by simp) hsrc (by simp; omega) (ints_one _ _) w.heap.size w hB1 (Nat.le_refl _) ?_)
  intro w2 HH hB2
  have f1 : ∀ k, k < bs.length + 3 → ∃ v, w2.cell? ⟨w.heap.size, k, none⟩ = some v := fun k hk => by
    rw [cell_of_block HH.out]
    have : k < (splice cur 0 (bs.map (Value.int .u8))).toArray.size := by rw [List.size_toArray, length_splice _ _ _ (by simp; omega), hcl]; exact hk
    exact ⟨_, Array.getElem?_eq_getElem this⟩
  have f2 : ∀ k, w2.frozen? ⟨w.heap.size, k, none⟩ = false := fun k => free_of_block HH.out
  have f3 : ∀ k, k < bs.length → w2.cell? ⟨w.heap.size, k, none⟩ = some (.int .u8 (nth bs k)) := fun k hk => by
    rw [cell_of_block HH.out, List.getElem?_toArray, splice, List.take_zero, List.nil_append, List.getElem?_append_left (by simpa using hk), List.getElem?_map, nth, List.getElem?_eq_getElem hk]
    rfl
  clear HH hsrc hcur hcl hB1
  go_wp2
  go_loopw [4] (fun i wr => ∃ j : Nat, j ≤ 3 ∧ i = .int .i64 ((bs.length + j : Nat) : Int) ∧ (∀ k, k < bs.length + 3 → ∃ v, wr.cell? ⟨w.heap.size, k, none⟩ = some v) ∧ (∀ k, wr.frozen? ⟨w.heap.size, k, none⟩ = false) ∧ (∀ k, k < bs.length → wr.cell? ⟨w.heap.size, k, none⟩ = some (.int .u8 (nth bs k))) ∧ (∀ k, bs.length ≤ k → k < bs.length + j → wr.cell? ⟨w.heap.size, k, none⟩ = some (.int .u8 229)) ∧ Below w.heap.size w wr) (fun i _ => bs.length + 3 - (intOf i).toNat)
  case atStart => exact ⟨0, by omega, rfl, f1, f2, f3, fun k h1 h2 => by omega, hB2⟩
  case round =>
    obtain ⟨j, hj, rfl, e1, e2, e3, e4, hB⟩ := hrel
    clear f1 f2 f3 hB2
    by_cases hlt : j < 3
    · obtain ⟨v0, hv0⟩ := e1 (bs.length + j) (by omega)
      have fz := e2 (bs.length + j)
      have H1 : Hid (∀ k, k < bs.length + 3 → ∃ v, wr.cell? ⟨w.heap.size, k, none⟩ = some v) := e1
      have H2 : Hid (∀ k, wr.frozen? ⟨w.heap.size, k, none⟩ = false) := e2
      have H3 : Hid (∀ k, k < bs.length → wr.cell? ⟨w.heap.size, k, none⟩ = some (.int .u8 (nth bs k))) := e3
      have H4 : Hid (∀ k, bs.length ≤ k → k < bs.length + j → wr.cell? ⟨w.heap.size, k, none⟩ = some (.int .u8 229)) := e4
      clear e1 e2 e3 e4
      go_wp2
      go_roundw
      case rel =>
        refine ⟨j + 1, by omega, by go_num, fun k hk => ?_, fun k => by rw [frozen_set]; exact H2.out k, fun k hk => ?_, fun k h1 h2 => ?_, hB.setCell (by simp) _⟩
        · by_cases e : k = bs.length + j
          · subst e; exact ⟨_, cell_set_same hv0⟩
          · rw [cell_set_other (by first | (simp; done) | (simp; omega))]; exact H1.out k hk
        · rw [cell_set_other (by first | (simp; done) | (simp; omega))]; exact H3.out k hk
        · by_cases e : k = bs.length + j
          · subst e; exact cell_set_same hv0
          · rw [cell_set_other (by first | (simp; done) | (simp; omega))]; exact H4.out k h1 (by omega)
      case measure => simp only [intOf]; omega
    · obtain rfl : j = 3 := by omega
      go_wp2
      go_ret
      refine ⟨rfl, ⟨by simp, Nat.le_refl _, by omega, fun e => by simp at e, fun _ => ⟨_, 0, rfl, fun k hk => ?_⟩⟩, hB⟩
      rw [Nat.zero_add]
      by_cases hk2 : k < bs.length
      · rw [e3 k hk2, nth, nth, List.getElem?_append_left hk2]
      · rw [e4 k (by omega) (by omega), nth, List.getElem?_append_right (by omega)]
        rcases (by omega : k - bs.length = 0 ∨ k - bs.length = 1 ∨ k - bs.length = 2) with e | e | e <;> rw [e] <;> rfl

set_option maxHeartbeats 1000000 in
theorem kept_any (g : Nat) (bo : Option Addr) (n c : Nat) (bs : List Int) (w : World) (hx : Rd .u8 w (some ⟨g, 0, none⟩) (n + 3) (n + 3) (bs ++ [229, 229, 229])) (hb : Rd .u8 w bo n c bs) (hn : n ≤ 1000) :
    Calls Try.prog 16 #[.slice (some ⟨g, 0, none⟩) n (n + 3), .slice bo n c] w fun e w' => e = .returned (.bool true) ∧ w' = w := by
  have hlen := hb.len
  subst hlen
  have hsub := hx.sub (lo := 0) (hi := bs.length) (by omega) (by omega) (some ⟨g, 0, none⟩) bs.length (bs.length + 3) (by omega) (by omega) (fun _ => rfl) (Option.some_ne_none _)
  rw [List.drop_zero, List.take_left] at hsub
  have c1 := conv_all hsub
  have c2 := conv_all hb
  obtain ⟨b, o, e, hc⟩ := hx.cells (by omega)
  cases e
  have hcell : ∀ k, bs.length ≤ k → k < bs.length + 3 → w.cell? ⟨g, k, none⟩ = some (.int .u8 229) := fun k h1 h2 => by
    have := hc k h2
    rw [Nat.zero_add] at this
    rw [this, nth, List.getElem?_append_right (by omega)]
    rcases (by omega : k - bs.length = 0 ∨ k - bs.length = 1 ∨ k - bs.length = 2) with e | e | e <;> rw [e] <;> rfl
  have HC : Hid (∀ k, bs.length ≤ k → k < bs.length + 3 → w.cell? ⟨g, k, none⟩ = some (.int .u8 229)) := hcell
  clear hcell hc hx hb hsub
  go_enter Try.func16, Try.ntmps16
  go_wp2
  go_loop [6] (fun i => ∃ j : Nat, j ≤ 3 ∧ i = .int .i64 ((bs.length + j : Nat) : Int)) (fun i => bs.length + 3 - (intOf i).toNat)
  case atStart => exact ⟨0, by omega, rfl⟩
  case round =>
    obtain ⟨j, hj, rfl⟩ := hrel
    by_cases hlt : j < 3
    · have hck := HC.out (bs.length + j) (by omega) (by omega)
      go_wp2
      go_round
      case rel => exact ⟨j + 1, by omega, by go_num⟩
      case measure => simp only [intOf]; omega
    · obtain rfl : j = 3 := by omega
      go_wp2
      go_ret
      exact ⟨rfl, rfl⟩

/-- Nothing but block g has turned. -/
structure But (g : Nat) (w w' : World) : Prop where
  os : w'.os = w.os
  tape : w'.tape = w.tape
  output : w'.output = w.output
  size : w'.heap.size = w.heap.size
  block : ∀ k, k ≠ g → w'.heap[k]? = w.heap[k]?

theorem But.below {g B : Nat} {a w w' : World} (h : But g w w') (hb : Below B a w) (hg : B ≤ g) : Below B a w' :=
  hb.trans ⟨h.os, h.tape, h.output, by rw [h.size]; exact Nat.le_refl _, fun k hk => h.block k (by omega)⟩

theorem But.rd {k : IntKind} {g : Nat} {w w' : World} {ao : Option Addr} {n c : Nat} {xs : List Int} (h : But g w w') (hr : Rd k w ao n c xs) (hne : ∀ a, ao = some a → a.block ≠ g) : Rd k w' ao n c xs :=
  ⟨hr.len, hr.cap, hr.max, hr.non, fun hn => by
    obtain ⟨b, o, ha, hc⟩ := hr.cells hn
    refine ⟨b, o, ha, fun i hi => ?_⟩
    rw [← hc i hi]
    exact World.cell?_of_block (h.block b (hne _ ha))⟩

set_option maxHeartbeats 1000000 in
theorem spoil_any (g n cap : Nat) (cur : Array Value) (w : World) (hcur : w.heap[g]? = some (.cells cur 5 (0, 0))) (hs : cur.size = cap) (hn : n ≤ cap) (hm : cap ≤ 9223372036854775807) :
    Calls Try.prog 17 #[.slice (some ⟨g, 0, none⟩) n cap] w fun e w' => e = .returned (.tuple #[]) ∧ But g w w' := by
  have f1 : ∀ k, k < cap → ∃ v, w.cell? ⟨g, k, none⟩ = some v := fun k hk => by
    rw [cell_of_block hcur]
    exact ⟨_, Array.getElem?_eq_getElem (by omega)⟩
  have f2 : ∀ k, w.frozen? ⟨g, k, none⟩ = false := fun k => free_of_block hcur
  clear hcur hs
  go_enter Try.func17, Try.ntmps17
  go_wp2
  go_loopw [3] (fun i wr => ∃ j : Nat, j ≤ cap ∧ i = .int .i64 j ∧ (∀ k, k < cap → ∃ v, wr.cell? ⟨g, k, none⟩ = some v) ∧ (∀ k, wr.frozen? ⟨g, k, none⟩ = false) ∧ But g w wr) (fun i _ => cap - (intOf i).toNat)
  case atStart => exact ⟨0, by omega, rfl, f1, f2, ⟨rfl, rfl, rfl, rfl, fun _ _ => rfl⟩⟩
  case round =>
    obtain ⟨j, hj, rfl, e1, e2, hB⟩ := hrel
    clear f1 f2
    by_cases hlt : j < cap
    · obtain ⟨v0, hv0⟩ := e1 j hlt
      have fz := e2 j
      have H1 : Hid (∀ k, k < cap → ∃ v, wr.cell? ⟨g, k, none⟩ = some v) := e1
      have H2 : Hid (∀ k, wr.frozen? ⟨g, k, none⟩ = false) := e2
      clear e1 e2
      go_wp2
      go_roundw
      case rel =>
        refine ⟨j + 1, by omega, by go_num, fun k hk => ?_, fun k => by rw [frozen_set]; exact H2.out k, ⟨hB.os, hB.tape, hB.output, by simp [World.setCell, hB.size], fun k hk => ?_⟩⟩
        · by_cases e : k = j
          · subst e; exact ⟨_, cell_set_same hv0⟩
          · rw [cell_set_other (by simp)]; exact H1.out k hk
        · rw [Below.heap_setCell _ _ _ _ hk]; exact hB.block k hk
      case measure => simp only [intOf]; omega
    · go_wp2
      go_end0
      exact ⟨rfl, hB⟩

end Go.Proofs.Ytmeiloghgoohmaa
