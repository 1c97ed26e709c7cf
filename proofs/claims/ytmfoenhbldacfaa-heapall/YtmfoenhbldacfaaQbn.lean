import Derived.Test.YtmfoenhbldacfaaQbm
import Derived.Laws.BytesArg
import Derived.Laws.MakeOwn
import Derived.Laws.CopyOwn
/- Bytes of the call's own; 'Twin', 'Kept' and 'Spoil' of quarantinelaw0. -/
namespace Go.Proofs.Ytmfoenhbldacfaa
open Go.RowKit
set_option linter.unusedVariables false

theorem Try.info5m : (Try.prog.info? 5).map (fun i => (i.zero, i.size, i.bytes)) = some (some (.int .u8 0), 1, 1) := by kernel_rfl
/-- Zeros, as cells. -/
def zc (k : Nat) : Array Value := ((List.replicate k (0 : Int)).map (Value.int .u8)).toArray
theorem make_any (k : Nat) (h : k ≤ 100000) (w : World) : (Instr.makeSlice 31 (.int .i64 (k : Int)) (.int .i64 (k : Int))).run Try.prog w = .ok (.slice (some ⟨w.heap.size, 0, none⟩) k k) (w.alloc (.cells (zc k) 5)) := by
  obtain ⟨i, hi, hz, hs, hb⟩ := info_parts Try.info5m
  have hr := run_make (P := Try.prog) w 31 5 i (.int .u8 0) Try.underlying31 hi hz .i64 .i64 (k : Int) (k : Int) (by omega) (by omega) (by rw [hb]; omega) (by omega)
  rw [hr, hs]
  have e : madeCells (Value.int .u8 0).cells ((k : Int).toNat * 1) = zc k := by
    rw [show (Value.int .u8 0).cells = #[Value.int .u8 0] from rfl, zc]
    apply Array.ext
    · simp [madeCells]
    · intro j h1 h2
      simp [madeCells, Nat.mod_one]
  rw [e]
  simp
theorem conv_rd {w : World} {ao : Option Addr} {n c : Nat} {xs : List Int} (h : Rd .u8 w ao n c xs) : (convert 31 9 (.slice ao n c)).run Try.prog w = .ok (.string (strOfNums xs)) w := by
  by_cases hn : 0 < n
  · obtain ⟨b, o, e, hc⟩ := h.cells hn
    subst e
    exact run_convert_bytes_arg w 31 5 Try.underlying31 Try.underlying5 b o n c xs h.len (fun i hi => by rw [hc i hi]; rfl) 9 Try.underlying9
  · obtain rfl : n = 0 := by omega
    obtain rfl : xs = [] := List.eq_nil_of_length_eq_zero h.len
    cases ao with
    | none => exact run_convert_bytes_nil w 31 5 Try.underlying31 Try.underlying5 0 c 9 Try.underlying9
    | some a =>
      rw [run_convert_bytes_string w 31 9 5 _ 0 c Try.underlying31 Try.underlying5 Try.underlying9, run_bytesToString w a 0 c [] (by simp [loadCells, loadCellsFrom])]
      rfl
/-- Block q holds those bytes, and is the call's own. -/
structure Bx8 (W w : World) (q : Nat) (bs : List Int) : Prop where
  row : w.heap[q]? = some (.cells (bs.map (Value.int .u8)).toArray 5 (0, 0))
  own : W.heap.size ≤ q
theorem Bx8.lt {W w : World} {q : Nat} {bs : List Int} (h : Bx8 W w q bs) : q < w.heap.size := (Array.getElem?_eq_some_iff.1 h.row).1
theorem Bx8.cell {W w : World} {q : Nat} {bs : List Int} (h : Bx8 W w q bs) {i : Nat} (hi : i < bs.length) : w.cell? ⟨q, i, none⟩ = some (.int .u8 (nth bs i)) := by
  rw [cell_of_row _ _ _ _ _ _ h.row]; simp [nth, hi]
theorem Bx8.frozen {W w : World} {q : Nat} {bs : List Int} (h : Bx8 W w q bs) (i : Nat) : w.frozen? ⟨q, i, none⟩ = false := by
  unfold World.frozen?; rw [h.row]; rfl
theorem Bx8.set {W w : World} {q : Nat} {bs : List Int} (h : Bx8 W w q bs) {i : Nat} {v : Int} : Bx8 W (w.setCell ⟨q, i, none⟩ (.int .u8 v)) q (bs.set i v) :=
  ⟨by simp [World.setCell, Array.getElem?_modify, h.row], h.own⟩
theorem Bx8.later {W w w' : World} {q : Nat} {bs : List Int} (h : Bx8 W w q bs) (hb : Below w.heap.size w w') : Bx8 W w' q bs := ⟨by rw [hb.block q h.lt]; exact h.row, h.own⟩
theorem rd_prefix {w : World} {q n m : Nat} {bs cs : List Int} (h : w.heap[q]? = some (.cells ((bs ++ cs).map (Value.int .u8)).toArray 5 (0, 0))) (hn : bs.length = n) (hm : n ≤ m) (h1 : m ≤ 100000) : Rd .u8 w (some ⟨q, 0, none⟩) n m bs :=
  ⟨hn, hm, by omega, (fun e => by cases e), fun _ => ⟨q, 0, rfl, fun i hi => by rw [Nat.zero_add, cell_of_row _ _ _ _ _ _ h]; simp [nth, show i < bs.length by omega, show i < bs.length + cs.length by omega]⟩⟩
def e5 : List Int := [229, 229, 229]
set_option maxRecDepth 100000 in
set_option maxHeartbeats 1000000 in
theorem twin_any {w : World} {ao : Option Addr} {n c : Nat} {bs : List Int} (h : Rd .u8 w ao n c bs) (hn : n ≤ 1000) :
    Calls Try.prog 8 #[.slice ao n c] w fun e w' => e = .returned (.slice (some ⟨w.heap.size, 0, none⟩) n (n + 3)) ∧ Bx8 w w' w.heap.size (bs ++ e5) ∧ Below w.heap.size w w' := by
  have hlen := h.len
  have hi1 : (Try.prog.info? 5).map (·.size) = some 1 := by
    obtain ⟨i0, hi, hz0, hz1, hz2⟩ := info_parts Try.info5m
    rw [hi]; simp [hz1]
  have HMK := make_any (n + 3) (by omega)
  obtain ⟨w1, hw1⟩ : ∃ w1, w.alloc (.cells (zc (n + 3)) 5) = w1 := ⟨_, rfl⟩
  have hB1 : Below w.heap.size w w1 := hw1 ▸ (Below.refl w.heap.size w).alloc (Nat.le_refl _) _
  have hcur : w1.heap[w.heap.size]? = some (.cells ((List.replicate (n + 3) (0 : Int)).map (Value.int .u8)).toArray 5 (0, 0)) := hw1 ▸ heap_alloc_last w _
  obtain ⟨m, hm⟩ : ∃ m, n + 3 = m := ⟨_, rfl⟩
  have hm1 : (n : Int) + 3 = (m : Int) := by omega
  rw [hm] at HMK hw1 hcur ⊢
  have HM1 : Hid (w.alloc (.cells (zc m) 5) = w1) := hw1
  have hsrc : 0 < (bs.map (Value.int .u8)).length → (some (⟨w.heap.size, 0, none⟩ : Addr)) = some ⟨w.heap.size, 0, none⟩ ∧ ∃ ad, ao = some ad ∧ ∀ j v, (bs.map (Value.int .u8))[j]? = some v → w1.cell? (ad.add j) = some v := fun hp => by
    refine ⟨rfl, ?_⟩
    obtain ⟨b, o, rfl, _⟩ := h.cells (by rw [← hlen]; simpa using hp)
    have h2 := h.later hB1
    subst hlen
    exact ⟨_, rfl, h2.news⟩
  have hmin : (bs.map (Value.int .u8)).length = Nat.min n m := by rw [List.length_map, hlen]; exact (Nat.min_eq_left (by omega)).symm
  have hfit : 0 + (bs.map (Value.int .u8)).length ≤ ((List.replicate m (0 : Int)).map (Value.int .u8)).length := by simp; omega
  have hm5 : m ≤ 1003 := by omega
  have hm6 : (m : Int) ≤ 1003 := by omega
  clear hw1 h
  go_enter Try.func8, Try.ntmps8
  go_upto_region 2 with fail
  rw [HM1.out]
  go_wp2_with (refine wpList_copy_splice rfl (.tmp 9) (.tmp 10) 31 31 rfl 5 Try.underlying31 hi1 (some ⟨w.heap.size, 0, none⟩) ao m m n c rfl rfl w.heap.size 0 _ 5 hcur (bs.map (Value.int .u8)) hmin hsrc hfit (ints_one _ _) w.heap.size w hB1 (Nat.le_refl _) ?_)
  intro w2 HH hB2
  have bx : Bx8 w w2 w.heap.size (bs ++ List.replicate 3 0) := ⟨by
    rw [HH.out]
    congr 2
    simp only [splice, List.take_zero, List.nil_append, List.map_append, Nat.zero_add, List.length_map, hlen]
    rw [List.map_replicate, List.drop_replicate, show m - n = 3 from by omega], Nat.le_refl _⟩
  clear HH hsrc hcur hB1 HMK HM1
  have HF : Hid (∀ L : List Int, L.length = m → (∀ k, k < n → nth L k = nth bs k) → (∀ k, n ≤ k → k < m → nth L k = 229) → L = bs ++ e5) := fun L h1 h2 h3 => by
    apply List.ext_getElem?
    intro k
    by_cases k1 : k < n
    · have := h2 k k1
      rw [nth, nth, List.getElem?_eq_getElem (by omega), List.getElem?_eq_getElem (by omega)] at this
      rw [List.getElem?_append_left (by omega), List.getElem?_eq_getElem (by omega), List.getElem?_eq_getElem (by omega)]
      exact congrArg some this
    · by_cases k2 : k < m
      · have := h3 k (by omega) k2
        rw [nth, List.getElem?_eq_getElem (by omega)] at this
        rw [List.getElem?_append_right (by omega), List.getElem?_eq_getElem (by omega)]
        rcases (by omega : k - bs.length = 0 ∨ k - bs.length = 1 ∨ k - bs.length = 2) with e | e | e <;> rw [e] <;> exact congrArg some this
      · rw [List.getElem?_eq_none (by omega), List.getElem?_eq_none (by simp [e5]; omega)]
  have h0 : ∀ k, k < n → nth (bs ++ List.replicate 3 0) k = nth bs k := fun k hk => by rw [nth, nth, List.getElem?_append_left (by omega)]
  have hl0 : (bs ++ List.replicate 3 (0 : Int)).length = m := by simp; omega
  obtain ⟨L0, hL0⟩ : ∃ L, bs ++ List.replicate 3 (0 : Int) = L := ⟨_, rfl⟩
  rw [hL0] at h0 hl0 bx
  replace h0 : Hid _ := h0
  replace hl0 : Hid _ := hl0
  clear hL0 hlen hm
  go_wp2
  go_loopw [4] (fun i wr => ∃ (j : Nat) (L : List Int), n ≤ j ∧ j ≤ m ∧ i = .int .i64 (j : Int) ∧ Bx8 w wr w.heap.size L ∧ Hid (L.length = m) ∧ Hid (∀ k, k < n → nth L k = nth bs k) ∧ Hid (∀ k, n ≤ k → k < j → nth L k = 229) ∧ Below w.heap.size w wr) (fun i _ => m - (intOf i).toNat)
  case atStart => exact ⟨n, L0, Nat.le_refl _, by omega, rfl, bx, hl0, h0, fun k h1 h2 => by omega, hB2⟩
  case round =>
    clear bx hl0 h0 hB2
    obtain ⟨j, L, hj0, hj, rfl, bx, hl, h1, h2, hB⟩ := hrel
    by_cases hlt : j < m
    · have c0 := bx.cell (i := j) (by rw [hl.out]; exact hlt)
      have f0 := bx.frozen j
      have hset : Hid _ := bx.set (i := j) (v := 229)
      have hj5 : j ≤ 1003 := by omega
      clear bx
      go_wp2
      go_roundw
      case rel =>
        refine ⟨j + 1, _, by omega, by omega, by go_num, hset.out, by rw [Hid, List.length_set]; exact hl.out, fun k hk => ?_, fun k k1 k2 => ?_, hB.setCell (Nat.le_refl _) _⟩
        · rw [nth_set_ne (by omega)]; exact h1.out k hk
        · by_cases e : k = j
          · subst e; exact nth_set_same (by rw [hl.out]; exact hlt)
          · rw [nth_set_ne e]; exact h2.out k k1 (by omega)
      case measure => simp only [intOf]; omega
    · obtain rfl : j = m := by omega
      have e := HF.out L hl.out h1.out h2.out
      clear hl h1 h2 HF
      subst e
      go_wp2
      go_ret
      exact ⟨rfl, bx, hB⟩
set_option maxRecDepth 100000 in
set_option maxHeartbeats 1000000 in
theorem kept_any {W w : World} {g : Nat} {bo : Option Addr} {n c : Nat} {bs : List Int} (hx : Bx8 W w g (bs ++ e5)) (hb : Rd .u8 w bo n c bs) (hn : n ≤ 1000) :
    Calls Try.prog 10 #[.slice (some ⟨g, 0, none⟩) n (n + 3), .slice bo n c] w fun e w' => e = .returned (.bool true) ∧ w' = w := by
  have hlen := hb.len
  have c1 := conv_rd (rd_prefix hx.row hlen (show n ≤ n + 3 by omega) (by omega))
  have c2 := conv_rd hb
  have HC : Hid (∀ k, n ≤ k → k < n + 3 → w.cell? ⟨g, k, none⟩ = some (.int .u8 229)) := fun k h1 h2 => by
    rw [hx.cell (by simp [e5]; omega), nth, List.getElem?_append_right (by omega)]
    rcases (by omega : k - bs.length = 0 ∨ k - bs.length = 1 ∨ k - bs.length = 2) with e | e | e <;> rw [e] <;> rfl
  obtain ⟨S, hS⟩ : ∃ S, strOfNums bs = S := ⟨_, rfl⟩
  rw [hS] at c1 c2
  obtain ⟨m, hm⟩ : ∃ m, n + 3 = m := ⟨_, rfl⟩
  have hm1 : (n : Int) + 3 = (m : Int) := by omega
  rw [hm] at c1 HC ⊢
  have hm5 : m ≤ 1003 := by omega
  clear hx hb hS hlen hm
  go_enter Try.func10, Try.ntmps10
  go_wp2
  go_loop [6] (fun i => ∃ j : Nat, n ≤ j ∧ j ≤ m ∧ i = .int .i64 (j : Int)) (fun i => m - (intOf i).toNat)
  case atStart => exact ⟨n, Nat.le_refl _, by omega, rfl⟩
  case round =>
    obtain ⟨j, hj0, hj, rfl⟩ := hrel
    by_cases hlt : j < m
    · have hck := HC.out j hj0 hlt
      go_wp2
      go_round
      case rel => exact ⟨j + 1, by omega, by omega, by go_num⟩
      case measure => simp only [intOf]; omega
    · obtain rfl : j = m := by omega
      go_wp2
      go_ret
      exact ⟨rfl, rfl⟩
set_option maxRecDepth 100000 in
set_option maxHeartbeats 1000000 in
theorem spoil_any {w : World} {g n cap : Nat} {cur : Array Value} (hcur : w.heap[g]? = some (.cells cur 5 (0, 0))) (hs : cur.size = cap) (hn : n ≤ cap) (hm : cap ≤ 9223372036854775807) :
    Calls Try.prog 11 #[.slice (some ⟨g, 0, none⟩) n cap] w fun e w' => e = .returned (.tuple #[]) ∧ Rest g w w' := by
  go_enter Try.func11, Try.ntmps11
  go_wp2
  go_loopw [3] (fun i wr => ∃ (j : Nat) (cur : Array Value), j ≤ cap ∧ i = .int .i64 j ∧ cur.size = cap ∧ wr.heap[g]? = some (.cells cur 5 (0, 0)) ∧ Rest g w wr) (fun i _ => cap - (intOf i).toNat)
  case atStart => exact ⟨0, cur, by omega, rfl, hs, hcur, Rest.refl g w⟩
  case round =>
    clear hs hcur
    obtain ⟨j, cur, hj, rfl, hs, hcur, hB⟩ := hrel
    by_cases hlt : j < cap
    · have hc0 : wr.cell? ⟨g, j, none⟩ = some cur[j] := by
        rw [cell_of_row _ _ _ _ _ _ hcur]
        exact Array.getElem?_eq_getElem (by omega)
      have fz : wr.frozen? ⟨g, j, none⟩ = false := by unfold World.frozen?; rw [hcur]; rfl
      have hnew : Hid (∃ c2 : Array Value, c2.size = cap ∧ (wr.setCell ⟨g, j, none⟩ (.int .u8 90)).heap[g]? = some (.cells c2 5 (0, 0))) := ⟨cur.setIfInBounds j (.int .u8 90), by simpa using hs, by simp [World.setCell, Array.getElem?_modify, hcur]⟩
      obtain ⟨v0, hv0⟩ : ∃ v, cur[j]'(by omega) = v := ⟨_, rfl⟩
      rw [hv0] at hc0
      clear hcur hs hv0
      go_wp2
      go_roundw
      case rel =>
        obtain ⟨c2, h1, h2⟩ := hnew.out
        exact ⟨j + 1, c2, by omega, by go_num, h1, h2, hB.trans (Rest.set g j wr _)⟩
      case measure => simp only [intOf]; omega
    · go_wp2
      go_end0
      exact ⟨rfl, hB⟩

end Go.Proofs.Ytmfoenhbldacfaa
