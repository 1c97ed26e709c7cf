import Derived.Test.YtmfoenhbldacfaaQay
import Derived.Sort.AssemblyPlain
import Derived.Lib.BitFns
/- The library's sort of few numbers. -/
namespace Go.Proofs.Ytmfoenhbldacfaa
open Go.RowKit
open Go.Sort (swp PermIn SortedIn ltInt)
set_option linter.unusedVariables false
set_option linter.unusedSimpArgs false

theorem less_any (x y : Int) (w : World) : Calls Try.prog 78 #[.int .u64 x, .int .u64 y] w fun e w' => e = .returned (.bool (decide (x < y))) ∧ w' = w := by
  have h1 : (x != x) = false := by simp
  have h2 : (y != y) = false := by simp
  go_enter Try.func78, Try.ntmps78
  go_wp2
  go_ret
  exact ⟨rfl, rfl⟩
/-- From w0 the sort has come to w: row g, of 'cap' cells, holds the tags d; of what was there nothing else has turned. -/
structure SW (g cap : Nat) (w0 w : World) (d : Array Int) : Prop where
  os : w.os = w0.os
  tape : w.tape = w0.tape
  output : w.output = w0.output
  size : w0.heap.size ≤ w.heap.size
  other : ∀ k, k < w0.heap.size → k ≠ g → w.heap[k]? = w0.heap[k]?
  row : ∃ cur, w.heap[g]? = some (.cells cur 28 (0, 0)) ∧ cur.size = cap ∧ d.size ≤ cap ∧ ∀ j, j < d.size → cur[j]? = some (.int .u64 d[j]!)

theorem SW.cell {g cap : Nat} {w0 w : World} {d : Array Int} (h : SW g cap w0 w d) {j : Nat} (hj : j < d.size) : w.cell? ⟨g, j, none⟩ = some (.int .u64 d[j]!) := by
  obtain ⟨cur, hc, _, _, hj'⟩ := h.row
  simp only [World.cell?, hc]
  simpa using hj' j hj

theorem SW.free {g cap : Nat} {w0 w : World} {d : Array Int} (h : SW g cap w0 w d) (j : Nat) : w.frozen? ⟨g, j, none⟩ = false := by
  obtain ⟨cur, hc, _⟩ := h.row
  simp [World.frozen?, hc]

theorem SW.lt {g cap : Nat} {w0 w : World} {d : Array Int} (h : SW g cap w0 w d) : g < w.heap.size := by
  obtain ⟨cur, hc, _⟩ := h.row
  exact (Array.getElem?_eq_some_iff.1 hc).1

theorem SW.drewN {g cap : Nat} {w0 w : World} {d : Array Int} (h : SW g cap w0 w d) (n : Nat) : SW g cap w0 (w.drewN n) d := ⟨h.os, h.tape, h.output, h.size, h.other, h.row⟩
theorem SW.drew {g cap : Nat} {w0 w : World} {d : Array Int} (h : SW g cap w0 w d) : SW g cap w0 w.drew d := ⟨h.os, h.tape, h.output, h.size, h.other, h.row⟩

theorem SW.alloc {g cap : Nat} {w0 w : World} {d : Array Int} (h : SW g cap w0 w d) (o : Obj) : SW g cap w0 (w.alloc o) d := by
  refine ⟨h.os, h.tape, h.output, Nat.le_trans h.size (by simp), fun k hk hg => ?_, ?_⟩
  · rw [Below.heap_alloc _ _ _ (Nat.lt_of_lt_of_le hk h.size)]; exact h.other k hk hg
  · obtain ⟨cur, hc, r⟩ := h.row
    exact ⟨cur, by rw [Below.heap_alloc _ _ _ h.lt]; exact hc, r⟩

/-- A store outside of the row and of what was there. -/
theorem SW.setOther {g cap : Nat} {w0 w : World} {d : Array Int} (h : SW g cap w0 w d) {a : Addr} (u : Value) (hg : a.block ≠ g) (hn : w0.heap.size ≤ a.block) : SW g cap w0 (w.setCell a u) d := by
  refine ⟨h.os, h.tape, h.output, by simpa [World.setCell] using h.size, fun k hk hkg => ?_, ?_⟩
  · rw [Below.heap_setCell _ _ _ _ (by omega)]; exact h.other k hk hkg
  · obtain ⟨cur, hc, r⟩ := h.row
    exact ⟨cur, by rw [Below.heap_setCell _ _ _ _ (Ne.symm hg)]; exact hc, r⟩

/-- A store into the row. -/
theorem SW.set {g cap : Nat} {w0 w : World} {d : Array Int} (h : SW g cap w0 w d) (i : Nat) (x : Int) : SW g cap w0 (w.setCell ⟨g, i, none⟩ (.int .u64 x)) (d.setIfInBounds i x) := by
  refine ⟨h.os, h.tape, h.output, by simpa [World.setCell] using h.size, fun k hk hkg => ?_, ?_⟩
  · rw [Below.heap_setCell _ _ _ _ hkg]; exact h.other k hk hkg
  · obtain ⟨cur, hc, hs, hd, hj⟩ := h.row
    refine ⟨cur.setIfInBounds i (.int .u64 x), ?_, by simpa using hs, by simpa using hd, fun j hj' => ?_⟩
    · simp [World.setCell, Array.getElem?_modify, hc]
    · have hjd : j < d.size := by simpa using hj'
      rw [Array.getElem?_setIfInBounds]
      by_cases e : i = j
      · subst e
        rw [if_pos rfl, if_pos (by omega), getElem!_pos _ i (by simpa using hjd), Array.getElem_setIfInBounds_self]
      · rw [if_neg e, hj j hjd, getElem!_pos _ j hjd, getElem!_pos _ j (by simpa using hjd), Array.getElem_setIfInBounds_ne _ e]

/-- The exchange of two elements. -/
theorem SW.swap {g cap : Nat} {w0 w : World} {d : Array Int} (h : SW g cap w0 w d) (i j : Nat) : SW g cap w0 ((w.setCell ⟨g, i, none⟩ (.int .u64 d[j]!)).setCell ⟨g, j, none⟩ (.int .u64 d[i]!)) (swp d i j) :=
  (h.set i d[j]!).set j d[i]!

theorem outer_go {lt : Int → Int → Bool} {a b i : Nat} {d : Array Int} (h : i < b) : Sort.insOuter lt a b i d = Sort.insOuter lt a b (i + 1) (Sort.insInner lt a i d) := by
  rw [Sort.insOuter, if_pos h]
theorem outer_end {lt : Int → Int → Bool} {a b i : Nat} {d : Array Int} (h : ¬ i < b) : Sort.insOuter lt a b i d = d := by
  rw [Sort.insOuter, if_neg h]
theorem inner_go {a q : Nat} {d : Array Int} (h : a < q + 1) (h2 : d[q + 1]! < d[q]!) : Sort.insInner ltInt a (q + 1) d = Sort.insInner ltInt a q (swp d (q + 1) q) := by
  rw [Sort.insInner, if_pos]; simp [ltInt, h, h2]
theorem inner_stop {a q : Nat} {d : Array Int} (h : ¬ d[q + 1]! < d[q]!) : Sort.insInner ltInt a (q + 1) d = d := by
  rw [Sort.insInner, if_neg]; simp [ltInt, h]
theorem inner_end {a : Nat} {d : Array Int} : Sort.insInner ltInt a a d = d := by
  cases a with
  | zero => rfl
  | succ a => rw [Sort.insInner, if_neg]; simp
theorem swp_size (d : Array Int) (i j : Nat) : (swp d i j).size = d.size := by simp [swp]

set_option maxHeartbeats 2000000 in
theorem ins_any (g cap n a b : Nat) (d : Array Int) (w0 w : World) (h : SW g cap w0 w d) (hab : a ≤ b) (hbn : b ≤ d.size) (hn : d.size = n) (hn2 : n ≤ 4611686018427387904) :
    Calls Try.prog 72 #[.slice (some ⟨g, 0, none⟩) n cap, .int .i64 a, .int .i64 b] w fun e w' => e = .returned (.tuple #[]) ∧ SW g cap w0 w' (Sort.insertionSort ltInt d a b) := by
  subst hn
  go_enter Try.func72, Try.ntmps72
  go_wp2
  go_loopw [6] (fun i wr => ∃ k : Nat, ∃ d1 : Array Int, a + 1 ≤ k ∧ (k ≤ b ∨ k = a + 1) ∧ i = .int .i64 k ∧ SW g cap w0 wr d1 ∧ d1.size = d.size ∧ Hid (Sort.insertionSort ltInt d a b = Sort.insOuter ltInt a b k d1)) (fun i _ => b - (intOf i).toNat)
  case atStart => exact ⟨a + 1, d, Nat.le_refl _, .inr rfl, by go_num, h, rfl, rfl⟩
  case round =>
    obtain ⟨k, d1, hk, hkb, rfl, hS, hd1, HE⟩ := hrel
    by_cases hlt : k < b
    · have HE2 : Hid (Sort.insertionSort ltInt d a b = Sort.insOuter ltInt a b (k + 1) (Sort.insInner ltInt a k d1)) := by rw [Hid, HE.out, outer_go hlt]
      obtain ⟨wo, hwo⟩ : ∃ wo : World, wo = wr := ⟨_, rfl⟩
      subst hwo
      clear HE h
      go_wp2
      go_loopw [7] (fun jv wr => ∃ j : Nat, ∃ d2 : Array Int, a ≤ j ∧ j ≤ k ∧ jv = .int .i64 j ∧ SW g cap w0 wr d2 ∧ d2.size = d.size ∧ Hid (Sort.insInner ltInt a k d1 = Sort.insInner ltInt a j d2)) (fun jv _ => (intOf jv).toNat)
      case atStart => exact ⟨k, d1, by omega, Nat.le_refl _, rfl, hS, hd1, rfl⟩
      case round =>
        clear hS
        obtain ⟨j, d2, haj, hjk, rfl, hS, hd2, HI⟩ := hrel
        by_cases hja : a < j
        · obtain ⟨q, rfl⟩ : ∃ q, j = q + 1 := ⟨j - 1, by omega⟩
          have c1 := hS.cell (j := q + 1) (by omega)
          have c0 := hS.cell (j := q) (by omega)
          have f1 := hS.free (q + 1)
          have f0 := hS.free q
          have g1 : decide ((a : Int) < (q : Int) + 1) = true := by simp; omega
          have i1 : (q : Int) + 1 < (d.size : Int) := by omega
          have i0 : (q : Int) < (d.size : Int) := by omega
          obtain ⟨x, hx⟩ : ∃ x, x = d2[q + 1]! := ⟨_, rfl⟩
          obtain ⟨y, hy⟩ : ∃ y, y = d2[q]! := ⟨_, rfl⟩
          rw [← hx] at c1
          rw [← hy] at c0
          by_cases hxy : x < y
          · have HI2 : Hid (Sort.insInner ltInt a k d1 = Sort.insInner ltInt a q (swp d2 (q + 1) q)) := by rw [Hid, HI.out, inner_go (by omega) (by rw [← hx, ← hy]; exact hxy)]
            have HX : Hid (x = d2[q + 1]! ∧ y = d2[q]!) := ⟨hx, hy⟩
            clear HI hx hy
            go_wp2
            go_quiet ((go_at_call 78; exact Calls.quiet_of_same (less_any _ _ _)))
            go_wp2
            generalize hW : wr.drewN nq = W
            have hSW : SW g cap w0 W d2 := by rw [← hW]; exact hS.drewN _
            have e1 : W.cell? ⟨g, q + 1, none⟩ = some (.int .u64 x) := by rw [← hW]; exact c1
            have e0 : W.cell? ⟨g, q, none⟩ = some (.int .u64 y) := by rw [← hW]; exact c0
            have e3 : W.frozen? ⟨g, q + 1, none⟩ = false := by rw [← hW]; exact f1
            have e4 : W.frozen? ⟨g, q, none⟩ = false := by rw [← hW]; exact f0
            have HSw : Hid (∀ m, SW g cap w0 (((W.drewN m).setCell ⟨g, q + 1, none⟩ (.int .u64 y)).setCell ⟨g, q, none⟩ (.int .u64 x)) (swp d2 (q + 1) q)) := fun m => by
              have := (hSW.drewN m).swap (q + 1) q
              rw [← HX.out.1, ← HX.out.2] at this
              exact this
            clear hW hS c1 c0 f1 f0
            go_region
            all_goals
              go_wp2
              go_roundw
              case rel => exact ⟨q, swp d2 (q + 1) q, by omega, by omega, by go_num, by first | exact HSw.out 1 | exact HSw.out _, by rw [swp_size]; exact hd2, HI2⟩
              case measure => simp only [intOf]; omega
          · have HI2 : Hid (Sort.insInner ltInt a k d1 = d2) := by rw [Hid, HI.out, inner_stop (by rw [← hx, ← hy]; exact hxy)]
            clear HI hx hy
            go_wp2
            go_quiet ((go_at_call 78; exact Calls.quiet_of_same (less_any _ _ _)))
            go_wp2
            go_roundw
            case rel => exact ⟨k + 1, d2, by omega, .inl (by omega), by go_num, hS.drewN _, hd2, by rw [← HI2.out]; exact HE2⟩
            case measure => simp only [intOf]; omega
        · obtain rfl : j = a := by omega
          have HI2 : Hid (Sort.insInner ltInt j k d1 = d2) := by rw [Hid, HI.out, inner_end]
          have g1 : decide ((j : Int) < (j : Int)) = false := by simp
          clear HI
          go_wp2
          go_quiet ((go_at_call 78; exact Calls.quiet_of_same (less_any _ _ _)))
          go_wp2
          go_roundw
          case rel => exact ⟨k + 1, d2, by omega, .inl (by omega), by go_num, hS.drewN _, hd2, by rw [← HI2.out]; exact HE2⟩
          case measure => simp only [intOf]; omega
    · go_wp2
      go_end0
      exact ⟨rfl, by rw [HE.out, outer_end hlt]; exact hS⟩

set_option maxHeartbeats 4000000 in
set_option maxRecDepth 100000 in
theorem len64_any (x : Nat) (hx : x < 256) (w : World) : Calls Try.prog 82 #[.int .u64 x] w fun e w' => e = .returned (.int .i64 (Lib.bitLen x)) ∧ w' = w := by
  go_enter Try.func82, Try.ntmps82
  have h1 : decide ((4294967296 : Int) ≤ (x : Int)) = false := by simp; omega
  have h2 : decide ((65536 : Int) ≤ (x : Int)) = false := by simp; omega
  have h3 : decide ((256 : Int) ≤ (x : Int)) = false := by simp; omega
  go_wp2
  go_ret
  refine ⟨congrArg Ending.returned (congrArg (Value.int IntKind.i64) ?_), rfl⟩
  have e : ∀ y : Fin 256, (Lib.len8tab[y.1]'(by decide +revert)).toNat = Lib.bitLen y.1 := by decide
  have e1 := e ⟨x, hx⟩
  have e2 := Lib.bitLen_le8 ⟨x, hx⟩
  simp only at e1 e2
  rw [e1]
  simp only [wrap64]
  omega

theorem len_any (x : Nat) (hx : x < 256) (w : World) : Calls Try.prog 64 #[.int .u64 x] w fun e w' => e = .returned (.int .i64 (Lib.bitLen x)) ∧ w' = w := by
  go_enter Try.func64, Try.ntmps64
  go_wp2_with (go_at_call 82; refine (len64_any x hx _).mono ?_; rintro e w' ⟨rfl, rfl⟩)
  go_ret
  exact ⟨rfl, rfl⟩


end Go.Proofs.Ytmfoenhbldacfaa
