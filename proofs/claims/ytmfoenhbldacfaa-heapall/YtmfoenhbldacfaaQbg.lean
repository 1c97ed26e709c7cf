import Derived.Test.YtmfoenhbldacfaaQbf
import Derived.OneCell
import Derived.Lib.BitFns
import Derived.Laws.Bits64
import Derived.Deep.DeepCutAuto
/- The walks of the library's order2, median and choosePivot, at tags. -/
namespace Go.Proofs.Ytmfoenhbldacfaa
open Go.RowKit
open Go.Sort (swp PermIn SortedIn ltInt)
set_option linter.unusedVariables false

/-- A row of tags, and one number beside it that the sort itself has made. -/
structure SC (ik : IntKind) (t : TypeId) (g cap : Nat) (w0 w : World) (d : Array Int) (s : Nat) (v : Int) : Prop where
  sw : SW g cap w0 w d
  ne : s ≠ g
  new : w0.heap.size ≤ s
  box : w.heap[s]? = some (.cells #[.int ik v] t (0, 0))

theorem SC.cell {ik : IntKind} {t : TypeId} {g cap : Nat} {w0 w : World} {d : Array Int} {s : Nat} {v : Int} (h : SC ik t g cap w0 w d s v) : w.cell? ⟨s, 0, none⟩ = some (.int ik v) := by
  simp [World.cell?, h.box]
theorem SC.free {ik : IntKind} {t : TypeId} {g cap : Nat} {w0 w : World} {d : Array Int} {s : Nat} {v : Int} (h : SC ik t g cap w0 w d s v) : w.frozen? ⟨s, 0, none⟩ = false := by
  simp [World.frozen?, h.box]
theorem SC.drewN {ik : IntKind} {t : TypeId} {g cap : Nat} {w0 w : World} {d : Array Int} {s : Nat} {v : Int} (h : SC ik t g cap w0 w d s v) (n : Nat) : SC ik t g cap w0 (w.drewN n) d s v := ⟨h.sw.drewN n, h.ne, h.new, h.box⟩
theorem SC.put {ik : IntKind} {t : TypeId} {g cap : Nat} {w0 w : World} {d : Array Int} {s : Nat} {v : Int} (h : SC ik t g cap w0 w d s v) (u : Int) : SC ik t g cap w0 (w.setCell ⟨s, 0, none⟩ (.int ik u)) d s u :=
  ⟨h.sw.setOther _ h.ne h.new, h.ne, h.new, one_setCell h.box⟩
theorem SC.make {ik : IntKind} {t : TypeId} {g cap : Nat} {w0 w : World} {d : Array Int} {v : Int} (h : SW g cap w0 w d) : SC ik t g cap w0 (w.alloc (.cells #[.int ik v] t (0, 0))) d w.heap.size v :=
  ⟨h.alloc _, fun e => by have := h.lt; omega, h.size, by show (w.heap.push _)[w.heap.size]? = _; simp⟩

set_option maxHeartbeats 1000000 in
theorem order2_any (g cap n x y s : Nat) (k : Int) (d : Array Int) (w0 w : World) (h : SC .i64 3 g cap w0 w d s k) (hx : x < d.size) (hy : y < d.size) (hk0 : 0 ≤ k) (hk : k ≤ 100) (hn : d.size = n) (hn2 : n ≤ 1000) :
    Calls Try.prog 93 #[.slice (some ⟨g, 0, none⟩) n cap, .int .i64 x, .int .i64 y, .pointer (some ⟨s, 0, none⟩)] w fun e w' => ∃ p q : Nat, ∃ k' : Int, e = .returned (.tuple #[.int .i64 p, .int .i64 q]) ∧ (p = x ∧ q = y ∨ p = y ∧ q = x) ∧ k ≤ k' ∧ k' ≤ k + 1 ∧ SC .i64 3 g cap w0 w' d s k' := by
  subst hn
  have c1 := h.sw.cell hx
  have c2 := h.sw.cell hy
  have c3 := h.cell
  have c4 := h.free
  have i1 : (x : Int) < (d.size : Int) := by omega
  have i2 : (y : Int) < (d.size : Int) := by omega
  obtain ⟨u, hu⟩ : ∃ u, u = d[x]! := ⟨_, rfl⟩
  obtain ⟨v, hv⟩ : ∃ v, v = d[y]! := ⟨_, rfl⟩
  rw [← hu] at c1
  rw [← hv] at c2
  clear hu hv
  go_enter Try.func93, Try.ntmps93
  by_cases huv : v < u
  · go_wp2
    go_quiet ((go_at_call 78; exact Calls.quiet_of_same (less_any _ _ _)))
    go_wp2
    go_ret2
    exact ⟨y, x, k + 1, rfl, .inr ⟨rfl, rfl⟩, by omega, by omega, (h.drewN _).put _⟩
  · have hd : decide (v < u) = false := by simp; omega
    go_wp2
    go_quiet ((go_at_call 78; exact Calls.quiet_of_same (less_any _ _ _)))
    go_wp2
    go_ret2
    exact ⟨x, y, k, rfl, .inl ⟨rfl, rfl⟩, by omega, by omega, h.drewN _⟩

set_option maxHeartbeats 1000000 in
theorem median_any (g cap n x y z s : Nat) (k : Int) (d : Array Int) (w0 w : World) (h : SC .i64 3 g cap w0 w d s k) (hx : x < d.size) (hy : y < d.size) (hz : z < d.size) (hk0 : 0 ≤ k) (hk : k ≤ 50) (hn : d.size = n) (hn2 : n ≤ 1000) :
    Calls Try.prog 90 #[.slice (some ⟨g, 0, none⟩) n cap, .int .i64 x, .int .i64 y, .int .i64 z, .pointer (some ⟨s, 0, none⟩)] w fun e w' => ∃ p : Nat, ∃ k' : Int, e = .returned (.int .i64 p) ∧ (p = x ∨ p = y ∨ p = z) ∧ k ≤ k' ∧ k' ≤ k + 3 ∧ SC .i64 3 g cap w0 w' d s k' := by
  go_enter Try.func90, Try.ntmps90
  go_wp2_with fail
  refine Calls.mono (order2_any g cap n x y s k d w0 _ h hx hy (by omega) (by omega) hn hn2) ?_
  rintro e w1 ⟨p1, q1, k1, rfl, hpq1, hk1, hk1', h1⟩
  go_wp2_with fail
  refine Calls.mono (order2_any g cap n q1 z s k1 d w0 _ h1 (by omega) hz (by omega) (by omega) hn hn2) ?_
  rintro e w2 ⟨p2, q2, k2, rfl, hpq2, hk2, hk2', h2⟩
  go_wp2_with fail
  refine Calls.mono (order2_any g cap n p1 p2 s k2 d w0 _ h2 (by omega) (by omega) (by omega) (by omega) hn hn2) ?_
  rintro e w3 ⟨p3, q3, k3, rfl, hpq3, hk3, hk3', h3⟩
  go_wp2
  go_ret
  exact ⟨q3, k3, rfl, by omega, by omega, by omega, h3⟩

set_option maxHeartbeats 1000000 in
theorem adj_any (g cap n x s : Nat) (k : Int) (d : Array Int) (w0 w : World) (h : SC .i64 3 g cap w0 w d s k) (hx0 : 1 ≤ x) (hx : x + 1 < d.size) (hk0 : 0 ≤ k) (hk : k ≤ 50) (hn : d.size = n) (hn2 : n ≤ 1000) :
    Calls Try.prog 89 #[.slice (some ⟨g, 0, none⟩) n cap, .int .i64 x, .pointer (some ⟨s, 0, none⟩)] w fun e w' => ∃ p : Nat, ∃ k' : Int, e = .returned (.int .i64 p) ∧ x ≤ p + 1 ∧ p ≤ x + 1 ∧ k ≤ k' ∧ k' ≤ k + 3 ∧ SC .i64 3 g cap w0 w' d s k' := by
  obtain ⟨y, rfl⟩ : ∃ y, x = y + 1 := ⟨x - 1, by omega⟩
  go_enter Try.func89, Try.ntmps89
  go_wp2_with fail
  refine Calls.mono (median_any g cap n y (y + 1) (y + 1 + 1) s k d w0 _ h (by omega) (by omega) (by omega) hk0 hk hn hn2) ?_
  rintro e w1 ⟨p, k1, rfl, hp, hk1, hk1', h1⟩
  go_wp2
  go_ret
  exact ⟨p, k1, rfl, by omega, by omega, by omega, by omega, h1⟩

set_option maxHeartbeats 2000000 in
theorem pivot_any (g cap n a b l : Nat) (d : Array Int) (w0 w : World) (h : SW g cap w0 w d) (hl : 8 ≤ l) (hl2 : l ≤ 200) (hb : b ≤ a + l) (hb2 : a + l ≤ b) (hbn : b ≤ d.size) (hn : d.size = n) (hn2 : n ≤ 1000) :
    Calls Try.prog 75 #[.slice (some ⟨g, 0, none⟩) n cap, .int .i64 a, .int .i64 b] w fun e w' => ∃ p : Nat, ∃ t : Int, e = .returned (.tuple #[.int .i64 p, .int .i64 t]) ∧ a ≤ p ∧ p < b ∧ (t = 0 ∨ t = 1 ∨ t = 2) ∧ SW g cap w0 w' d := by
  have hba : (b : Int) - (a : Int) = (l : Int) := by omega
  obtain ⟨m, hm⟩ : ∃ m, m = l / 4 := ⟨_, rfl⟩
  have hq : (l : Int) / 4 = (m : Int) := by omega
  have hm1 : 2 ≤ m := by omega
  have hm2 : m * 4 ≤ l := by omega
  clear hm
  go_enter Try.func75, Try.ntmps75
  by_cases h50 : l < 50
  · have g50 : decide ((50 : Int) ≤ (l : Int)) = false := by simp; omega
    go_wp2_with fail
    refine Calls.mono (median_any g cap n (a + m) (a + m * 2) (a + m * 3) w.heap.size 0 d w0 _ (SC.make h) (by omega) (by omega) (by omega) (by omega) (by omega) hn hn2) ?_
    rintro e w1 ⟨p, k, rfl, hp, hk, hk', h1⟩
    have c1 := h1.cell
    by_cases hk1 : k = 0
    · subst hk1
      go_wp2
      go_ret2
      exact ⟨p, 1, rfl, by omega, by omega, .inr (.inl rfl), h1.sw⟩
    · have g1 : decide (k = 0) = false := by simp [hk1]
      have g2 : decide (k = 12) = false := by simp; omega
      go_wp2
      go_ret2
      exact ⟨p, 0, rfl, by omega, by omega, .inl rfl, h1.sw⟩
  · have g50 : decide ((50 : Int) ≤ (l : Int)) = true := by simp; omega
    go_wp2_with fail
    refine Calls.mono (adj_any g cap n (a + m) w.heap.size 0 d w0 _ (SC.make h) (by omega) (by omega) (by omega) (by omega) hn hn2) ?_
    rintro e w1 ⟨p1, k1, rfl, hp1, hp1', hk1, hk1', h1⟩
    go_wp2_with fail
    refine Calls.mono (adj_any g cap n (a + m * 2) w.heap.size k1 d w0 _ h1 (by omega) (by omega) (by omega) (by omega) hn hn2) ?_
    rintro e w2 ⟨p2, k2, rfl, hp2, hp2', hk2, hk2', h2⟩
    go_wp2_with fail
    refine Calls.mono (adj_any g cap n (a + m * 3) w.heap.size k2 d w0 _ h2 (by omega) (by omega) (by omega) (by omega) hn hn2) ?_
    rintro e w3 ⟨p3, k3, rfl, hp3, hp3', hk3, hk3', h3⟩
    go_wp2_with fail
    refine Calls.mono (median_any g cap n p1 p2 p3 w.heap.size k3 d w0 _ h3 (by omega) (by omega) (by omega) (by omega) (by omega) hn hn2) ?_
    rintro e w4 ⟨p, k, rfl, hp, hk, hk', h4⟩
    have c1 := h4.cell
    by_cases hz : k = 0
    · subst hz
      go_wp2
      go_ret2
      exact ⟨p, 1, rfl, by omega, by omega, .inr (.inl rfl), h4.sw⟩
    · have g1 : decide (k = 0) = false := by simp [hz]
      by_cases hz2 : k = 12
      · subst hz2
        go_wp2
        go_ret2
        exact ⟨p, 2, rfl, by omega, by omega, .inr (.inr rfl), h4.sw⟩
      · have g2 : decide (k = 12) = false := by simp [hz2]
        go_wp2
        go_ret2
        exact ⟨p, 0, rfl, by omega, by omega, .inl rfl, h4.sw⟩

end Go.Proofs.Ytmfoenhbldacfaa
/- The walks of bits.Len and nextPowerOfTwo, at small numbers. -/
namespace Go.Proofs.Ytmfoenhbldacfaa
open Go.RowKit
open Go.Sort (swp PermIn SortedIn ltInt)
set_option linter.unusedVariables false

theorem pow_small : ∀ x, x < 256 → 8 ≤ x → (2 ^ Lib.bitLen x ≤ 2 * x ∧ Lib.bitLen x ≤ 8 ∧ 0 < 2 ^ Lib.bitLen x) := by
  decide +kernel

theorem next_any (x : Nat) (hx : 8 ≤ x) (hx2 : x < 256) (w : World) : Calls Try.prog 87 #[.int .i64 x] w fun e w' => e = .returned (.int .u64 (2 ^ Lib.bitLen x : Nat)) ∧ w' = w := by
  obtain ⟨p1, p2, p3⟩ := pow_small x hx2 hx
  go_enter Try.func87, Try.ntmps87
  go_wp2_with (go_at_call 64; refine (len_any x (by omega) _).mono ?_; rintro e w' ⟨rfl, rfl⟩)
  go_ret
  refine ⟨congrArg Ending.returned (congrArg (Value.int IntKind.u64) ?_), rfl⟩
  rw [IntKind.wrap_u64]
  have e : ((2 ^ Lib.bitLen x : Nat) : Int) = (2 : Int) ^ Lib.bitLen x := by simp
  omega

end Go.Proofs.Ytmfoenhbldacfaa
/- The walk of the library's random numbers. -/
namespace Go.Proofs.Ytmfoenhbldacfaa
open Go.RowKit
open Go.Sort (swp PermIn SortedIn ltInt)
set_option linter.unusedVariables false

theorem xor_range (a b : Int) : 0 ≤ bits .xor .u64 a b ∧ bits .xor .u64 a b < 18446744073709551616 := by
  have h : bits .xor .u64 a b = IntKind.u64.wrap ((BitVec.ofInt 64 a ^^^ BitVec.ofInt 64 b).toNat : Int) := rfl
  rw [h, IntKind.wrap_u64]
  omega
theorem and_range (a b : Int) : 0 ≤ bits .and .u64 a b ∧ bits .and .u64 a b < 18446744073709551616 := by
  have h : bits .and .u64 a b = IntKind.u64.wrap ((BitVec.ofInt 64 a &&& BitVec.ofInt 64 b).toNat : Int) := rfl
  rw [h, IntKind.wrap_u64]
  omega

theorem and_le (x : Int) (m : Nat) (hm : m < 18446744073709551616) : bits .and .u64 x (m : Int) ≤ (m : Int) := by
  have h : bits .and .u64 x (m : Int) = IntKind.u64.wrap ((BitVec.ofInt 64 x &&& BitVec.ofInt 64 (m : Int)).toNat : Int) := rfl
  have h2 : (BitVec.ofInt 64 (m : Int)).toNat = m := by
    rw [BitVec.ofInt_natCast, BitVec.toNat_ofNat]; exact Nat.mod_eq_of_lt (by omega)
  have h3 : (BitVec.ofInt 64 x &&& BitVec.ofInt 64 (m : Int)).toNat ≤ m := by
    rw [BitVec.toNat_and, h2]; exact Nat.and_le_right
  rw [h, IntKind.wrap_u64]
  omega

set_option maxHeartbeats 2000000 in
theorem rnd_any (g cap s : Nat) (x : Int) (d : Array Int) (w0 w : World) (h : SC .u64 118 g cap w0 w d s x) :
    Calls Try.prog 88 #[.pointer (some ⟨s, 0, none⟩)] w fun e w' => ∃ y : Int, e = .returned (.int .u64 y) ∧ 0 ≤ y ∧ y < 18446744073709551616 ∧ SC .u64 118 g cap w0 w' d s y := by
  go_enter Try.func88, Try.ntmps88
  go_upto_region 1 with fail
  go_cut [2] (fun v w' => v = .int .u64 0 ∧ ∃ y : Int, SC .u64 118 g cap w0 w' d s y)
  case first =>
    have c := h.cell
    have f := h.free
    go_region
    all_goals
      go_wp2_with fail
      go_meet
      exact ⟨rfl, _, by first | exact (h.put _).drewN _ | exact (h.put _).drewN 1 | exact (h.drewN _).put _ | exact (h.drewN 1).put _⟩
  case rest =>
    obtain ⟨rfl, y1, h1⟩ := hcut
    obtain ⟨w1, rfl⟩ : ∃ w1 : World, w1 = wc := ⟨_, rfl⟩
    go_upto_region 2 with fail
    go_cut [2] (fun v w' => v = .int .u64 0 ∧ ∃ y : Int, SC .u64 118 g cap w0 w' d s y)
    case first =>
      have c := h1.cell
      have f := h1.free
      go_region
      all_goals
        go_wp2_with fail
        go_meet
        exact ⟨rfl, _, by first | exact (h1.put _).drewN _ | exact (h1.put _).drewN 1 | exact (h1.drewN _).put _ | exact (h1.drewN 1).put _⟩
    case rest =>
      obtain ⟨rfl, y2, h2⟩ := hcut
      obtain ⟨w2, rfl⟩ : ∃ w2 : World, w2 = wc := ⟨_, rfl⟩
      go_upto_region 3 with fail
      go_cut [2] (fun v w' => v = .int .u64 0 ∧ ∃ y : Int, 0 ≤ y ∧ y < 18446744073709551616 ∧ SC .u64 118 g cap w0 w' d s y)
      case first =>
        have c := h2.cell
        have f := h2.free
        go_region
        all_goals
          go_wp2_with fail
          go_meet
          exact ⟨rfl, _, (xor_range _ _).1, (xor_range _ _).2, by first | exact (h2.put _).drewN _ | exact (h2.put _).drewN 1 | exact (h2.drewN _).put _ | exact (h2.drewN 1).put _⟩
      case rest =>
        obtain ⟨rfl, y, hy0, hy1, h3⟩ := hcut
        have c := h3.cell
        go_wp2
        go_ret
        exact ⟨y, rfl, hy0, hy1, h3⟩

end Go.Proofs.Ytmfoenhbldacfaa
/- The walk of the library's breakPatterns, at fewer than 50 tags: a permutation, whatever it draws. -/
namespace Go.Proofs.Ytmfoenhbldacfaa
open Go.RowKit
open Go.Sort (swp PermIn SortedIn ltInt)
set_option linter.unusedVariables false

theorem SC.swap {ik : IntKind} {t : TypeId} {g cap : Nat} {w0 w : World} {d : Array Int} {s : Nat} {v : Int} (h : SC ik t g cap w0 w d s v) (i j : Nat) : SC ik t g cap w0 ((w.setCell ⟨g, i, none⟩ (.int .u64 d[j]!)).setCell ⟨g, j, none⟩ (.int .u64 d[i]!)) (swp d i j) s v :=
  ⟨h.sw.swap i j, h.ne, h.new, by rw [Below.heap_setCell _ _ _ _ h.ne, Below.heap_setCell _ _ _ _ h.ne]; exact h.box⟩

set_option maxRecDepth 100000 in
set_option maxHeartbeats 4000000 in
theorem break_any (g cap n a b l : Nat) (d : Array Int) (w0 w : World) (h : SW g cap w0 w d) (hl : 8 ≤ l) (hl2 : l ≤ 200) (hb : b ≤ a + l) (hb2 : a + l ≤ b) (hbn : b ≤ d.size) (hn : d.size = n) (hn2 : n ≤ 1000) :
    Calls Try.prog 74 #[.slice (some ⟨g, 0, none⟩) n cap, .int .i64 a, .int .i64 b] w fun e w' => e = .returned (.tuple #[]) ∧ ∃ d' : Array Int, PermIn a b d d' ∧ SW g cap w0 w' d' := by
  subst hn
  have hba : (b : Int) - (a : Int) = (l : Int) := by omega
  obtain ⟨m, hm⟩ : ∃ m, m = l / 4 := ⟨_, rfl⟩
  have hq : (l : Int) / 4 = (m : Int) := by omega
  have hm1 : 2 ≤ m := by omega
  have hm2 : m * 4 ≤ l := by omega
  clear hm
  obtain ⟨p1, -, p3⟩ := pow_small l (by omega) hl
  obtain ⟨M, hM⟩ : ∃ M, 2 ^ Lib.bitLen l = M + 1 := ⟨2 ^ Lib.bitLen l - 1, by omega⟩
  have HN : Hid (∀ w, Calls Try.prog 87 #[.int .i64 l] w fun e w' => e = .returned (.int .u64 (M + 1 : Nat)) ∧ w' = w) := fun w => by
    have := next_any l hl (by omega) w
    rw [hM] at this
    exact this
  rw [hM] at p1 p3
  clear hM
  go_enter Try.func74, Try.ntmps74
  go_wp2_with fail
  have h1 := SC.make (ik := .u64) (t := 118) (v := (l : Int)) h
  have hle : (l : Int) % 18446744073709551616 = (l : Int) := by omega
  refine Calls.mono (HN.out _) ?_
  rintro e w1 ⟨rfl, rfl⟩
  generalize hs : w.heap.size = s at *
  generalize hW : World.alloc w _ = W at *
  clear hW h hs
  go_wp2_with fail
  go_loopw [9] (fun iv wr => ∃ j : Nat, ∃ d1 : Array Int, ∃ y : Int, iv = .int .i64 j ∧ a + m * 2 ≤ j + 1 ∧ j ≤ a + m * 2 + 2 ∧ SC .u64 118 g cap w0 wr d1 s y ∧ d1.size = d.size ∧ Hid (PermIn a b d d1)) (fun iv _ => a + m * 2 + 2 - (intOf iv).toNat)
  case atStart => exact ⟨a + m * 2 - 1, d, l, by congr 1; omega, by omega, by omega, h1, rfl, Sort.permIn_refl _ _ _⟩
  case round =>
    clear h1
    obtain ⟨j, d1, y, rfl, hj1, hj2, hS, hd1, HP⟩ := hrel
    by_cases hlt : j ≤ a + m * 2 + 1
    · have g1 : decide ((j : Int) ≤ (a : Int) + (m : Int) * 2 + 1) = true := by simp; omega
      go_wp2_with fail
      refine Calls.mono (rnd_any g cap s y d1 w0 _ hS) ?_
      rintro e w2 ⟨y2, rfl, hy0, hy1, h2⟩
      clear hS
      obtain ⟨o, ho⟩ : ∃ o : Nat, bits .and .u64 y2 (M : Int) = (o : Int) := ⟨(bits .and .u64 y2 (M : Int)).toNat, by have := and_range y2 (M : Int); omega⟩
      have hoM : o ≤ M := by have := and_le y2 M (by omega); omega
      have cj := h2.sw.cell (j := j) (by omega)
      have fj := h2.sw.free j
      have ij : (j : Int) < (d.size : Int) := by omega
      by_cases hol : l ≤ o
      · obtain ⟨r, rfl⟩ : ∃ r, o = l + r := ⟨o - l, by omega⟩
        have g2 : decide ((l : Int) ≤ (l : Int) + (r : Int)) = true := by simp; omega
        have er : (l : Int) + (r : Int) - (l : Int) = (r : Int) := by omega
        by_cases hal : a + r = j
        · have HSw : Hid (∀ m, SC .u64 118 g cap w0 (((w2.drewN m).setCell ⟨g, j, none⟩ (.int .u64 d1[j]!)).setCell ⟨g, j, none⟩ (.int .u64 d1[j]!)) (swp d1 j j) s y2) := fun m => (h2.drewN m).swap j j
          have HPm : Hid (PermIn a b d (swp d1 j j)) := Sort.permIn_trans _ _ _ _ _ HP.out (Sort.swp_permIn _ _ _ _ _ (by omega) (by omega) (by omega) (by omega) (by omega))
          have es : (a : Int) + (r : Int) = (j : Int) := by omega
          clear h2 HP
          go_wp2_with fail
          go_region
          all_goals
            go_wp2_with fail
            go_roundw
            case rel => exact ⟨j + 1, swp d1 j j, y2, by go_num, by omega, by omega, by first | exact HSw.out 1 | exact HSw.out _, by rw [swp_size]; exact hd1, HPm⟩
            case measure => simp only [intOf]; omega
        · have ct := h2.sw.cell (j := a + r) (by omega)
          have ft := h2.sw.free (a + r)
          have it : (a : Int) + (r : Int) < (d.size : Int) := by omega
          have it0 : (0 : Int) ≤ (a : Int) + (r : Int) := by omega
          have itn : ((a : Int) + (r : Int)).toNat = a + r := by omega
          have itw : IntKind.i64.wrap ((a : Int) + (r : Int)) = (a : Int) + (r : Int) := by rw [IntKind.wrap_i64]; omega
          have e1 : ¬ j = a + r := fun h => hal h.symm
          have HSw : Hid (∀ m, SC .u64 118 g cap w0 (((w2.drewN m).setCell ⟨g, j, none⟩ (.int .u64 d1[a + r]!)).setCell ⟨g, a + r, none⟩ (.int .u64 d1[j]!)) (swp d1 j (a + r)) s y2) := fun m => (h2.drewN m).swap j (a + r)
          have HPm : Hid (PermIn a b d (swp d1 j (a + r))) := Sort.permIn_trans _ _ _ _ _ HP.out (Sort.swp_permIn _ _ _ _ _ (by omega) (by omega) (by omega) (by omega) (by omega))
          clear h2 HP
          go_wp2_with fail
          go_region
          all_goals
            go_wp2_with fail
            go_roundw
            case rel => exact ⟨j + 1, swp d1 j (a + r), y2, by go_num, by omega, by omega, by first | exact HSw.out 1 | exact HSw.out _, by rw [swp_size]; exact hd1, HPm⟩
            case measure => simp only [intOf]; omega
      · have g2 : decide ((l : Int) ≤ (o : Int)) = false := by simp; omega
        by_cases hal : a + o = j
        · have HSw : Hid (∀ m, SC .u64 118 g cap w0 (((w2.drewN m).setCell ⟨g, j, none⟩ (.int .u64 d1[j]!)).setCell ⟨g, j, none⟩ (.int .u64 d1[j]!)) (swp d1 j j) s y2) := fun m => (h2.drewN m).swap j j
          have HPm : Hid (PermIn a b d (swp d1 j j)) := Sort.permIn_trans _ _ _ _ _ HP.out (Sort.swp_permIn _ _ _ _ _ (by omega) (by omega) (by omega) (by omega) (by omega))
          have es : (a : Int) + (o : Int) = (j : Int) := by omega
          clear h2 HP
          go_wp2_with fail
          go_region
          all_goals
            go_wp2_with fail
            go_roundw
            case rel => exact ⟨j + 1, swp d1 j j, y2, by go_num, by omega, by omega, by first | exact HSw.out 1 | exact HSw.out _, by rw [swp_size]; exact hd1, HPm⟩
            case measure => simp only [intOf]; omega
        · have ct := h2.sw.cell (j := a + o) (by omega)
          have ft := h2.sw.free (a + o)
          have it : (a : Int) + (o : Int) < (d.size : Int) := by omega
          have it0 : (0 : Int) ≤ (a : Int) + (o : Int) := by omega
          have itn : ((a : Int) + (o : Int)).toNat = a + o := by omega
          have itw : IntKind.i64.wrap ((a : Int) + (o : Int)) = (a : Int) + (o : Int) := by rw [IntKind.wrap_i64]; omega
          have e1 : ¬ j = a + o := fun h => hal h.symm
          have HSw : Hid (∀ m, SC .u64 118 g cap w0 (((w2.drewN m).setCell ⟨g, j, none⟩ (.int .u64 d1[a + o]!)).setCell ⟨g, a + o, none⟩ (.int .u64 d1[j]!)) (swp d1 j (a + o)) s y2) := fun m => (h2.drewN m).swap j (a + o)
          have HPm : Hid (PermIn a b d (swp d1 j (a + o))) := Sort.permIn_trans _ _ _ _ _ HP.out (Sort.swp_permIn _ _ _ _ _ (by omega) (by omega) (by omega) (by omega) (by omega))
          clear h2 HP
          go_wp2_with fail
          go_region
          all_goals
            go_wp2_with fail
            go_roundw
            case rel => exact ⟨j + 1, swp d1 j (a + o), y2, by go_num, by omega, by omega, by first | exact HSw.out 1 | exact HSw.out _, by rw [swp_size]; exact hd1, HPm⟩
            case measure => simp only [intOf]; omega
    · have g1 : decide ((j : Int) ≤ (a : Int) + (m : Int) * 2 + 1) = false := by simp; omega
      go_wp2_with fail
      go_end0
      exact ⟨rfl, d1, HP.out, hS.sw⟩

end Go.Proofs.Ytmfoenhbldacfaa
