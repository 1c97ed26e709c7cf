/- The walks of the library's order2, median and choosePivot, at tags. -/
import Derived.Test.YtghifjiohgninaaS1
import Derived.OneCell
namespace Go.Proofs.Ytghifjiohgninaa
open Go.RowKit
open Go.Sort (swp PermIn SortedIn ltInt)
set_option linter.unusedVariables false

/-- A row of tags, and one number beside it that the sort itself has made. -/
structure SC (ik : IntKind) (t : TypeId) (g cap : Nat) (w0 w : World) (d : Array Int) (s : Nat) (v : Int) : Prop where
  sw : SW g cap w0 w d
  ne : s ≠ g
  new : w0.heap.size ≤ s
  box : w.heap[s]? = some (.cells #[.int ik v] t (0, 0))

theorem SC.cell {ik : IntKind} {t : TypeId} {g cap : Nat} {w0 w : World} {d : Array Int} {s : Nat} {v : Int} (h : SC ik t g cap w0 w d s v) : w.cell? ⟨s, 0, none⟩ = some (.int ik v) := by
  simp [World.cell?, h.box]
theorem SC.free {ik : IntKind} {t : TypeId} {g cap : Nat} {w0 w : World} {d : Array Int} {s : Nat} {v : Int} (h : SC ik t g cap w0 w d s v) : w.frozen? ⟨s, 0, none⟩ = false := by
  simp [World.frozen?, h.box]
theorem SC.drewN {ik : IntKind} {t : TypeId} {g cap : Nat} {w0 w : World} {d : Array Int} {s : Nat} {v : Int} (h : SC ik t g cap w0 w d s v) (n : Nat) : SC ik t g cap w0 (w.drewN n) d s v := ⟨h.sw.drewN n, h.ne, h.new, h.box⟩
theorem SC.put {ik : IntKind} {t : TypeId} {g cap : Nat} {w0 w : World} {d : Array Int} {s : Nat} {v : Int} (h : SC ik t g cap w0 w d s v) (u : Int) : SC ik t g cap w0 (w.setCell ⟨s, 0, none⟩ (.int ik u)) d s u :=
  ⟨h.sw.setOther _ h.ne h.new, h.ne, h.new, one_setCell h.box⟩
theorem SC.make {ik : IntKind} {t : TypeId} {g cap : Nat} {w0 w : World} {d : Array Int} {v : Int} (h : SW g cap w0 w d) : SC ik t g cap w0 (w.alloc (.cells #[.int ik v] t (0, 0))) d w.heap.size v :=
  ⟨h.alloc _, fun e => by have := h.lt; omega, h.size, by show (w.heap.push _)[w.heap.size]? = _; simp⟩

set_option maxHeartbeats 1000000 in
theorem order2_any (g cap n x y s : Nat) (k : Int) (d : Array Int) (w0 w : World) (h : SC .i64 3 g cap w0 w d s k) (hx : x < d.size) (hy : y < d.size) (hk0 : 0 ≤ k) (hk : k ≤ 100) (hn : d.size = n) (hn2 : n ≤ 1000) :
    Calls Try.prog 49 #[.slice (some ⟨g, 0, none⟩) n cap, .int .i64 x, .int .i64 y, .pointer (some ⟨s, 0, none⟩)] w fun e w' => ∃ p q : Nat, ∃ k' : Int, e = .returned (.tuple #[.int .i64 p, .int .i64 q]) ∧ (p = x ∧ q = y ∨ p = y ∧ q = x) ∧ k ≤ k' ∧ k' ≤ k + 1 ∧ SC .i64 3 g cap w0 w' d s k' := by
  subst hn
  have c1 := h.sw.cell hx
  have c2 := h.sw.cell hy
  have c3 := h.cell
  have c4 := h.free
  have i1 : (x : Int) < (d.size : Int) := by omega
  have i2 : (y : Int) < (d.size : Int) := by omega
  obtain ⟨u, hu⟩ : ∃ u, u = d[x]! := ⟨_, rfl⟩
  obtain ⟨v, hv⟩ : ∃ v, v = d[y]! := ⟨_, rfl⟩
  rw [← hu] at c1
  rw [← hv] at c2
  clear hu hv
  go_enter Try.func49, Try.ntmps49
  by_cases huv : v < u
  · go_wp2
    go_quiet ((go_at_call 38; exact Calls.quiet_of_same (less_any _ _ _)))
    go_wp2
    go_ret2
    exact ⟨y, x, k + 1, rfl, .inr ⟨rfl, rfl⟩, by omega, by omega, (h.drewN _).put _⟩
  · have hd : decide (v < u) = false := by simp; omega
    go_wp2
    go_quiet ((go_at_call 38; exact Calls.quiet_of_same (less_any _ _ _)))
    go_wp2
    go_ret2
    exact ⟨x, y, k, rfl, .inl ⟨rfl, rfl⟩, by omega, by omega, h.drewN _⟩

set_option maxHeartbeats 1000000 in
theorem median_any (g cap n x y z s : Nat) (d : Array Int) (w0 w : World) (h : SC .i64 3 g cap w0 w d s 0) (hx : x < d.size) (hy : y < d.size) (hz : z < d.size) (hn : d.size = n) (hn2 : n ≤ 1000) :
    Calls Try.prog 47 #[.slice (some ⟨g, 0, none⟩) n cap, .int .i64 x, .int .i64 y, .int .i64 z, .pointer (some ⟨s, 0, none⟩)] w fun e w' => ∃ p : Nat, ∃ k' : Int, e = .returned (.int .i64 p) ∧ (p = x ∨ p = y ∨ p = z) ∧ 0 ≤ k' ∧ k' ≤ 3 ∧ SC .i64 3 g cap w0 w' d s k' := by
  go_enter Try.func47, Try.ntmps47
  go_wp2_with fail
  refine Calls.mono (order2_any g cap n x y s 0 d w0 _ h hx hy (by omega) (by omega) hn hn2) ?_
  rintro e w1 ⟨p1, q1, k1, rfl, hpq1, hk1, hk1', h1⟩
  go_wp2_with fail
  refine Calls.mono (order2_any g cap n q1 z s k1 d w0 _ h1 (by omega) hz (by omega) (by omega) hn hn2) ?_
  rintro e w2 ⟨p2, q2, k2, rfl, hpq2, hk2, hk2', h2⟩
  go_wp2_with fail
  refine Calls.mono (order2_any g cap n p1 p2 s k2 d w0 _ h2 (by omega) (by omega) (by omega) (by omega) hn hn2) ?_
  rintro e w3 ⟨p3, q3, k3, rfl, hpq3, hk3, hk3', h3⟩
  go_wp2
  go_ret
  exact ⟨q3, k3, rfl, by omega, by omega, by omega, h3⟩

set_option maxHeartbeats 1000000 in
theorem pivot_any (g cap n a b l : Nat) (d : Array Int) (w0 w : World) (h : SW g cap w0 w d) (hl : 8 ≤ l) (hl2 : l < 50) (hb : b ≤ a + l) (hb2 : a + l ≤ b) (hbn : b ≤ d.size) (hn : d.size = n) (hn2 : n ≤ 1000) :
    Calls Try.prog 35 #[.slice (some ⟨g, 0, none⟩) n cap, .int .i64 a, .int .i64 b] w fun e w' => ∃ p : Nat, ∃ t : Int, e = .returned (.tuple #[.int .i64 p, .int .i64 t]) ∧ a ≤ p ∧ p < b ∧ (t = 0 ∨ t = 1) ∧ SW g cap w0 w' d := by
  have hba : (b : Int) - (a : Int) = (l : Int) := by omega
  obtain ⟨m, hm⟩ : ∃ m, m = l / 4 := ⟨_, rfl⟩
  have hq : (l : Int) / 4 = (m : Int) := by omega
  have hm1 : 2 ≤ m := by omega
  have hm2 : m * 4 ≤ l := by omega
  clear hm
  go_enter Try.func35, Try.ntmps35
  go_wp2_with fail
  refine Calls.mono (median_any g cap n (a + m) (a + m * 2) (a + m * 3) w.heap.size d w0 _ (SC.make h) (by omega) (by omega) (by omega) hn hn2) ?_
  rintro e w1 ⟨p, k, rfl, hp, hk, hk', h1⟩
  have c1 := h1.cell
  by_cases hk1 : k = 0
  · subst hk1
    go_wp2
    go_ret2
    exact ⟨p, 1, rfl, by omega, by omega, .inr rfl, h1.sw⟩
  · have g1 : decide (k = 0) = false := by simp [hk1]
    have g2 : decide (k = 12) = false := by simp; omega
    go_wp2
    go_ret2
    exact ⟨p, 0, rfl, by omega, by omega, .inl rfl, h1.sw⟩

end Go.Proofs.Ytghifjiohgninaa
