/- An append of many values; one value of a row turned. -/
import Derived.Test.YtdeplfhkeneabaaR8
namespace Go.Proofs.Ytdeplfhkeneabaa
open Go.RowKit
set_option linter.unusedVariables false

theorem cells_len (l : List Vl) : (l.flatMap cellsV).length = l.length * 3 := by
  induction l with
  | nil => rfl
  | cons v l ih => rw [List.flatMap_cons, List.length_append, ih, List.length_cons]; simp [cellsV]; omega
theorem RdV.news {w : World} {b o n c : Nat} {vs : List Vl} (h : RdV w (some ⟨b, o, none⟩) n c vs) : ∀ (j : Nat) (u : Value), (vs.flatMap cellsV)[j]? = some u → w.cell? ((⟨b, o, none⟩ : Addr).add j) = some u := by
  intro j u hj
  have hl := h.len
  have hj' : j < vs.length * 3 := by
    have := (List.getElem?_eq_some_iff.1 hj).1
    rwa [cells_len] at this
  obtain ⟨b', o', e, hc⟩ := h.cells (by omega)
  cases e
  have hi : j / 3 < vs.length := by omega
  obtain ⟨e0, e1, e2⟩ := cells_at hi
  obtain ⟨c0, c1, c2⟩ := hc (j / 3) (by omega)
  rw [add_off]
  rcases (by omega : j % 3 = 0 ∨ j % 3 = 1 ∨ j % 3 = 2) with k | k | k
  · obtain ⟨q, rfl⟩ : ∃ q, j = q * 3 := ⟨j / 3, by omega⟩
    rw [show q * 3 / 3 = q from by omega] at *
    rw [e0] at hj
    rw [c0, hj]
  · obtain ⟨q, rfl⟩ : ∃ q, j = q * 3 + 1 := ⟨j / 3, by omega⟩
    rw [show (q * 3 + 1) / 3 = q from by omega] at *
    rw [e1] at hj
    rw [← Nat.add_assoc, c1, hj]
  · obtain ⟨q, rfl⟩ : ∃ q, j = q * 3 + 2 := ⟨j / 3, by omega⟩
    rw [show (q * 3 + 2) / 3 = q from by omega] at *
    rw [e2] at hj
    rw [← Nat.add_assoc, c2, hj]
theorem cells_one (l : List Vl) : ∀ u ∈ l.flatMap cellsV, u.oneCell' = true := by
  intro u hu
  rw [List.mem_flatMap] at hu
  obtain ⟨v, _, hu⟩ := hu
  simp [cellsV] at hu
  rcases hu with rfl | rfl | rfl <;> rfl

/-- All of a slice's values behind an empty row of the call's own: a copy. -/
theorem wpList_copyV {w : World} {ops : Array Oper} {rest : List Oper} {o : Oper} {a : Act} {Q : Exit → Act → World → Prop} (hgd : o.guard = none) (s x : Operand)
    (ho : o.op = .call { callee := .builtin .append, args := #[s, x], argTypes := #[22, 22] }) (B : Nat) (v : Value) (b p n c : Nat) (vs : List Vl) (hs : a.eval s = v) (hx : a.eval x = .slice (some ⟨b, p, none⟩) n c) (hown : OwnV B w v []) (hr : RdV w (some ⟨b, p, none⟩) n c vs)
    (hn : n ≤ 1000) (h0 : 0 < n) (hB : B ≤ w.heap.size)
    (h : ∀ g cap w', OwnV B w' (.slice (some ⟨g, 0, none⟩) n cap) vs → B ≤ g → n ≤ cap → cap ≤ 9223372036854775807 → Below B w w' → wpList Try.prog ops Q rest (a.put o.dst (.slice (some ⟨g, 0, none⟩) n cap)) w') : wpList Try.prog ops Q (o :: rest) a w :=
  wpList_plain hgd fun _ hK => by
    obtain ⟨i, hi, hz, hsz, hby⟩ := info_parts Try.info35
    have hl := hr.len
    obtain ⟨v', w', hrn, h2, h3, _⟩ := run_append_own (P := Try.prog) w B 22 o.type 35 i _ 3 32 Try.underlying22 hi hz hsz hby rfl (by omega) v 0 _ hown ⟨b, p, none⟩ n c (vs.flatMap cellsV) (by rw [cells_len, hl]) hr.news (cells_one vs) (by unfold maxLen; omega) (by omega) hB
    have hO : OwnV B w' v' vs := by
      unfold OwnV
      rw [hl]
      simpa using h2
    obtain ⟨g, cap, e, hg, hc1, hc2⟩ : ∃ g cap, v' = .slice (some ⟨g, 0, none⟩) n cap ∧ B ≤ g ∧ n ≤ cap ∧ cap ≤ 9223372036854775807 := by
      rcases hO.2 with ⟨_, k0⟩ | ⟨g, cap, cur, e, hg, _, k1, k2, _⟩
      · omega
      · exact ⟨g, cap, by rw [e, hl], hg, by omega, k2⟩
    unfold Oper.wp execOp
    simp only [ho, resolve, invoke, builtin, Sem.run_bind, Sem.run_pure, Result.andThen_ok, List.map_toArray, List.map_cons, List.map_nil, hs, hx, hrn]
    subst e
    exact hK _ _ (h g cap w' hO hg hc1 hc2 (hown.below hB h3))

/-- One value turned. -/
theorem Cv.set_same {w : World} {g p : Nat} {v x : Vl} (h : Cv w g p v) : Cv (((w.setCell ⟨g, p, none⟩ (.int .i64 x.1)).setCell ⟨g, p + 1, none⟩ (.int .i64 x.2.1)).setCell ⟨g, p + 2, none⟩ (.string x.2.2)) g p x := by
  obtain ⟨c0, c1, c2⟩ := h
  exact ⟨by simp [go_sem, c0], by simp [go_sem, c1], by simp [go_sem, c2]⟩
theorem Cv.set_other {w : World} {g p q : Nat} {v x : Vl} (h : Cv w g q v) (hpq : q + 2 < p ∨ p + 2 < q) : Cv (((w.setCell ⟨g, p, none⟩ (.int .i64 x.1)).setCell ⟨g, p + 1, none⟩ (.int .i64 x.2.1)).setCell ⟨g, p + 2, none⟩ (.string x.2.2)) g q v := by
  obtain ⟨c0, c1, c2⟩ := h
  have n0 : q ≠ p ∧ q ≠ p + 1 ∧ q ≠ p + 2 := by omega
  have n1 : q + 1 ≠ p ∧ q + 1 ≠ p + 1 ∧ q + 1 ≠ p + 2 := by omega
  have n2 : q + 2 ≠ p ∧ q + 2 ≠ p + 1 ∧ q + 2 ≠ p + 2 := by omega
  refine ⟨?_, ?_, ?_⟩
  · simp [go_sem, c0]
  · simp [go_sem, c1]
  · simp [go_sem, c2]
theorem vth_set {l : List Vl} {k i : Nat} {x : Vl} (hk : k < l.length) : vth (l.set k x) i = if i = k then x else vth l i := by
  unfold vth
  rw [List.getElem?_set]
  split
  · rename_i h
    subst h
    rw [if_pos rfl]; rfl
  · rename_i h
    rw [if_neg (fun e => h e.symm)]
theorem RdV.set {w : World} {g n c k : Nat} {vs : List Vl} {x : Vl} (h : RdV w (some ⟨g, 0, none⟩) n c vs) (hk : k < n) : RdV (((w.setCell ⟨g, k * 3, none⟩ (.int .i64 x.1)).setCell ⟨g, k * 3 + 1, none⟩ (.int .i64 x.2.1)).setCell ⟨g, k * 3 + 2, none⟩ (.string x.2.2)) (some ⟨g, 0, none⟩) n c (vs.set k x) := by
  have hl := h.len
  refine ⟨by rw [List.length_set, hl], h.cap, h.max, h.non, fun hp => ?_⟩
  obtain ⟨b, o, e, hc⟩ := h.cells hp
  cases e
  refine ⟨g, 0, rfl, fun i hi => ?_⟩
  have hci := hc i hi
  rw [Nat.zero_add] at hci ⊢
  rw [vth_set (by omega)]
  split
  · rename_i e
    subst e
    exact hci.set_same
  · exact hci.set_other (by omega)

end Go.Proofs.Ytdeplfhkeneabaa
