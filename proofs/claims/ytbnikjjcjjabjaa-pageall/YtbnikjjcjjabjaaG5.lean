/- The document's slots: cut, try, put, set. -/
import Derived.Test.YtbnikjjcjjabjaaG4
import Derived.Deep.AppendSrc
namespace Go.Proofs.Ytbnikjjcjjabjaa
open Go.RowKit
set_option linter.unusedVariables false

theorem Try.infoRow : (Try.prog.info? 32).map (fun i => (i.zero, i.size, i.bytes)) = some (some (.slice none 0 0), 1, 24) := by kernel_rfl
theorem run_appL {ty : TypeId} {B : Nat} (w : World) (b n cap : Nat) (ao : Option Addr) (m c : Nat) (vs us : List Value) (hown : w.ownsRow B 32 1 (.slice (some ⟨b, 0, none⟩) n cap) vs.length vs) (hm : us.length = m) (h1 : ∀ u ∈ us, u.oneCell' = true)
    (hx : ∀ j u, us[j]? = some u → ∃ ad, ao = some ad ∧ w.cell? (ad.add j) = some u) (hl : vs.length + m ≤ 1000) (hB : B ≤ w.heap.size) :
    ∃ b' n' c' w', (Builtin.append_ #[27, 27] ty #[.slice (some ⟨b, 0, none⟩) n cap, .slice ao m c]).run Try.prog w = .ok (.slice (some ⟨b', 0, none⟩) n' c') w' ∧ w'.ownsRow B 32 1 (.slice (some ⟨b', 0, none⟩) n' c') (vs ++ us).length (vs ++ us) ∧ w.grownBy w' (some b) := by
  obtain ⟨i, hi, hz, hsz, hb⟩ := info_parts Try.infoRow
  have hnc : n ≤ cap := by
    rcases hown.2 with ⟨e, _⟩ | ⟨b', cap', cur, e, _, _, hnc, _⟩
    · cases e
    · cases e; exact hnc
  by_cases hm0 : m = 0
  · subst hm0
    obtain rfl : us = [] := List.eq_nil_of_length_eq_zero hm
    have hS : Src Try.prog i.size 27 (.slice ao 0 c) 0 [] w := by
      cases ao with
      | none => exact Src.ofNil w Try.underlying27 c
      | some ad => exact Src.ofSlice w Try.underlying27 ad 0 c [] (by simp) (by simp) (by simp)
    have := run_append_room_src w 27 27 ty 32 i Try.underlying27 hi b 0 n cap (.slice ao 0 c) 0 [] hS (by omega) (fun j hj => absurd hj (by simp)) (fun j hj => absurd hj (by simp))
    exact ⟨_, _, _, _, this, by rw [List.append_nil]; exact hown, ⟨rfl, rfl, rfl, Nat.le_refl _, fun _ _ _ => rfl⟩⟩
  · have hpos : 0 < us.length := by omega
    obtain ⟨ad, rfl, -⟩ := hx 0 _ (List.getElem?_eq_getElem hpos)
    obtain ⟨v', w', hr, h2, h3, _, h5⟩ := run_append_own_at (P := Try.prog) w B 27 ty 32 i (.slice none 0 0) 1 24 Try.underlying27 hi hz hsz hb rfl (by decide) _ vs.length _ hown ad m c us (by omega)
      (fun j u hj => by obtain ⟨ad', e', hc⟩ := hx j u hj; cases e'; exact hc) h1 (by unfold maxLen; omega) (by omega) hB
    rcases h2.2 with ⟨rfl, h0⟩ | ⟨g, cap', cur, rfl, _⟩
    · omega
    · exact ⟨g, _, cap', w', hr, by rw [List.length_append, hm]; exact h2, h3⟩
theorem wpList_appL {B : Nat} {w : World} {ops : Array Oper} {rest : List Oper} {o : Oper} {a : Act} {Q : Exit → Act → World → Prop} (hgd : o.guard = none) (s x : Operand)
    (ho : o.op = .call { callee := .builtin .append, args := #[s, x], argTypes := #[27, 27] }) (b n cap : Nat) (ao : Option Addr) (m c : Nat) (vs us : List Value) {l : Nat} (hvl : vs.length = l) (hs : a.eval s = .slice (some ⟨b, 0, none⟩) n cap) (hxv : a.eval x = .slice ao m c)
    (hown : w.ownsRow B 32 1 (.slice (some ⟨b, 0, none⟩) n cap) l vs) (hm : us.length = m) (h1 : ∀ u ∈ us, u.oneCell' = true)
    (hx : ∀ j u, us[j]? = some u → ∃ ad, ao = some ad ∧ w.cell? (ad.add j) = some u) (hl : l + m ≤ 1000) (hB : B ≤ w.heap.size)
    (h : ∀ b' n' c' w', w'.ownsRow B 32 1 (.slice (some ⟨b', 0, none⟩) n' c') (vs ++ us).length (vs ++ us) → w.grownBy w' (some b) → wpList Try.prog ops Q rest (a.put o.dst (.slice (some ⟨b', 0, none⟩) n' c')) w') : wpList Try.prog ops Q (o :: rest) a w :=
  wpList_plain hgd fun _ hK => by
    subst hvl
    obtain ⟨b', n', c', w', hr, h2, h3⟩ := run_appL w b n cap ao m c vs us hown hm h1 hx hl hB (ty := o.type)
    unfold Oper.wp execOp
    simp only [ho, resolve, invoke, builtin, Sem.run_bind, Sem.run_pure, Result.andThen_ok, List.map_toArray, List.map_cons, List.map_nil, hs, hxv, hr]
    exact hK _ _ (h b' n' c' w' h2 h3)

theorem add_cell (w : World) (g j : Nat) : w.cell? ((⟨g, 0, none⟩ : Addr).add j) = w.cell? ⟨g, j, none⟩ := by rw [show (⟨g, 0, none⟩ : Addr).add j = ⟨g, j, none⟩ from by unfold Addr.add; split <;> simp_all]
/-- What an append reads of a list. -/
theorem Sl.src {B : Nat} {W w : World} {q : Nat} {R : List (List Int)} {bad : Nat → Prop} (h : Sl B W w q R bad) : ∃ (ao : Option Addr) (c : Nat) (vs : List Value), w.cell? ⟨q, 0, none⟩ = some (.slice ao R.length c) ∧ vs.length = R.length ∧ (∀ u ∈ vs, u.oneCell' = true) ∧ (∀ j u, vs[j]? = some u → ∃ ad, ao = some ad ∧ w.cell? (ad.add j) = some u) ∧ ∀ i, i < R.length → ∃ u, vs[i]? = some u ∧ BV W w bad u (rc R i) := by
  obtain ⟨v, vs, h1, h2, h3⟩ := h.row
  have hlen : vs.length = R.length := by rw [h2.1, Nat.mul_one]
  have hone : ∀ u ∈ vs, u.oneCell' = true := fun u hu => by
    obtain ⟨i, hi, e⟩ := List.getElem_of_mem hu
    obtain ⟨u', k, hb⟩ := h3 i (by omega)
    rw [List.getElem?_eq_getElem hi, e] at k
    cases k
    rcases hb with ⟨-, rfl⟩ | ⟨-, x, rfl, -⟩ <;> rfl
  rcases h2.2 with ⟨rfl, h0⟩ | ⟨g, cap, cur, rfl, e2, e3, e4, e5, e6, e7⟩
  · exact ⟨none, 0, vs, by rw [cell_of_row _ _ _ _ _ _ h1]; simp [h0], hlen, hone, fun j u hj => by have := List.getElem?_eq_some_iff.1 hj; obtain ⟨k, _⟩ := this; omega, h3⟩
  · refine ⟨_, cap, vs, by rw [cell_of_row _ _ _ _ _ _ h1]; rfl, hlen, hone, fun j u hj => ⟨_, rfl, ?_⟩, h3⟩
    obtain ⟨k, _⟩ := List.getElem?_eq_some_iff.1 hj
    rw [add_cell, World.ownsRow.cellAt h2 j (by omega)]
    exact hj
theorem BV.keep {W w w' : World} {bad : Nat → Prop} {v : Value} {b : List Int} (h : BV W w bad v b) (k : ∀ (x : Nat) (A : Array Value), w.heap[x]? = some (.cells A 5 (0, 0)) → w'.heap[x]? = w.heap[x]?) : BV W w' bad v b := Or.imp id (by
  rintro ⟨hb, x, hv, hx, hn⟩
  exact ⟨hb, x, hv, ⟨by rw [k x _ hx.row]; exact hx.row, hx.own⟩, hn⟩) h
theorem BV.later {W w w' : World} {bad : Nat → Prop} {v : Value} {b : List Int} (h : BV W w bad v b) (hb : Below w.heap.size w w') : BV W w' bad v b := BV.keep h fun x A e => hb.block x (Array.getElem?_eq_some_iff.1 e).1
/-- A new list over a row of one's own. -/
theorem Sl.made {B : Nat} {W w : World} {R : List (List Int)} {bad : Nat → Prop} {v : Value} {vs : List Value} (hB : B ≤ w.heap.size) (hv : w.ownsRow B 32 1 v R.length vs) (hu : ∀ i, i < R.length → ∃ u, vs[i]? = some u ∧ BV W w bad u (rc R i)) : Sl B W (w.alloc (.cells #[v] 29)) w.heap.size R bad :=
  ⟨hB, v, vs, heap_alloc_last w _, World.ownsRow.alloc hv _, fun i hi => by
    obtain ⟨u, e, hb⟩ := hu i hi
    exact ⟨u, e, BV.later hb ((Below.refl _ _).alloc (Nat.le_refl _) _)⟩⟩
theorem Sl.drewN {B : Nat} {W w : World} {q : Nat} {R : List (List Int)} {bad : Nat → Prop} (h : Sl B W w q R bad) (n : Nat) : Sl B W (w.drewN n) q R bad := h.keep fun _ _ _ _ => rfl
/-- The row turned, and the list is told so. -/
theorem Sl.turned {B : Nat} {W w w' : World} {q b : Nat} {R R' : List (List Int)} {bad : Nat → Prop} (h : Sl B W w q R bad) {v : Value} {vs : List Value} (hg : w.grownBy w' (some b)) {A : Array Value} (hb : w.heap[b]? = some (.cells A 32 (0, 0)))
    (hv : w'.ownsRow B 32 1 v R'.length vs) (hu : ∀ i, i < R'.length → ∃ u, vs[i]? = some u ∧ BV W w bad u (rc R' i)) : Sl B W (w'.setCell ⟨q, 0, none⟩ v) q R' bad := by
  obtain ⟨v0, vs0, h1, h2, h3⟩ := h.row
  have hql := h.lt
  have hqb : q ≠ b := fun e => by rw [e, hb] at h1; exact absurd (ty_eq h1) (by decide)
  have hq' : w'.heap[q]? = some (.cells #[v0] 29 (0, 0)) := by rw [hg.block q hql (fun e => hqb (Option.some.inj e))]; exact h1
  have hset : (w'.setCell ⟨q, 0, none⟩ v).heap[q]? = some (.cells #[v] 29 (0, 0)) := by simp [World.setCell, Array.getElem?_modify, hq']
  have hoth : ∀ x, x ≠ q → (w'.setCell ⟨q, 0, none⟩ v).heap[x]? = w'.heap[x]? := fun x hx => Below.heap_setCell _ _ _ _ hx
  refine ⟨h.own, v, vs, hset, ⟨hv.1, hv.2.imp id ?_⟩, fun i hi => ?_⟩
  · rintro ⟨g, cap, cur, e1, e2, e3, e4⟩
    exact ⟨g, cap, cur, e1, e2, by rw [hoth g (fun e => by rw [e, hq'] at e3; exact absurd (ty_eq e3) (by decide))]; exact e3, e4⟩
  · obtain ⟨u, e, hbv⟩ := hu i hi
    refine ⟨u, e, BV.keep hbv fun x A' e2 => ?_⟩
    have hxb : x ≠ b := fun e3 => by rw [e3, hb] at e2; exact absurd (ty_eq e2) (by decide)
    have hxq : x ≠ q := fun e3 => by rw [e3, h1] at e2; exact absurd (ty_eq e2) (by decide)
    rw [hoth x hxq, hg.block x (Array.getElem?_eq_some_iff.1 e2).1 (fun e => hxb (Option.some.inj e))]
/-- One list is told to be as another one. -/
theorem Sl.take {B B' : Nat} {W w : World} {q p : Nat} {R R' : List (List Int)} {bad : Nat → Prop} (h : Sl B W w q R bad) (k : Sl B' W w p R' bad) (hB : B ≤ B') : ∃ (a : Option Addr) (n c : Nat), w.cell? ⟨p, 0, none⟩ = some (.slice a n c) ∧ Sl B W (w.setCell ⟨q, 0, none⟩ (.slice a n c)) q R' bad := by
  obtain ⟨v0, vs0, h1, h2, h3⟩ := h.row
  obtain ⟨v, vs, k1, k2, k3⟩ := k.row
  obtain ⟨a, n, c, rfl⟩ : ∃ (a : Option Addr) (n c : Nat), v = .slice a n c := by
    rcases k2.2 with ⟨e, _⟩ | ⟨g, cap, cur, e, _⟩
    · exact ⟨_, _, _, e⟩
    · exact ⟨_, _, _, e⟩
  obtain ⟨v, hv⟩ : ∃ v, Value.slice a n c = v := ⟨_, rfl⟩
  rw [hv] at k1 k2
  refine ⟨a, n, c, ?_⟩
  rw [hv]
  clear hv
  have hset : (w.setCell ⟨q, 0, none⟩ v).heap[q]? = some (.cells #[v] 29 (0, 0)) := by simp [World.setCell, Array.getElem?_modify, h1]
  have hoth : ∀ x, x ≠ q → (w.setCell ⟨q, 0, none⟩ v).heap[x]? = w.heap[x]? := fun x hx => Below.heap_setCell _ _ _ _ hx
  refine ⟨by rw [cell_of_row _ _ _ _ _ _ k1]; rfl, h.own, v, vs, hset, ⟨k2.1, k2.2.imp id ?_⟩, fun i hi => ?_⟩
  · rintro ⟨g, cap, cur, e1, e2, e3, e4⟩
    exact ⟨g, cap, cur, e1, Nat.le_trans hB e2, by rw [hoth g (fun e => by rw [e, h1] at e3; exact absurd (ty_eq e3) (by decide))]; exact e3, e4⟩
  · obtain ⟨u, e, hbv⟩ := k3 i hi
    exact ⟨u, e, BV.keep hbv fun x A' e2 => hoth x (fun e3 => by rw [e3, h1] at e2; exact absurd (ty_eq e2) (by decide))⟩

theorem eql_nil (w : World) : (binOp .eql 32 (.slice none 0 0) (.slice none 0 0)).run Try.prog w = .ok (.bool true) w := by kernel_rfl
theorem eql_some (a : Addr) (n c : Nat) (w : World) : (binOp .eql 32 (.slice (some a) n c) (.slice none 0 0)).run Try.prog w = .ok (.bool false) w := by kernel_rfl

set_option maxHeartbeats 1000000 in
theorem cutS_any {W w : World} {q : Nat} {R : List (List Int)} {bad : Nat → Prop} (h : Sl W.heap.size W w q R bad) : Calls Try.prog 12 #[.pointer (some ⟨q, 0, none⟩)] w fun e w' => e = .returned (.tuple #[]) ∧ Sl W.heap.size W w' q (trimR R) bad ∧ Rest q w w' := by
  have hR : R.take R.length = R := List.take_length
  obtain ⟨n, hn⟩ : ∃ n, R.length = n := ⟨_, rfl⟩
  rw [hn] at hR
  have htr : trimR R = R.take (tr R n) := by rw [trimR, hn]
  rw [htr]
  obtain ⟨T, hT⟩ : ∃ T, tr R n = T := ⟨_, rfl⟩
  rw [hT]
  replace hn : Hid _ := hn
  replace hT : Hid _ := hT
  replace hR : Hid _ := hR
  replace h : Sl W.heap.size W w q (R.take n) bad := by rw [hR.out]; exact h
  clear htr
  go_enter Try.func12, Try.ntmps12
  go_wp2
  go_loopw [] (fun wr => ∃ k : Nat, k ≤ n ∧ Hid (tr R k = T) ∧ Sl W.heap.size W wr q (R.take k) bad ∧ Rest q w wr) (fun wr => lenOf ((wr.cell? ⟨q, 0, none⟩).getD undef))
  case atStart => exact ⟨n, Nat.le_refl _, hT, h, Rest.refl q w⟩
  case round =>
    clear h
    obtain ⟨k, hk, ht, h, hr⟩ := hrel
    have hlen : (R.take k).length = k := by have := hn.out; simp; omega
    obtain ⟨ao, c, hc, -, hf, hlc, hcm, hcell⟩ := h.cells
    rw [hlen] at hc hlc hcell
    have hset := fun (j : Nat) (hj : j ≤ k) (hp : 0 < k) (nq : Nat) => (h.drewN nq).cutTo (k := j) (by omega) (ao := ao) (c := c) (by rw [hlen]; exact hc) (by omega)
    have hcl : lenOf ((wr.cell? ⟨q, 0, none⟩).getD undef) = k := by rw [hc]; rfl
    rw [hcl]
    have hex : ∀ (p : tr R k = k), Sl W.heap.size W wr q (R.take T) bad := fun p => by rw [← ht.out, p]; exact h
    clear hcl
    cases k with
    | zero =>
      have hex2 : Hid _ := hex rfl
      have d1 : decide ((0 : Int) < 0) = false := rfl
      clear hcell hset hex h
      go_wp2
      go_quiet (fail)
      go_wp2
      go_end0
      exact ⟨rfl, hex2.out.drewN _, hr.drewN _⟩
    | succ m =>
      obtain ⟨r, rfl, hrr⟩ := hcell (by omega)
      obtain ⟨u, hu, hv⟩ := hrr m (by omega)
      rw [rc_take (by omega)] at hv
      have hwm : IntKind.i64.wrap (((m + 1 : Nat) : Int) - 1) = (m : Int) := by rw [IntKind.wrap_i64]; omega
      obtain ⟨M, hM⟩ : ∃ M, m + 1 = M := ⟨_, rfl⟩
      have e1 : (0 : Int) < (M : Int) := by omega
      have e2 : (m : Int) < (M : Int) := by omega
      have e3 : m ≤ M := by omega
      have hset2 : Hid _ := hset m (by omega) (by omega)
      have htr : Hid (rc R m = [] → tr R m = T) := fun e => by have := ht.out; rw [tr_down R e] at this; exact this
      have hex2 : Hid (rc R m ≠ [] → Sl W.heap.size W wr q (R.take T) bad) := fun e => hex (tr_self R e)
      rw [hM] at hc hlc hwm hk
      have hkM : Hid (m + 1 = M) := hM
      have hmn : m ≤ n := by omega
      have hset3 : Hid (∀ nq, Sl W.heap.size W ((wr.drewN nq).setCell ⟨q, 0, none⟩ (.slice (some ⟨r, 0, none⟩) m c)) q (R.take m) bad) := fun nq => by have := hset2.out nq; rw [List.take_take, Nat.min_eq_left (by omega)] at this; exact this
      clear hcell hrr hset hset2 hex h ht hM
      rcases hv with ⟨e, rfl⟩ | ⟨e, x, rfl, -, -⟩
      · have d1 : decide (0 < M) = true := decide_eq_true (by omega)
        have en := eql_nil
        go_wp2
        go_quiet (fail)
        go_wp2
        go_region
        go_wp2
        go_roundw
        case rel => exact ⟨m, hmn, htr.out e, hset3.out _, (hr.drewN _).trans (Rest.set q 0 _ _)⟩
        case measure =>
          rw [show (((wr.drewN (nq + 1)).setCell ⟨q, 0, none⟩ (.slice (some ⟨r, 0, none⟩) m c)).cell? ⟨q, 0, none⟩) = some (.slice (some ⟨r, 0, none⟩) m c) from by simp [go_sem, hc]]
          exact Nat.lt_succ_self m
      · have d1 : decide (0 < M) = true := decide_eq_true (by omega)
        have hex3 := hex2.out e
        replace hex3 : Hid _ := hex3
        have en := eql_some ⟨x, 0, none⟩ (rc R m).length (rc R m).length
        go_wp2
        go_quiet (fail)
        go_wp2
        go_end0
        exact ⟨rfl, hex3.out.drewN _, hr.drewN _⟩

end Go.Proofs.Ytbnikjjcjjabjaa
