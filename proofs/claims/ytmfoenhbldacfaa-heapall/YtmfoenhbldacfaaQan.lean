import Derived.Test.YtmfoenhbldacfaaQam
import Derived.Deep.RegionHeld3
/- slices.Delete and slices.Insert of gaps. -/
namespace Go.Proofs.Ytmfoenhbldacfaa
open Go.RowKit
set_option linter.unusedVariables false
set_option linter.unusedSimpArgs false

section
variable {ops : Array Oper} {rest : List Oper} {o : Oper} {a : Act} {w w' : World} {K : Act → World → Prop} {Q : Exit → Act → World → Prop} {E : Prop} {v : Value}
theorem wpList_app2 (hgd : o.guard = none) (s x : Operand) (t t' : TypeId) (ho : o.op = .call { callee := .builtin .append, args := #[s, x], argTypes := #[t, t'] }) {u y : Value} (hs : a.eval s = u) (hx : a.eval x = y)
    (hr : (Builtin.append_ #[t, t'] o.type #[u, y]).run Try.prog w = .ok v w') (h : wpList Try.prog ops Q rest (a.put o.dst v) w') : wpList Try.prog ops Q (o :: rest) a w :=
  wpList_plain hgd fun _ hK => by
    unfold Oper.wp execOp
    simp only [ho, resolve, invoke, builtin, Sem.run_bind, Sem.run_pure, Result.andThen_ok, List.map_toArray, List.map_cons, List.map_nil, hs, hx, hr]
    exact hK _ _ h
theorem step_app2 (hgd : o.guard = none) (s x : Operand) (t t' : TypeId) (ho : o.op = .call { callee := .builtin .append, args := #[s, x], argTypes := #[t, t'] }) {u y : Value} (hs : a.eval s = u) (hx : a.eval x = y)
    (hr : (Builtin.append_ #[t, t'] o.type #[u, y]).run Try.prog w = .ok v w') (h : K (a.put o.dst v) w') : if Region.wanted o (yielded ops a.tmps) = true then Oper.wp Try.prog o a w K Q else E := by
  have hw : Region.wanted o (yielded ops a.tmps) = true := by simp [Region.wanted, hgd]
  rw [if_pos hw]
  unfold Oper.wp execOp
  simp only [ho, resolve, invoke, builtin, Sem.run_bind, Sem.run_pure, Result.andThen_ok, List.map_toArray, List.map_cons, List.map_nil, hs, hx, hr]
  exact h
theorem wpList_copy2 (hgd : o.guard = none) (s x : Operand) (t t' : TypeId) (ho : o.op = .call { callee := .builtin .copy, args := #[s, x], argTypes := #[t, t'] }) {u y : Value} (hs : a.eval s = u) (hx : a.eval x = y)
    (hr : (Builtin.copy_ #[t, t'] o.type #[u, y]).run Try.prog w = .ok v w') (h : wpList Try.prog ops Q rest (a.put o.dst v) w') : wpList Try.prog ops Q (o :: rest) a w :=
  wpList_plain hgd fun _ hK => by
    unfold Oper.wp execOp
    simp only [ho, resolve, invoke, builtin, Sem.run_bind, Sem.run_pure, Result.andThen_ok, List.map_toArray, List.map_cons, List.map_nil, hs, hx, hr]
    exact hK _ _ h
theorem step_copy2 (hgd : o.guard = none) (s x : Operand) (t t' : TypeId) (ho : o.op = .call { callee := .builtin .copy, args := #[s, x], argTypes := #[t, t'] }) {u y : Value} (hs : a.eval s = u) (hx : a.eval x = y)
    (hr : (Builtin.copy_ #[t, t'] o.type #[u, y]).run Try.prog w = .ok v w') (h : K (a.put o.dst v) w') : if Region.wanted o (yielded ops a.tmps) = true then Oper.wp Try.prog o a w K Q else E := by
  have hw : Region.wanted o (yielded ops a.tmps) = true := by simp [Region.wanted, hgd]
  rw [if_pos hw]
  unfold Oper.wp execOp
  simp only [ho, resolve, invoke, builtin, Sem.run_bind, Sem.run_pure, Result.andThen_ok, List.map_toArray, List.map_cons, List.map_nil, hs, hx, hr]
  exact h
theorem wpList_clear1 (hgd : o.guard = none) (s : Operand) (t : TypeId) (ho : o.op = .call { callee := .builtin .clear, args := #[s], argTypes := #[t] }) {u : Value} (hs : a.eval s = u)
    (hr : (Builtin.clear_ #[t] o.type #[u]).run Try.prog w = .ok v w') (h : wpList Try.prog ops Q rest (a.put o.dst v) w') : wpList Try.prog ops Q (o :: rest) a w :=
  wpList_plain hgd fun _ hK => by
    unfold Oper.wp execOp
    simp only [ho, resolve, invoke, builtin, Sem.run_bind, Sem.run_pure, Result.andThen_ok, List.map_toArray, List.map_cons, List.map_nil, hs, hr]
    exact hK _ _ h
end

theorem src_of {w : World} {g : Nat} {L : List Value} (h : Rw w g L) {o : Nat} {cs : List Value} (hs : ∀ j v, cs[j]? = some v → L[o + j]? = some v) : ∀ j v, cs[j]? = some v → w.cell? ((⟨g, o, none⟩ : Addr).add j) = some v := by
  intro j v e
  rw [Addr.add_mid, h.cell]
  exact hs j v e

set_option maxRecDepth 100000 in
set_option maxHeartbeats 2000000 in
theorem delete_any {B : Nat} {w : World} {g cap n : Nat} {F : List (Int × Int)} (h : OwnG B w (.slice (some ⟨g, 0, none⟩) n cap) F) (i : Nat) (hi : i < F.length) (hl : F.length ≤ 1000) :
    Calls Try.prog 68 #[.slice (some ⟨g, 0, none⟩) n cap, .int .i64 (i : Int), .int .i64 ((i : Int) + 1)] w fun e w' => e = .returned (.slice (some ⟨g, 0, none⟩) (F.length - 1) cap) ∧ OwnG B w' (.slice (some ⟨g, 0, none⟩) (F.length - 1) cap) (F.take i ++ F.drop (i + 1)) ∧ Rest g w w' := by
  obtain ⟨L, rfl, hB, hR, hc, hm, hL, hT⟩ := h.rw
  have hc63 : cap ≤ 9223372036854775807 := by simpa [maxLen] using hm
  have hF : Hid (∀ w' : World, Rw w' g (sp (sp L (i * 2) ((F.drop (i + 1)).map gcl).flatten) ((F.length - 1) * 2) [.int .i64 0, .int .i64 0]) → OwnG B w' (.slice (some ⟨g, 0, none⟩) (F.length - 1) cap) (F.take i ++ F.drop (i + 1))) := fun w' k => by
    have hl : (F.take i ++ F.drop (i + 1)).length = F.length - 1 := by simp; omega
    have hd : (((F.drop (i + 1)).map gcl).flatten).length = (F.length - (i + 1)) * 2 := by rw [gfl, List.length_drop]
    have := k.own (F := F.take i ++ F.drop (i + 1)) hB (by omega) hm (by rw [sp_len (by rw [sp_len (by omega)]; simp; omega), sp_len (by omega)]; exact hL) (del_cells hi (by omega) hT _ rfl)
    rw [hl] at this
    exact this
  -- the append
  have HA : ∃ ao m d, (∀ w' : World, (Instr.slice 44 (.slice (some ⟨g, 0, none⟩) F.length cap) (some (.int .i64 ((i : Int) + 1))) none none).run Try.prog w' = .ok (.slice ao m d) w') ∧
      ∀ W ty, Rw W g L → ∃ W', (Builtin.append_ #[44, 44] ty #[.slice (some ⟨g, 0, none⟩) i cap, .slice ao m d]).run Try.prog W = .ok (.slice (some ⟨g, 0, none⟩) (F.length - 1) cap) W' ∧ Rw W' g (sp L (i * 2) ((F.drop (i + 1)).map gcl).flatten) ∧ Rest g W W' := by
    have hd : (((F.drop (i + 1)).map gcl).flatten).length = (F.length - (i + 1)) * 2 := by rw [gfl, List.length_drop]
    by_cases hlast : i + 1 = F.length
    · refine ⟨_, _, _, fun w' => sl_tail (k := i + 1) (by omega) (by omega) hc w', fun W ty hW => ⟨W, ?_, ?_, Rest.refl _ _⟩⟩
      · rw [hlast, Nat.sub_self]
        have := hW.append0 ty i cap (cap - F.length) (if cap = F.length then some ⟨g, 0, none⟩ else some ⟨g, F.length * 2, none⟩) (by omega)
        rw [show F.length - 1 = i from by omega]
        exact this
      · have : F.drop (i + 1) = [] := List.drop_eq_nil_of_le (by omega)
        rw [this]
        simpa [sp] using hW
    · refine ⟨_, _, _, fun w' => sl_from (k := i + 1) (by omega) (by omega) hc (by omega) w', fun W ty hW => ?_⟩
      obtain ⟨W', h1, h2, h3⟩ := hW.append ty i cap (F.length - (i + 1)) (cap - (i + 1)) ⟨g, (i + 1) * 2, none⟩ ((F.drop (i + 1)).map gcl).flatten hd (src_of hW (fun j v e => by
        rw [← gfl_drop, ← hT, List.getElem?_drop] at e
        rw [List.getElem?_take] at e
        split at e
        · exact e
        · cases e)) (by omega) (by rw [hd, hL]; omega) (gcl_one _)
      rw [show i + (F.length - (i + 1)) = F.length - 1 from by omega] at h1
      exact ⟨W', h1, h2, h3⟩
  obtain ⟨ao, m, d, HS, HA⟩ := HA
  have H3 := fun w' => sl_three (g := g) (n := F.length) (c := cap) (k := i) (m := i + 1) (p := F.length) (x := i) (y := (i : Int) + 1) (z := F.length) rfl (by omega) rfl (by omega) (by omega) hc w'
  generalize Value.slice (if F.length = i then some (⟨g, 0, none⟩ : Addr) else some ⟨g, i * 2, none⟩) (i + 1 - i) (F.length - i) = v3 at H3
  have HU := fun w' => sl_upto (g := g) (n := F.length) (c := cap) (k := i) (x := i) rfl (by omega) w'
  have HC : Hid (∀ W ty, Rw W g (sp L (i * 2) ((F.drop (i + 1)).map gcl).flatten) → _) := fun W ty k => k.clear ty ((F.length - 1) * 2) (cap - (F.length - 1)) (by
    have hd : (((F.drop (i + 1)).map gcl).flatten).length = (F.length - (i + 1)) * 2 := by rw [gfl, List.length_drop]
    rw [sp_len (by omega)]; omega)
  replace HA : Hid _ := HA
  have g1 : ((i : Int) == (i : Int) + 1) = false := by simp; omega
  obtain ⟨N, hN⟩ : ∃ N, F.length - 1 = N := ⟨_, rfl⟩
  have hN2 : F.length = N + 1 := by omega
  have HW := fun w' => sl_two (g := g) (n := N) (c := cap) (k := N) (m := F.length) (x := N) (y := F.length) rfl rfl (by omega) hc (by omega) w'
  have e1 : F.length - N = 1 := by omega
  rw [e1] at HW
  rw [hN] at HA hF HC ⊢
  replace hN2 : Hid _ := hN2
  replace hN : Hid _ := hN
  have hC0 : Rw w.drew g L := hR.keep rfl
  have hR0 : Rest g w w.drew := Rest.of (Below.refl _ w).drew
  clear h hT hL hm e1
  go_enter Try.func68, Try.ntmps68
  go_upto_region 5 with fail
  go_region_held3 (fun _ => True) (trivial)
    (first | (obtain ⟨z1, k1, k2, k3⟩ := HA.out _ 44 hC0; refine step_app2 rfl (.tmp 22) (.tmp 25) 44 44 rfl (by simp [Act.eval, Act.put]) (by simp [Act.eval, Act.put]) k1 ?_))
  all_goals
    have hA := hR0.trans k3
    obtain ⟨z2, j1, j2, j3⟩ := HC.out z1 0 k2
    have hA2 := hA.trans j3
    clear HA k3 hC0 hA j3
    go_wp2
    go_ret
    exact ⟨rfl, hF.out _ j2, hA2⟩

end Go.Proofs.Ytmfoenhbldacfaa
