/- An append whose two slice types have unlike names; the walk of 'label.Norm' at the three tags 3, 1, 3. -/
import Derived.Test.YtghifjiohgninaaNorm
namespace Go.Proofs.Ytghifjiohgninaa
open Go.RowKit
set_option linter.unusedVariables false

theorem append_types {P : Program} {w : World} {t t2 e e2 ty : TypeId} {b : Option Addr} {n c : Nat} {x : Value} (ht : P.underlying t = some (.slice e)) (ht2 : P.underlying t2 = some (.slice e2)) :
    (Builtin.append_ #[t, t2] ty #[.slice b n c, x]).run P w = (Builtin.append_ #[t, t] ty #[.slice b n c, x]).run P w := by
  simp [Builtin.append_, run_underlying ht, run_underlying ht2]

theorem wpList_append_own2 {P : Program} (w : World) {ops : Array Oper} {rest : List Oper} {o : Oper} {a : Act} {Q : Exit → Act → World → Prop} (hgd : o.guard = none) (s x : Operand) (t t2 : TypeId)
    (ho : o.op = .call { callee := .builtin .append, args := #[s, x], argTypes := #[t, t2] })
    (base : Nat) (e e2 : TypeId) (i : TypeInfo) (z : Value) (size bytes : Nat) (ht : P.underlying t = some (.slice e)) (ht2 : P.underlying t2 = some (.slice e2)) (hi : P.info? e = some i) (hz : i.zero = some z)
    (hsize : i.size = size) (hby : i.bytes = bytes) (hzs : z.cells.size = size) (hsz : 0 < size)
    (v : Value) (n : Nat) (xs : List Value) (hs : a.eval s = v) (hown : w.ownsRow base e size v n xs)
    (ad : Addr) (m c : Nat) (news : List Value) (hx : a.eval x = .slice (some ad) m c) (hl : news.length = m * size) (hnews : ∀ j u, news[j]? = some u → w.cell? (ad.add j) = some u) (h1 : ∀ u ∈ news, u.oneCell' = true)
    (h63 : n + m ≤ maxLen) (hbytes : (n + m) * bytes ≤ 140737488355328) (hbase : base ≤ w.heap.size)
    (h : ∀ v' w', w'.ownsRow base e size v' (n + m) (xs ++ news) → w.grownBy w' v.ownBlock → (v' = .slice none 0 0 ↔ v = .slice none 0 0 ∧ m = 0) → wpList P ops Q rest (a.put o.dst v') w') : wpList P ops Q (o :: rest) a w := by
  refine wpList_plain hgd fun K hK => ?_
  obtain ⟨v', w', hr, h2, h3, h4⟩ := run_append_own (P := P) w base t o.type e i z size bytes ht hi hz hsize hby hzs hsz v n xs hown ad m c news hl hnews h1 h63 hbytes hbase
  obtain ⟨ab, an, ac, hv⟩ : ∃ b n c, v = .slice b n c := by
    rcases hown.2 with ⟨hv, _⟩ | ⟨g, cap, cur, hv, _⟩
    · exact ⟨_, _, _, hv⟩
    · exact ⟨_, _, _, hv⟩
  rw [hv, ← append_types ht ht2, ← hv] at hr
  unfold Oper.wp execOp
  simp only [ho, resolve, invoke, builtin, Sem.run_bind, Sem.run_pure, Result.andThen_ok, List.map_toArray, List.map_cons, List.map_nil, hs, hx, hr]
  exact hK _ _ (h v' w' h2 h3 h4)

set_option maxHeartbeats 1000000 in
theorem norm_313 (ad : Addr) (c : Nat) (w : World) (h : Rd .u16 w (some ad) 3 c [3, 1, 3]) :
    Calls Try.prog 17 #[.slice (some ad) 3 c] w fun e w' => ∃ oo q, e = .returned (.tuple #[.slice oo 2 q, .int .i64 0]) ∧ Rd .u16 w' oo 2 q [1, 3] ∧ Below w.heap.size w w' := by
  obtain ⟨i0, hi, hz0, hz1, hz2⟩ := info_parts Try.info33
  go_enter Try.func17, Try.ntmps17
  go_wp2_with fail
  refine (ordered_313 ad c w h).mono ?_
  rintro e w1 ⟨oo, q, rfl, hr, hb1⟩
  obtain ⟨b, o, rfl, _⟩ := hr.cells (by omega)
  have hsz := hb1.size
  go_wp2_with (at_builtin; refine wpList_append_own2 _ rfl (.const (.slice none 0 0)) (.tmp 10) 23 22 rfl w1.heap.size 33 33 i0 (.int .u16 0) 1 2 Try.underlying23 Try.underlying22 hi hz0 hz1 hz2 rfl (by decide) _ _ _ rfl (World.ownsRow_nil _ _ _ _) ⟨b, o, none⟩ 2 q ([1, 3].map (Value.int .u16)) rfl rfl hr.news (ints_one _ _) (by unfold maxLen; omega) (by omega) (by omega) ?_)
  intro v2 w2 hown2 hgrow2 _
  have hB2 : Below w.heap.size w w2 := hb1.trans (below_grown (Below.refl w.heap.size w1) (by omega) (World.ownsRow_nil w1 w1.heap.size 33 1) (by omega) hgrow2)
  clear hgrow2
  obtain ⟨o2, q2, hv, hrd⟩ := Rd.of_owns (k := .u16) (out := [1, 3]) (by simpa using hown2)
  rw [hv]
  clear hown2
  go_wp2
  go_ret2
  exact ⟨o2, q2, rfl, hrd, hB2⟩

end Go.Proofs.Ytghifjiohgninaa
