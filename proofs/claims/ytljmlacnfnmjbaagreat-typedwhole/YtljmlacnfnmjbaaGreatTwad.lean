import Derived.Test.YtljmlacnfnmjbaaGreatTwaa
import Derived.Deep.RegionLaw
import Derived.Test.YtljmlacnfnmjbaaGreatTwac
import Derived.Deep.RegionHeld3
namespace Go.Proofs.YtljmlacnfnmjbaaGreat
open Go.RowKit
set_option linter.unusedVariables false

theorem OwnR.sl {ty k B : Nat} {w : World} {v : Value} {css : List (List Value)} (h : OwnR ty k B w v css) : ∃ ao n c, v = .slice ao n c := by
  rcases h.2.2 with ⟨rfl, h0⟩ | ⟨gg, cap, cur, rfl, hrest⟩
  · exact ⟨_, _, _, rfl⟩
  · exact ⟨_, _, _, rfl⟩
theorem OwnR.nil (ty k B : Nat) (w : World) : OwnR ty k B w (.slice none 0 0) [] := ⟨fun cs h => by simp at h, by simp, .inl ⟨rfl, rfl⟩⟩
/-- A law for just this append. -/
theorem step_guard {P : Program} {Y : Nat → Option Bool} {o : Oper} {a : Act} {w : World} {K : Act → World → Prop} {Q : Exit → Act → World → Prop} {E : Prop} (s x : Operand) (t : TypeId)
    (h : o.op = Op.call { callee := Callee.builtin Builtin.append, args := #[s, x], argTypes := #[t, t] }) (g : if Region.wanted o Y = true then Oper.wp P o a w K Q else E) : if Region.wanted o Y = true then Oper.wp P o a w K Q else E := g
theorem step_appR {t ety : TypeId} {z : Value} {k bytes B : Nat} {ops : Array Oper} {o : Oper} {a : Act} {w : World} {K : Act → World → Prop} {Q : Exit → Act → World → Prop} {E : Prop}
    (hgd : o.guard = none) (s x : Operand) (ho : o.op = .call { callee := .builtin .append, args := #[s, x], argTypes := #[t, t] })
    (ht : Tryz.prog.underlying t = some (.slice ety)) (hinf : (Tryz.prog.info? ety).map (fun i => (i.zero, i.size, i.bytes)) = some (some z, k, bytes)) (hzs : z.cells.size = k) (hk : 0 < k) (hby : bytes ≤ 1000)
    (v : Value) (css : List (List Value)) (g : Nat) (cs : List Value) (hs : a.eval s = v) (hx : a.eval x = .slice (some ⟨g, 0, none⟩) 1 1)
    (hown : OwnR ety k B w v css) (hcs : cs.length = k) (h1 : ∀ u ∈ cs, u.oneCell' = true) (hcell : ∀ j (hj : j < cs.length), w.cell? ⟨g, j, none⟩ = some cs[j]) (hl : css.length ≤ 1000) (hB : B ≤ w.heap.size)
    (h : ∀ v' w', OwnR ety k B w' v' (css ++ [cs]) → w.grownBy w' v.ownBlock → (v'.ownBlock = v.ownBlock ∨ v'.ownBlock = some w.heap.size) → K (a.put o.dst v') w') :
    if Region.wanted o (yielded ops a.tmps) = true then Oper.wp Tryz.prog o a w K Q else E := by
  have hw : Region.wanted o (yielded ops a.tmps) = true := by simp [Region.wanted, hgd]
  rw [if_pos hw]
  obtain ⟨v', w', hr, h2, h3, h4⟩ := run_appR ht hinf hzs hk hby w v css g cs hown hcs h1 hcell hl hB (ty := o.type)
  unfold Oper.wp execOp
  simp only [ho, resolve, invoke, builtin, Sem.run_bind, Sem.run_pure, Result.andThen_ok, List.map_toArray, List.map_cons, List.map_nil, hs, hx, hr]
  exact h v' w' h2 h3 h4
theorem new3 (w : World) (a b c : Value) (ty : TypeId) : ∀ j (hj : j < [a, b, c].length), (w.alloc (.cells #[a, b, c] ty)).cell? ⟨w.heap.size, j, none⟩ = some [a, b, c][j] := by
  intro j hj
  have hj' : j < 3 := hj
  match j, hj' with
  | 0, _ => exact cell_new w _ _ _ 0
  | 1, _ => exact cell_new w _ _ _ 1
  | 2, _ => exact cell_new w _ _ _ 2
theorem new7 (w : World) (a b c d e f h : Value) (ty : TypeId) : ∀ j (hj : j < [a, b, c, d, e, f, h].length), (w.alloc (.cells #[a, b, c, d, e, f, h] ty)).cell? ⟨w.heap.size, j, none⟩ = some [a, b, c, d, e, f, h][j] := by
  intro j hj
  have hj' : j < 7 := hj
  match j, hj' with
  | 0, _ => exact cell_new w _ _ _ 0
  | 1, _ => exact cell_new w _ _ _ 1
  | 2, _ => exact cell_new w _ _ _ 2
  | 3, _ => exact cell_new w _ _ _ 3
  | 4, _ => exact cell_new w _ _ _ 4
  | 5, _ => exact cell_new w _ _ _ 5
  | 6, _ => exact cell_new w _ _ _ 6
theorem one_item (k : Int) (a b : ByteArray) : ∀ u ∈ ([.int .i64 k, .string a, .string b] : List Value), u.oneCell' = true := by simp [Value.oneCell']
end Go.Proofs.YtljmlacnfnmjbaaGreat
namespace Go.Proofs.YtljmlacnfnmjbaaGreat
open Go.RowKit
set_option linter.unusedVariables false

theorem new1 (w : World) (a : Value) (ty : TypeId) : ∀ j (hj : j < [a].length), (w.alloc (.cells #[a] ty)).cell? ⟨w.heap.size, j, none⟩ = some [a][j] := by
  intro j hj
  have hj' : j < 1 := hj
  match j, hj' with
  | 0, _ => exact cell_new w _ _ _ 0
end Go.Proofs.YtljmlacnfnmjbaaGreat
namespace Go.Proofs.YtljmlacnfnmjbaaGreat
open Go.RowKit
set_option linter.unusedVariables false

/-- A table: its name, its columns. -/
abbrev Tab := ByteArray × List Co
/-- A row of three columns that was just made. -/
theorem cols_new (w : World) (a1 b1 a2 b2 a3 b3 : ByteArray) (k1 k2 k3 : Int) {Q : Nat → Prop} {w' : World} (hb : Below (w.heap.size + 1) (w.alloc (.cells #[.string a1, .int .i64 k1, .string b1, .string a2, .int .i64 k2, .string b2, .string a3, .int .i64 k3, .string b3] 84)) w') (hq : Q w.heap.size) :
    RowIs eCol Q w' (.slice (some ⟨w.heap.size, 0, none⟩) 3 3) [(a1, k1, b1), (a2, k2, b2), (a3, k3, b3)] := by
  have hc : ∀ j, j < 9 → w'.cell? ⟨w.heap.size, j, none⟩ = (#[.string a1, .int .i64 k1, .string b1, .string a2, .int .i64 k2, .string b2, .string a3, .int .i64 k3, .string b3] : Array Value)[j]? := fun j hj =>
    (World.cell?_of_block (a := ⟨w.heap.size, j, none⟩) (hb.block _ (by simp))).trans (cell_new w _ _ _ j)
  refine ⟨_, 3, 3, rfl, rfl, Nat.le_refl _, by omega, fun _ => ⟨w.heap.size, 0, rfl, hq, fun i hi => ?_⟩⟩
  have hi' : i < 3 := hi
  match i, hi' with
  | 0, _ => exact ⟨[.string a1, .int .i64 k1, .string b1], rfl, rfl, fun j hj => by
      have hj' : j < 3 := hj
      match j, hj' with
      | 0, _ => exact hc 0 (by decide)
      | 1, _ => exact hc 1 (by decide)
      | 2, _ => exact hc 2 (by decide)⟩
  | 1, _ => exact ⟨[.string a2, .int .i64 k2, .string b2], rfl, rfl, fun j hj => by
      have hj' : j < 3 := hj
      match j, hj' with
      | 0, _ => exact hc 3 (by decide)
      | 1, _ => exact hc 4 (by decide)
      | 2, _ => exact hc 5 (by decide)⟩
  | 2, _ => exact ⟨[.string a3, .int .i64 k3, .string b3], rfl, rfl, fun j hj => by
      have hj' : j < 3 := hj
      match j, hj' with
      | 0, _ => exact hc 6 (by decide)
      | 1, _ => exact hc 7 (by decide)
      | 2, _ => exact hc 8 (by decide)⟩

end Go.Proofs.YtljmlacnfnmjbaaGreat
namespace Go.Proofs.YtljmlacnfnmjbaaGreat
open Go.RowKit
set_option linter.unusedVariables false

theorem Tryz.infoTInt : (Tryz.prog.info? 3).map (fun i => (i.zero, i.size, i.bytes)) = some (some (.int .i64 0), 1, 8) := by kernel_rfl
/-- Two rows of the call's own, apart from each other. -/
def Apart (u v : Value) : Prop := ∀ b, u.ownBlock = some b → v.ownBlock ≠ some b
theorem OwnR.later {ty k B : Nat} {w w' : World} {v : Value} {css : List (List Value)} (h : OwnR ty k B w v css) (hb : Below w.heap.size w w') : OwnR ty k B w' v css := by
  refine ⟨h.1, h.2.1, ?_⟩
  rcases h.2.2 with k | ⟨b, cap, cur, hv, hg', hh, r⟩
  · exact .inl k
  · exact .inr ⟨b, cap, cur, hv, hg', by rw [hb.block b (Array.getElem?_eq_some_iff.1 hh).1]; exact hh, r⟩
theorem OwnR.far {ty k B : Nat} {w w' : World} {v u : Value} {css : List (List Value)} (h : OwnR ty k B w v css) (hg : w.grownBy w' u.ownBlock) (ha : Apart u v) : OwnR ty k B w' v css := by
  refine ⟨h.1, h.2.1, ?_⟩
  rcases h.2.2 with k | ⟨b, cap, cur, rfl, hg', hh, r⟩
  · exact .inl k
  · exact .inr ⟨b, cap, cur, rfl, hg', by rw [hg.block b (Array.getElem?_eq_some_iff.1 hh).1 (fun e => ha b e.symm rfl)]; exact hh, r⟩
theorem Apart.symm {u v : Value} (h : Apart u v) : Apart v u := fun b hb hu => h b hu hb
/-- A row that grew is apart from one that lay there. -/
theorem Apart.grew {ty k B : Nat} {w : World} {u u' v : Value} {css : List (List Value)} (h : Apart u v) (hv : OwnR ty k B w v css) (hu : u'.ownBlock = u.ownBlock ∨ u'.ownBlock = some w.heap.size) : Apart u' v := by
  intro b hb hvb
  rcases hu with e | e
  · rw [e] at hb; exact h b hb hvb
  · rw [e] at hb
    cases hb
    have := (hv.blk _ hvb).2
    omega

theorem one_int (k : Int) : ∀ u ∈ ([.int .i64 k] : List Value), u.oneCell' = true := by simp [Value.oneCell']
theorem OwnR.base {ty k B B' : Nat} {w : World} {v : Value} {css : List (List Value)} (h : OwnR ty k B w v css) (hb : B' ≤ B) : OwnR ty k B' w v css := by
  refine ⟨h.1, h.2.1, ?_⟩
  rcases h.2.2 with k | ⟨b, cap, cur, hv, hg', r⟩
  · exact .inl k
  · exact .inr ⟨b, cap, cur, hv, by omega, r⟩
theorem new1_at {w : World} {a : Value} {ty : TypeId} {b : Nat} (hb : w.heap.size = b) : ∀ j (hj : j < [a].length), (w.alloc (.cells #[a] ty)).cell? ⟨b, j, none⟩ = some [a][j] := by subst hb; exact new1 w a ty
theorem new3_at {w : World} {x y z : Value} {ty : TypeId} {b : Nat} (hb : w.heap.size = b) : ∀ j (hj : j < [x, y, z].length), (w.alloc (.cells #[x, y, z] ty)).cell? ⟨b, j, none⟩ = some [x, y, z][j] := by subst hb; exact new3 w x y z ty
theorem past_new {w : World} {o : Obj} {b : Nat} {cs : List Value} (h : ∀ j (hj : j < cs.length), w.cell? ⟨b, j, none⟩ = some cs[j]) : ∀ j (hj : j < cs.length), (w.alloc o).cell? ⟨b, j, none⟩ = some cs[j] := fun j hj => cell_later (bal (Below.refl _ w) o) (h j hj)
theorem far_new {w w' : World} {row : Option Nat} {b : Nat} {cs : List Value} (hg : w.grownBy w' row) (h : ∀ j (hj : j < cs.length), w.cell? ⟨b, j, none⟩ = some cs[j]) (hr : row ≠ some b) : ∀ j (hj : j < cs.length), w'.cell? ⟨b, j, none⟩ = some cs[j] := fun j hj =>
  (World.cell?_of_block (a := ⟨b, j, none⟩) (hg.block b (World.block_lt_of_cell? _ _ (h j hj)) fun e => hr e.symm)).trans (h j hj)
set_option maxRecDepth 100000 in
set_option maxHeartbeats 8000000 in
theorem playCols_any {Q : Nat → Prop} {w : World} {a a' : Option Addr} {n c n' c' : Nat} {nm : ByteArray} {cs : List Co} (h : RowIs eCol Q w (.slice a n c) cs) (hn : cs.length ≤ 50) :
    Calls Tryz.prog 20 #[.agg #[.string nm, .slice a n c, .slice a' n' c']] w fun e w' => ∃ v1 v2, e = .returned (.tuple #[v1, v2]) ∧ OwnR 66 3 w.heap.size w' v1 (cs.map fun x => itC (0, nm, x.1)) ∧ OwnR 3 1 w.heap.size w' v2 (cs.map fun x => [.int .i64 x.2.1]) ∧ Apart v1 v2 ∧ Below w.heap.size w w' := by
  have hl : n = cs.length := by obtain ⟨ao, n', c', hv, hl, _⟩ := h; cases hv; exact hl.symm
  subst hl
  have HK : Hid (∀ k (hk : k < cs.length), ∃ b o x, cs[k] = x ∧ a = some ⟨b, o, none⟩ ∧ b < w.heap.size ∧ (w.cell? ⟨b, o + k * 3, none⟩ = some (.string x.1) ∧ w.cell? ⟨b, o + k * 3 + 1, none⟩ = some (.int .i64 x.2.1))) := hid fun k hk => by
    obtain ⟨ao, n', c', hv, hl, hn, hc, hx⟩ := h
    cases hv
    obtain ⟨b, o, ha, _, hi⟩ := hx (by omega)
    obtain ⟨xs, hcs, _, hc⟩ := hi k hk
    have hcs' : xs = [.string cs[k].1, .int .i64 cs[k].2.1, .string cs[k].2.2] := hcs
    subst hcs'
    have q0 := hc 0 (show 0 < 3 by decide)
    exact ⟨b, o, _, rfl, ha, World.block_lt_of_cell? _ _ q0, q0, hc 1 (show 1 < 3 by decide)⟩
  have bT : (w.alloc (.cells #[.string nm, .slice a cs.length c, .slice a' n' c'] 58)).cell? ⟨w.heap.size, 0, none⟩ = some (.string nm) ∧ (w.alloc (.cells #[.string nm, .slice a cs.length c, .slice a' n' c'] 58)).cell? ⟨w.heap.size, 1, none⟩ = some (.slice a cs.length c) := ⟨cell_new w _ _ _ 0, cell_new w _ _ _ 1⟩
  have hB0 := bal (Below.refl _ w) (.cells #[.string nm, .slice a cs.length c, .slice a' n' c'] 58)
  clear h
  go_enter Tryz.func20, Tryz.ntmps20
  go_wp2
  generalize hW : w.alloc (.cells #[.string nm, .slice a cs.length c, .slice a' n' c'] 58) = W at *
  have hWs : W.heap.size = w.heap.size + 1 := by rw [← hW]; simp
  clear hW
  go_loopw [4, 5, 6] (fun v u i wr => ∃ k : Nat, k ≤ cs.length ∧ i = .int .i64 k ∧ OwnR 66 3 W.heap.size wr v ((cs.take k).map fun x => itC (0, nm, x.1)) ∧ OwnR 3 1 W.heap.size wr u ((cs.take k).map fun x => [.int .i64 x.2.1]) ∧ Apart v u ∧ Below W.heap.size W wr) (fun _ _ i _ => cs.length - (intOf i).toNat)
  case atStart => exact ⟨0, Nat.zero_le _, rfl, OwnR.nil _ _ _ _, OwnR.nil _ _ _ _, fun b hb => by simp [Value.ownBlock] at hb, Below.refl _ _⟩
  case round =>
    obtain ⟨k, hk, rfl, ho1, ho2, hap, hb⟩ := hrel
    have c1 : wr.cell? ⟨w.heap.size, 1, none⟩ = some (.slice a cs.length c) := cell_later hb bT.2
    have c0 : wr.cell? ⟨w.heap.size, 0, none⟩ = some (.string nm) := cell_later hb bT.1
    by_cases hlt : k < cs.length
    · obtain ⟨b, o, x, hx, rfl, hbl, q0, q1⟩ := HK.out k hlt
      have hbw : Below w.heap.size w wr := Below.on hB0 hb
      replace q0 := cell_later hbw q0
      replace q1 := cell_later hbw q1
      have HS : Hid (cs.take (k + 1) = cs.take k ++ [x]) := hid (by rw [List.take_succ_eq_append_getElem hlt, hx])
      have i0 : (0 : Int) ≤ (k : Int) := by omega
      have i1 : (k : Int) < (cs.length : Int) := by omega
      have hl1 : ((cs.take k).map fun x => itC (0, nm, x.1)).length ≤ 50 := by rw [List.length_map, List.length_take]; omega
      have hl2 : ((cs.take k).map fun x => [Value.int .i64 x.2.1]).length ≤ 50 := by rw [List.length_map, List.length_take]; omega
      have HO1 : Hid (∀ w', Below wr.heap.size wr w' → _) := hid fun w' hb' => ho1.later hb'
      have HO2 : Hid (∀ w', Below wr.heap.size wr w' → _) := hid fun w' hb' => ho2.later hb'
      have HZ : Hid (W.heap.size ≤ wr.heap.size) := hid hb.size
      obtain ⟨cn, ck, cr⟩ := x
      simp only at q0 q1
      clear HK hx
      go_upto_region 6 with fail
      have HKs : Hid (∀ w', Below W.heap.size W w' → w'.cell? ⟨w.heap.size, 0, none⟩ = some (.string nm) ∧ w'.cell? ⟨w.heap.size, 1, none⟩ = some (.slice (some ⟨b, o, none⟩) cs.length c) ∧ w'.cell? ⟨b, o + k * 3, none⟩ = some (.string cn) ∧ w'.cell? ⟨b, o + k * 3 + 1, none⟩ = some (.int .i64 ck)) := hid fun w' hb' => by
        have keepC : ∀ (p : Addr) v, p.block < W.heap.size → wr.cell? p = some v → w'.cell? p = some v := fun p v hp hc => (World.cell?_of_block ((hb'.block p.block hp).trans (hb.block p.block hp).symm)).trans hc
        exact ⟨keepC _ _ (by show w.heap.size < W.heap.size; omega) c0, keepC _ _ (by show w.heap.size < W.heap.size; omega) c1, keepC _ _ (by show b < W.heap.size; omega) q0, keepC _ _ (by show b < W.heap.size; omega) q1⟩
      have hbd : Below W.heap.size W wr.drew := hb.drew
      have ho1d : OwnR 66 3 W.heap.size wr.drew u4 ((cs.take k).map fun x => itC (0, nm, x.1)) := ho1.later (Below.refl _ wr).drew
      have ho2d : OwnR 3 1 W.heap.size wr.drew u5 ((cs.take k).map fun x => [.int .i64 x.2.1]) := ho2.later (Below.refl _ wr).drew
      have hblk1 := ho1.blk
      have hblk2 := ho2.blk
      have hds : wr.drew.heap.size = wr.heap.size := rfl
      obtain ⟨css1, E1⟩ : ∃ css1, Hid (((cs.take k).map fun x => itC (0, nm, x.1)) = css1) := ⟨_, hid rfl⟩
      obtain ⟨css2, E2⟩ : ∃ css2, Hid (((cs.take k).map fun x => [Value.int .i64 x.2.1]) = css2) := ⟨_, hid rfl⟩
      rw [E1.out] at ho1d hl1
      rw [E2.out] at ho2d hl2
      clear HO1 HO2 bT HZ ho1 ho2
      go_region_held3 (fun w' => w'.cell? ⟨w.heap.size, 0, none⟩ = some (.string nm) ∧ w'.cell? ⟨w.heap.size, 1, none⟩ = some (.slice (some ⟨b, o, none⟩) cs.length c) ∧ w'.cell? ⟨b, o + k * 3, none⟩ = some (.string cn) ∧ w'.cell? ⟨b, o + k * 3 + 1, none⟩ = some (.int .i64 ck)) (first | exact HKs.out _ finB | exact HKs.out _ hbI | exact HKs.out _ (bal hbI _) | exact HKs.out _ hbK | exact HKs.out _ (bal hbK _) | exact HKs.out _ hbd | exact HKs.out _ (bal hbd _) | exact HKs.out _ (bal (bal hbd _) _))
        ((first
            | (have hxI := hgI; clear hxI; refine step_guard (.tmp 26) (.tmp 33) 23 ?_ ?_; (exact rfl); refine step_appR (B := W.heap.size) (by rfl) (.tmp 26) (.tmp 33) (by rfl) Tryz.underlying23 Tryz.infoTInt rfl (by decide) (by decide) u5 css2 _ [.int .i64 ck] (by rfl) (by rfl) (by first | exact hoKI | exact hoKI.alloc _) rfl (one_int _) (by first | exact new1_at (by first | rfl | simp) | exact far_new hgI (new1_at (by first | rfl | simp)) (fun e => by have h9 := (hblk1 _ e).2; (try simp only [World.size_alloc] at h9); (try rw [hds] at h9); omega) | exact far_new hgI (past_new (new1_at (by first | rfl | simp))) (fun e => by have h9 := (hblk1 _ e).2; (try simp only [World.size_alloc] at h9); (try rw [hds] at h9); omega)) (by omega) (by first | exact hbI.size | exact (bal hbI _).size) ?_; intro vK wK hOK hgK hownK; have finB : Below W.heap.size W wK := (by first | exact below_grows hbI hbI.size hgK (fun k e => (hoKI.blk k e).1) | exact below_grows (bal hbI _) (bal hbI _).size hgK (fun k e => (hoKI.blk k e).1)); have finI := (by first | exact hOI.far hgK apI.symm | exact (hOI.alloc _).far hgK apI.symm : OwnR _ _ W.heap.size wK vI _); have finK := hOK; have finA : Apart vK vI := (by first | exact Apart.grew apI.symm hOI hownK | exact Apart.grew apI.symm (hOI.alloc _) hownK))
            | (have hxK := hgK; clear hxK; refine step_guard (.tmp 14) (.tmp 24) 22 ?_ ?_; (exact rfl); refine step_appR (B := W.heap.size) (by rfl) (.tmp 14) (.tmp 24) (by rfl) Tryz.underlying22 Tryz.infoTItem rfl (by decide) (by decide) u4 css1 _ [.int .i64 0, .string nm, .string cn] (by rfl) (by rfl) (by first | exact hoIK | exact hoIK.alloc _) rfl (one_item _ _ _) (by first | exact new3_at (by first | rfl | simp) | exact far_new hgK (new3_at (by first | rfl | simp)) (fun e => by have h9 := (hblk2 _ e).2; (try simp only [World.size_alloc] at h9); (try rw [hds] at h9); omega) | exact far_new hgK (past_new (new3_at (by first | rfl | simp))) (fun e => by have h9 := (hblk2 _ e).2; (try simp only [World.size_alloc] at h9); (try rw [hds] at h9); omega)) (by omega) (by first | exact hbK.size | exact (bal hbK _).size) ?_; intro vI wI hOI hgI hownI; have finB : Below W.heap.size W wI := (by first | exact below_grows hbK hbK.size hgI (fun k e => (hoIK.blk k e).1) | exact below_grows (bal hbK _) (bal hbK _).size hgI (fun k e => (hoIK.blk k e).1)); have finK := (by first | exact hOK.far hgI apK.symm | exact (hOK.alloc _).far hgI apK.symm : OwnR _ _ W.heap.size wI vK _); have finI := hOI; have finA : Apart vI vK := (by first | exact Apart.grew apK.symm hOK hownI | exact Apart.grew apK.symm (hOK.alloc _) hownI))
            | (refine step_guard (.tmp 14) (.tmp 24) 22 ?_ ?_; (exact rfl); refine step_appR (B := W.heap.size) (by rfl) (.tmp 14) (.tmp 24) (by rfl) Tryz.underlying22 Tryz.infoTItem rfl (by decide) (by decide) u4 css1 _ [.int .i64 0, .string nm, .string cn] (by rfl) (by rfl) (by first | exact ho1d.alloc _ | exact (ho1d.alloc _).alloc _) rfl (one_item _ _ _) (by first | exact new3_at (by first | rfl | simp) | exact past_new (new3_at (by first | rfl | simp))) (by omega) (by first | exact (bal hbd _).size | exact (bal (bal hbd _) _).size) ?_; intro vI wI hOI hgI hownI; have hbI : Below W.heap.size W wI := (by first | exact below_grows (bal hbd _) (bal hbd _).size hgI (fun k e => (hblk1 k e).1) | exact below_grows (bal (bal hbd _) _) (bal (bal hbd _) _).size hgI (fun k e => (hblk1 k e).1)); have hoKI : OwnR 3 1 W.heap.size wI u5 css2 := (by first | exact (ho2d.alloc _).far hgI hap | exact ((ho2d.alloc _).alloc _).far hgI hap); have apI : Apart vI u5 := (by first | exact Apart.grew hap (ho2d.alloc _) hownI | exact Apart.grew hap ((ho2d.alloc _).alloc _) hownI))
            | (refine step_guard (.tmp 26) (.tmp 33) 23 ?_ ?_; (exact rfl); refine step_appR (B := W.heap.size) (by rfl) (.tmp 26) (.tmp 33) (by rfl) Tryz.underlying23 Tryz.infoTInt rfl (by decide) (by decide) u5 css2 _ [.int .i64 ck] (by rfl) (by rfl) (by first | exact ho2d.alloc _ | exact (ho2d.alloc _).alloc _) rfl (one_int _) (by first | exact new1_at (by first | rfl | simp) | exact past_new (new1_at (by first | rfl | simp))) (by omega) (by first | exact (bal hbd _).size | exact (bal (bal hbd _) _).size) ?_; intro vK wK hOK hgK hownK; have hbK : Below W.heap.size W wK := (by first | exact below_grows (bal hbd _) (bal hbd _).size hgK (fun k e => (hblk2 k e).1) | exact below_grows (bal (bal hbd _) _) (bal (bal hbd _) _).size hgK (fun k e => (hblk2 k e).1)); have hoIK : OwnR 66 3 W.heap.size wK u4 css1 := (by first | exact (ho1d.alloc _).far hgK hap.symm | exact ((ho1d.alloc _).alloc _).far hgK hap.symm); have apK : Apart vK u4 := (by first | exact Apart.grew hap.symm (ho1d.alloc _) hownK | exact Apart.grew hap.symm ((ho1d.alloc _).alloc _) hownK))))
      all_goals
        have F1 : Hid _ := hid finI
        have F2 : Hid _ := hid finK
        have F3 : Hid _ := hid finA
        have F4 : Hid _ := hid finB
        go_wp2
        go_roundw
        case rel =>
          refine ⟨k + 1, by omega, by go_num, ?_, ?_, by first | exact F3.out | exact F3.out.symm, F4.out⟩
          · rw [HS.out, List.map_append, E1.out]; exact F1.out
          · rw [HS.out, List.map_append, E2.out]; exact F2.out
        case measure => simp only [intOf]; omega
    · obtain rfl : k = cs.length := by omega
      rw [List.take_length] at ho1 ho2
      clear HK
      obtain ⟨x1, y1, z1, rfl⟩ := ho1.sl
      obtain ⟨x2, y2, z2, rfl⟩ := ho2.sl
      go_wp2
      go_ret2
      exact ⟨_, _, rfl, ho1.base (by omega), ho2.base (by omega), hap, Below.on hB0 hb⟩

end Go.Proofs.YtljmlacnfnmjbaaGreat
namespace Go.Proofs.YtljmlacnfnmjbaaGreat
open Go.RowKit
set_option linter.unusedVariables false

/-- A row of the call's own, read. -/
theorem OwnR.cell {ty k B : Nat} {w : World} {b cap n : Nat} {css : List (List Value)} (h : OwnR ty k B w (.slice (some ⟨b, 0, none⟩) n cap) css) {j : Nat} {u : Value} (hj : css.flatten[j]? = some u) : w.cell? ⟨b, j, none⟩ = some u := by
  rcases h.2.2 with ⟨e, _⟩ | ⟨b', cap', cur, e, _⟩
  · cases e
  · cases e
    have hlt : j < css.length * k := by
      have := (List.getElem?_eq_some_iff.1 hj).1
      rwa [h.2.1] at this
    rw [World.ownsRow.cellAt h.2 j hlt, hj]
theorem run_appN {t ty e : TypeId} {z : Value} {k bytes B : Nat} (ht : Tryz.prog.underlying t = some (.slice e)) (hinf : (Tryz.prog.info? e).map (fun i => (i.zero, i.size, i.bytes)) = some (some z, k, bytes)) (hzs : z.cells.size = k) (hk : 0 < k) (hby : bytes ≤ 1000)
    (w : World) (v u : Value) (css css2 : List (List Value)) (hown : OwnR e k B w v css) (hown2 : OwnR e k B w u css2) (hne : css2 ≠ []) (h1 : ∀ u ∈ css2.flatten, u.oneCell' = true) (hl : css.length + css2.length ≤ 1000) (hB : B ≤ w.heap.size) :
    ∃ v' w', (Builtin.append_ #[t, t] ty #[v, u]).run Tryz.prog w = .ok v' w' ∧ OwnR e k B w' v' (css ++ css2) ∧ w.grownBy w' v.ownBlock ∧ (v'.ownBlock = v.ownBlock ∨ v'.ownBlock = some w.heap.size) := by
  obtain ⟨i, hi, hz, hsz, hb⟩ := info_parts hinf
  rcases id hown2.2.2 with ⟨rfl, h0⟩ | ⟨b, cap, cur, rfl, hrest⟩
  · exact absurd (List.eq_nil_of_length_eq_zero h0) hne
  obtain ⟨v', w', hr, h2, h3, _, h5⟩ := run_append_own_at (P := Tryz.prog) w B t ty e i z k bytes ht hi hz hsz hb hzs hk v css.length _ hown.2 ⟨b, 0, none⟩ css2.length cap css2.flatten hown2.2.1
    (by
      intro j u hj
      have e : (⟨b, 0, none⟩ : Addr).add j = ⟨b, j, none⟩ := by unfold Addr.add; split <;> simp_all
      rw [e]
      exact hown2.cell hj)
    h1 (by unfold maxLen; omega) (by have : (css.length + css2.length) * bytes ≤ 1000 * 1000 := Nat.mul_le_mul hl hby; omega) hB
  refine ⟨v', w', hr, ⟨?_, ?_⟩, h3, h5⟩
  · intro c hc
    rw [List.mem_append] at hc
    rcases hc with hc | hc
    · exact hown.1 c hc
    · exact hown2.1 c hc
  · rw [List.length_append, List.flatten_append]; exact h2
theorem wpList_appN {t e : TypeId} {z : Value} {k bytes B : Nat} (ht : Tryz.prog.underlying t = some (.slice e)) (hinf : (Tryz.prog.info? e).map (fun i => (i.zero, i.size, i.bytes)) = some (some z, k, bytes)) (hzs : z.cells.size = k) (hk : 0 < k) (hby : bytes ≤ 1000)
    {w : World} {ops : Array Oper} {rest : List Oper} {o : Oper} {a : Act} {Q : Exit → Act → World → Prop} (hgd : o.guard = none) (s x : Operand)
    (ho : o.op = .call { callee := .builtin .append, args := #[s, x], argTypes := #[t, t] }) (v u : Value) (css css2 : List (List Value)) (hs : a.eval s = v) (hx : a.eval x = u)
    (hown : OwnR e k B w v css) (hown2 : OwnR e k B w u css2) (hne : css2 ≠ []) (h1 : ∀ u ∈ css2.flatten, u.oneCell' = true) (hl : css.length + css2.length ≤ 1000) (hB : B ≤ w.heap.size)
    (h : ∀ v' w', OwnR e k B w' v' (css ++ css2) → w.grownBy w' v.ownBlock → (v'.ownBlock = v.ownBlock ∨ v'.ownBlock = some w.heap.size) → wpList Tryz.prog ops Q rest (a.put o.dst v') w') : wpList Tryz.prog ops Q (o :: rest) a w :=
  wpList_plain hgd fun _ hK => by
    obtain ⟨v', w', hr, h2, h3, h4⟩ := run_appN ht hinf hzs hk hby w v u css css2 hown hown2 hne h1 hl hB (ty := o.type)
    unfold Oper.wp execOp
    simp only [ho, resolve, invoke, builtin, Sem.run_bind, Sem.run_pure, Result.andThen_ok, List.map_toArray, List.map_cons, List.map_nil, hs, hx, hr]
    exact hK _ _ (h v' w' h2 h3 h4)
end Go.Proofs.YtljmlacnfnmjbaaGreat
