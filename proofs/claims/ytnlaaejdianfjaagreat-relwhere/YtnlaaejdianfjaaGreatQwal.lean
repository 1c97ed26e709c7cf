import Derived.Test.YtnlaaejdianfjaaGreatQwaj
import Derived.Test.YtnlaaejdianfjaaGreatQwac
namespace Go.Proofs.YtnlaaejdianfjaaGreat
open Go.RowKit
set_option linter.unusedVariables false

theorem Tryz.infoTInt : (Tryz.prog.info? 3).map (fun i => (i.zero, i.size, i.bytes)) = some (some (.int .i64 0), 1, 8) := by kernel_rfl
/-- Two rows of the call's own, apart from each other. -/
def Apart (u v : Value) : Prop := ∀ b, u.ownBlock = some b → v.ownBlock ≠ some b
theorem OwnR.far {ty k B : Nat} {w w' : World} {v u : Value} {css : List (List Value)} (h : OwnR ty k B w v css) (hg : w.grownBy w' u.ownBlock) (ha : Apart u v) : OwnR ty k B w' v css := by
  refine ⟨h.1, h.2.1, ?_⟩
  rcases h.2.2 with k | ⟨b, cap, cur, rfl, hg', hh, r⟩
  · exact .inl k
  · exact .inr ⟨b, cap, cur, rfl, hg', by rw [hg.block b (Array.getElem?_eq_some_iff.1 hh).1 (fun e => ha b e.symm rfl)]; exact hh, r⟩
theorem Apart.symm {u v : Value} (h : Apart u v) : Apart v u := fun b hb hu => h b hu hb
/-- A row that grew is apart from one that lay there. -/
theorem Apart.grew {ty k B : Nat} {w : World} {u u' v : Value} {css : List (List Value)} (h : Apart u v) (hv : OwnR ty k B w v css) (hu : u'.ownBlock = u.ownBlock ∨ u'.ownBlock = some w.heap.size) : Apart u' v := by
  intro b hb hvb
  rcases hu with e | e
  · rw [e] at hb; exact h b hb hvb
  · rw [e] at hb
    cases hb
    have := (hv.blk _ hvb).2
    omega

theorem one_int (k : Int) : ∀ u ∈ ([.int .i64 k] : List Value), u.oneCell' = true := by simp [Value.oneCell']
theorem OwnR.base {ty k B B' : Nat} {w : World} {v : Value} {css : List (List Value)} (h : OwnR ty k B w v css) (hb : B' ≤ B) : OwnR ty k B' w v css := by
  refine ⟨h.1, h.2.1, ?_⟩
  rcases h.2.2 with k | ⟨b, cap, cur, hv, hg', r⟩
  · exact .inl k
  · exact .inr ⟨b, cap, cur, hv, by omega, r⟩
theorem new1_at {w : World} {a : Value} {ty : TypeId} {b : Nat} (hb : w.heap.size = b) : ∀ j (hj : j < [a].length), (w.alloc (.cells #[a] ty)).cell? ⟨b, j, none⟩ = some [a][j] := by subst hb; exact new1 w a ty
theorem new3_at {w : World} {x y z : Value} {ty : TypeId} {b : Nat} (hb : w.heap.size = b) : ∀ j (hj : j < [x, y, z].length), (w.alloc (.cells #[x, y, z] ty)).cell? ⟨b, j, none⟩ = some [x, y, z][j] := by subst hb; exact new3 w x y z ty
theorem past_new {w : World} {o : Obj} {b : Nat} {cs : List Value} (h : ∀ j (hj : j < cs.length), w.cell? ⟨b, j, none⟩ = some cs[j]) : ∀ j (hj : j < cs.length), (w.alloc o).cell? ⟨b, j, none⟩ = some cs[j] := fun j hj => cell_later (bal (Below.refl _ w) o) (h j hj)
theorem far_new {w w' : World} {row : Option Nat} {b : Nat} {cs : List Value} (hg : w.grownBy w' row) (h : ∀ j (hj : j < cs.length), w.cell? ⟨b, j, none⟩ = some cs[j]) (hr : row ≠ some b) : ∀ j (hj : j < cs.length), w'.cell? ⟨b, j, none⟩ = some cs[j] := fun j hj =>
  (World.cell?_of_block (a := ⟨b, j, none⟩) (hg.block b (World.block_lt_of_cell? _ _ (h j hj)) fun e => hr e.symm)).trans (h j hj)
set_option maxRecDepth 100000 in
set_option maxHeartbeats 8000000 in
theorem playCols_any {Q : Nat → Prop} {w : World} {a a' : Option Addr} {n c n' c' : Nat} {nm : ByteArray} {cs : List Co} (h : RowIs eCol Q w (.slice a n c) cs) (hn : cs.length ≤ 50) :
    Calls Tryz.prog 20 #[.agg #[.string nm, .slice a n c, .slice a' n' c']] w fun e w' => ∃ v1 v2, e = .returned (.tuple #[v1, v2]) ∧ OwnR 50 3 w.heap.size w' v1 (cs.map fun x => itC (0, nm, x.1)) ∧ OwnR 3 1 w.heap.size w' v2 (cs.map fun x => [.int .i64 x.2.1]) ∧ Apart v1 v2 ∧ Below w.heap.size w w' := by
  have hl : n = cs.length := by obtain ⟨ao, n', c', hv, hl, _⟩ := h; cases hv; exact hl.symm
  subst hl
  have HK : Hid (∀ k (hk : k < cs.length), ∃ b o x, cs[k] = x ∧ a = some ⟨b, o, none⟩ ∧ b < w.heap.size ∧ (w.cell? ⟨b, o + k * 3, none⟩ = some (.string x.1) ∧ w.cell? ⟨b, o + k * 3 + 1, none⟩ = some (.int .i64 x.2.1))) := hid fun k hk => by
    obtain ⟨ao, n', c', hv, hl, hn, hc, hx⟩ := h
    cases hv
    obtain ⟨b, o, ha, _, hi⟩ := hx (by omega)
    obtain ⟨xs, hcs, _, hc⟩ := hi k hk
    have hcs' : xs = [.string cs[k].1, .int .i64 cs[k].2.1, .string cs[k].2.2] := hcs
    subst hcs'
    have q0 := hc 0 (show 0 < 3 by decide)
    exact ⟨b, o, _, rfl, ha, World.block_lt_of_cell? _ _ q0, q0, hc 1 (show 1 < 3 by decide)⟩
  have bT : (w.alloc (.cells #[.string nm, .slice a cs.length c, .slice a' n' c'] 33)).cell? ⟨w.heap.size, 0, none⟩ = some (.string nm) ∧ (w.alloc (.cells #[.string nm, .slice a cs.length c, .slice a' n' c'] 33)).cell? ⟨w.heap.size, 1, none⟩ = some (.slice a cs.length c) := ⟨cell_new w _ _ _ 0, cell_new w _ _ _ 1⟩
  have hB0 := bal (Below.refl _ w) (.cells #[.string nm, .slice a cs.length c, .slice a' n' c'] 33)
  clear h
  go_enter Tryz.func20, Tryz.ntmps20
  go_wp2
  generalize hW : w.alloc (.cells #[.string nm, .slice a cs.length c, .slice a' n' c'] 33) = W at *
  have hWs : W.heap.size = w.heap.size + 1 := by rw [← hW]; simp
  clear hW
  go_loopw [4, 5, 6] (fun v u i wr => ∃ k : Nat, k ≤ cs.length ∧ i = .int .i64 k ∧ OwnR 50 3 W.heap.size wr v ((cs.take k).map fun x => itC (0, nm, x.1)) ∧ OwnR 3 1 W.heap.size wr u ((cs.take k).map fun x => [.int .i64 x.2.1]) ∧ Apart v u ∧ Below W.heap.size W wr) (fun _ _ i _ => cs.length - (intOf i).toNat)
  case atStart => exact ⟨0, Nat.zero_le _, rfl, OwnR.nil _ _ _ _, OwnR.nil _ _ _ _, fun b hb => by simp [Value.ownBlock] at hb, Below.refl _ _⟩
  case round =>
    obtain ⟨k, hk, rfl, ho1, ho2, hap, hb⟩ := hrel
    have c1 : wr.cell? ⟨w.heap.size, 1, none⟩ = some (.slice a cs.length c) := cell_later hb bT.2
    have c0 : wr.cell? ⟨w.heap.size, 0, none⟩ = some (.string nm) := cell_later hb bT.1
    by_cases hlt : k < cs.length
    · obtain ⟨b, o, x, hx, rfl, hbl, q0, q1⟩ := HK.out k hlt
      have hbw : Below w.heap.size w wr := Below.on hB0 hb
      replace q0 := cell_later hbw q0
      replace q1 := cell_later hbw q1
      have HS : Hid (cs.take (k + 1) = cs.take k ++ [x]) := hid (by rw [List.take_succ_eq_append_getElem hlt, hx])
      have i0 : (0 : Int) ≤ (k : Int) := by omega
      have i1 : (k : Int) < (cs.length : Int) := by omega
      have hl1 : ((cs.take k).map fun x => itC (0, nm, x.1)).length ≤ 50 := by rw [List.length_map, List.length_take]; omega
      have hl2 : ((cs.take k).map fun x => [Value.int .i64 x.2.1]).length ≤ 50 := by rw [List.length_map, List.length_take]; omega
      have HO1 : Hid (∀ w', Below wr.heap.size wr w' → _) := hid fun w' hb' => ho1.later hb'
      have HO2 : Hid (∀ w', Below wr.heap.size wr w' → _) := hid fun w' hb' => ho2.later hb'
      have HZ : Hid (W.heap.size ≤ wr.heap.size) := hid hb.size
      obtain ⟨cn, ck, cr⟩ := x
      simp only at q0 q1
      clear HK hx
      go_upto_region 6 with fail
      have HKs : Hid (∀ w', Below W.heap.size W w' → w'.cell? ⟨w.heap.size, 0, none⟩ = some (.string nm) ∧ w'.cell? ⟨w.heap.size, 1, none⟩ = some (.slice (some ⟨b, o, none⟩) cs.length c) ∧ w'.cell? ⟨b, o + k * 3, none⟩ = some (.string cn) ∧ w'.cell? ⟨b, o + k * 3 + 1, none⟩ = some (.int .i64 ck)) := hid fun w' hb' => by
        have keepC : ∀ (p : Addr) v, p.block < W.heap.size → wr.cell? p = some v → w'.cell? p = some v := fun p v hp hc => (World.cell?_of_block ((hb'.block p.block hp).trans (hb.block p.block hp).symm)).trans hc
        exact ⟨keepC _ _ (by show w.heap.size < W.heap.size; omega) c0, keepC _ _ (by show w.heap.size < W.heap.size; omega) c1, keepC _ _ (by show b < W.heap.size; omega) q0, keepC _ _ (by show b < W.heap.size; omega) q1⟩
      have hbd : Below W.heap.size W wr.drew := hb.drew
      have ho1d : OwnR 50 3 W.heap.size wr.drew u4 ((cs.take k).map fun x => itC (0, nm, x.1)) := ho1.later (Below.refl _ wr).drew
      have ho2d : OwnR 3 1 W.heap.size wr.drew u5 ((cs.take k).map fun x => [.int .i64 x.2.1]) := ho2.later (Below.refl _ wr).drew
      have hblk1 := ho1.blk
      have hblk2 := ho2.blk
      have hds : wr.drew.heap.size = wr.heap.size := rfl
      obtain ⟨css1, E1⟩ : ∃ css1, Hid (((cs.take k).map fun x => itC (0, nm, x.1)) = css1) := ⟨_, hid rfl⟩
      obtain ⟨css2, E2⟩ : ∃ css2, Hid (((cs.take k).map fun x => [Value.int .i64 x.2.1]) = css2) := ⟨_, hid rfl⟩
      rw [E1.out] at ho1d hl1
      rw [E2.out] at ho2d hl2
      clear HO1 HO2 bT HZ ho1 ho2
      go_region_held3 (fun w' => w'.cell? ⟨w.heap.size, 0, none⟩ = some (.string nm) ∧ w'.cell? ⟨w.heap.size, 1, none⟩ = some (.slice (some ⟨b, o, none⟩) cs.length c) ∧ w'.cell? ⟨b, o + k * 3, none⟩ = some (.string cn) ∧ w'.cell? ⟨b, o + k * 3 + 1, none⟩ = some (.int .i64 ck)) (first | exact HKs.out _ finB | exact HKs.out _ hbI | exact HKs.out _ (bal hbI _) | exact HKs.out _ hbK | exact HKs.out _ (bal hbK _) | exact HKs.out _ hbd | exact HKs.out _ (bal hbd _) | exact HKs.out _ (bal (bal hbd _) _))
        ((first
            | (have hxI := hgI; clear hxI; refine step_guard (.tmp 26) (.tmp 33) 59 ?_ ?_; (exact rfl); refine step_appR (B := W.heap.size) (by rfl) (.tmp 26) (.tmp 33) (by rfl) Tryz.underlying59 Tryz.infoTInt rfl (by decide) (by decide) u5 css2 _ [.int .i64 ck] (by rfl) (by rfl) (by first | exact hoKI | exact hoKI.alloc _) rfl (one_int _) (by first | exact new1_at (by first | rfl | simp) | exact far_new hgI (new1_at (by first | rfl | simp)) (fun e => by have h9 := (hblk1 _ e).2; (try simp only [World.size_alloc] at h9); (try rw [hds] at h9); omega) | exact far_new hgI (past_new (new1_at (by first | rfl | simp))) (fun e => by have h9 := (hblk1 _ e).2; (try simp only [World.size_alloc] at h9); (try rw [hds] at h9); omega)) (by omega) (by first | exact hbI.size | exact (bal hbI _).size) ?_; intro vK wK hOK hgK hownK; have finB : Below W.heap.size W wK := (by first | exact below_grows hbI hbI.size hgK (fun k e => (hoKI.blk k e).1) | exact below_grows (bal hbI _) (bal hbI _).size hgK (fun k e => (hoKI.blk k e).1)); have finI := (by first | exact hOI.far hgK apI.symm | exact (hOI.alloc _).far hgK apI.symm : OwnR _ _ W.heap.size wK vI _); have finK := hOK; have finA : Apart vK vI := (by first | exact Apart.grew apI.symm hOI hownK | exact Apart.grew apI.symm (hOI.alloc _) hownK))
            | (have hxK := hgK; clear hxK; refine step_guard (.tmp 14) (.tmp 24) 27 ?_ ?_; (exact rfl); refine step_appR (B := W.heap.size) (by rfl) (.tmp 14) (.tmp 24) (by rfl) Tryz.underlying27 Tryz.infoTItem rfl (by decide) (by decide) u4 css1 _ [.int .i64 0, .string nm, .string cn] (by rfl) (by rfl) (by first | exact hoIK | exact hoIK.alloc _) rfl (one_item _ _ _) (by first | exact new3_at (by first | rfl | simp) | exact far_new hgK (new3_at (by first | rfl | simp)) (fun e => by have h9 := (hblk2 _ e).2; (try simp only [World.size_alloc] at h9); (try rw [hds] at h9); omega) | exact far_new hgK (past_new (new3_at (by first | rfl | simp))) (fun e => by have h9 := (hblk2 _ e).2; (try simp only [World.size_alloc] at h9); (try rw [hds] at h9); omega)) (by omega) (by first | exact hbK.size | exact (bal hbK _).size) ?_; intro vI wI hOI hgI hownI; have finB : Below W.heap.size W wI := (by first | exact below_grows hbK hbK.size hgI (fun k e => (hoIK.blk k e).1) | exact below_grows (bal hbK _) (bal hbK _).size hgI (fun k e => (hoIK.blk k e).1)); have finK := (by first | exact hOK.far hgI apK.symm | exact (hOK.alloc _).far hgI apK.symm : OwnR _ _ W.heap.size wI vK _); have finI := hOI; have finA : Apart vI vK := (by first | exact Apart.grew apK.symm hOK hownI | exact Apart.grew apK.symm (hOK.alloc _) hownI))
            | (refine step_guard (.tmp 14) (.tmp 24) 27 ?_ ?_; (exact rfl); refine step_appR (B := W.heap.size) (by rfl) (.tmp 14) (.tmp 24) (by rfl) Tryz.underlying27 Tryz.infoTItem rfl (by decide) (by decide) u4 css1 _ [.int .i64 0, .string nm, .string cn] (by rfl) (by rfl) (by first | exact ho1d.alloc _ | exact (ho1d.alloc _).alloc _) rfl (one_item _ _ _) (by first | exact new3_at (by first | rfl | simp) | exact past_new (new3_at (by first | rfl | simp))) (by omega) (by first | exact (bal hbd _).size | exact (bal (bal hbd _) _).size) ?_; intro vI wI hOI hgI hownI; have hbI : Below W.heap.size W wI := (by first | exact below_grows (bal hbd _) (bal hbd _).size hgI (fun k e => (hblk1 k e).1) | exact below_grows (bal (bal hbd _) _) (bal (bal hbd _) _).size hgI (fun k e => (hblk1 k e).1)); have hoKI : OwnR 3 1 W.heap.size wI u5 css2 := (by first | exact (ho2d.alloc _).far hgI hap | exact ((ho2d.alloc _).alloc _).far hgI hap); have apI : Apart vI u5 := (by first | exact Apart.grew hap (ho2d.alloc _) hownI | exact Apart.grew hap ((ho2d.alloc _).alloc _) hownI))
            | (refine step_guard (.tmp 26) (.tmp 33) 59 ?_ ?_; (exact rfl); refine step_appR (B := W.heap.size) (by rfl) (.tmp 26) (.tmp 33) (by rfl) Tryz.underlying59 Tryz.infoTInt rfl (by decide) (by decide) u5 css2 _ [.int .i64 ck] (by rfl) (by rfl) (by first | exact ho2d.alloc _ | exact (ho2d.alloc _).alloc _) rfl (one_int _) (by first | exact new1_at (by first | rfl | simp) | exact past_new (new1_at (by first | rfl | simp))) (by omega) (by first | exact (bal hbd _).size | exact (bal (bal hbd _) _).size) ?_; intro vK wK hOK hgK hownK; have hbK : Below W.heap.size W wK := (by first | exact below_grows (bal hbd _) (bal hbd _).size hgK (fun k e => (hblk2 k e).1) | exact below_grows (bal (bal hbd _) _) (bal (bal hbd _) _).size hgK (fun k e => (hblk2 k e).1)); have hoIK : OwnR 50 3 W.heap.size wK u4 css1 := (by first | exact (ho1d.alloc _).far hgK hap.symm | exact ((ho1d.alloc _).alloc _).far hgK hap.symm); have apK : Apart vK u4 := (by first | exact Apart.grew hap.symm (ho1d.alloc _) hownK | exact Apart.grew hap.symm ((ho1d.alloc _).alloc _) hownK))))
      all_goals
        have F1 : Hid _ := hid finI
        have F2 : Hid _ := hid finK
        have F3 : Hid _ := hid finA
        have F4 : Hid _ := hid finB
        go_wp2
        go_roundw
        case rel =>
          refine ⟨k + 1, by omega, by go_num, ?_, ?_, by first | exact F3.out | exact F3.out.symm, F4.out⟩
          · rw [HS.out, List.map_append, E1.out]; exact F1.out
          · rw [HS.out, List.map_append, E2.out]; exact F2.out
        case measure => simp only [intOf]; omega
    · obtain rfl : k = cs.length := by omega
      rw [List.take_length] at ho1 ho2
      clear HK
      obtain ⟨x1, y1, z1, rfl⟩ := ho1.sl
      obtain ⟨x2, y2, z2, rfl⟩ := ho2.sl
      go_wp2
      go_ret2
      exact ⟨_, _, rfl, ho1.base (by omega), ho2.base (by omega), hap, Below.on hB0 hb⟩

end Go.Proofs.YtnlaaejdianfjaaGreat
namespace Go.Proofs.YtnlaaejdianfjaaGreat
open Go.RowKit
set_option linter.unusedVariables false

end Go.Proofs.YtnlaaejdianfjaaGreat
namespace Go.Proofs.YtnlaaejdianfjaaGreat
open Go.RowKit
set_option linter.unusedVariables false
set_option linter.unusedSimpArgs false

end Go.Proofs.YtnlaaejdianfjaaGreat
namespace Go.Proofs.YtnlaaejdianfjaaGreat
open Go.RowKit
set_option linter.unusedVariables false
set_option linter.unusedSimpArgs false

end Go.Proofs.YtnlaaejdianfjaaGreat
namespace Go.Proofs.YtnlaaejdianfjaaGreat
open Go.RowKit
set_option linter.unusedVariables false
set_option linter.unusedSimpArgs false

end Go.Proofs.YtnlaaejdianfjaaGreat
namespace Go.Proofs.YtnlaaejdianfjaaGreat
open Go.RowKit
set_option linter.unusedVariables false
set_option linter.unusedSimpArgs false

end Go.Proofs.YtnlaaejdianfjaaGreat
namespace Go.Proofs.YtnlaaejdianfjaaGreat
open Go.RowKit
set_option linter.unusedVariables false
set_option linter.unusedSimpArgs false

end Go.Proofs.YtnlaaejdianfjaaGreat
namespace Go.Proofs.YtnlaaejdianfjaaGreat
open Go.RowKit
set_option linter.unusedVariables false
set_option linter.unusedSimpArgs false

abbrev clC (c : Cl3) : List Value := [.string c.1, .string c.2.1, .int .i64 c.2.2]
end Go.Proofs.YtnlaaejdianfjaaGreat
namespace Go.Proofs.YtnlaaejdianfjaaGreat
open Go.RowKit
set_option linter.unusedVariables false
set_option linter.unusedSimpArgs false

/-- A statement as typed looks at it. -/
structure Sq where
  kind : Int
  table : ByteArray
  name : ByteArray
  values : List (Pg × Tg)
  items : List It
  join : ByteArray
  on : List (Pg × Tg)
  wh : List (Pg × Tg)
  order : List (Pg × Tg)
theorem RowIs.lens {α : Type} {e : Ek α} {Q : Nat → Prop} {w : World} {a : Option Addr} {n c : Nat} {l : List α} (h : RowIs e Q w (.slice a n c) l) : l.length = n ∧ n ≤ c ∧ c ≤ 9223372036854775807 := by
  obtain ⟨_, _, _, e', h1, h2, h3, _⟩ := h
  cases e'
  exact ⟨h1, h2, h3⟩
/-- Tables in memory, no views, none too long, each with a column. -/
structure IsT (w : World) (T : List Tbl) (ta : Option Addr) (tn tc : Nat) : Prop where
  row : RowIs eTbl (fun _ => True) w (.slice ta tn tc) T
  bd : AllB TblB T
  ne : ∀ t ∈ T, t.cols ≠ []
end Go.Proofs.YtnlaaejdianfjaaGreat
namespace Go.Proofs.YtnlaaejdianfjaaGreat
open Go.RowKit
set_option linter.unusedVariables false
set_option linter.unusedSimpArgs false

theorem row1_str (b : Nat) {w : World} {x : ByteArray} (h : w.cell? ⟨b, 0, none⟩ = some (.string x)) : RowIs eStr (fun _ => True) w (.slice (some ⟨b, 0, none⟩) 1 1) [x] :=
  ⟨_, 1, 1, rfl, rfl, Nat.le_refl _, by omega, fun _ => ⟨b, 0, rfl, trivial, fun i hi => by
    have hi' : i < 1 := hi
    match i, hi' with
    | 0, _ =>
      refine ⟨_, rfl, rfl, fun j hj => ?_⟩
      have hj' : j < 1 := hj
      match j, hj' with
      | 0, _ => exact h⟩⟩
end Go.Proofs.YtnlaaejdianfjaaGreat
namespace Go.Proofs.YtnlaaejdianfjaaGreat
open Go.RowKit
set_option linter.unusedVariables false
set_option linter.unusedSimpArgs false

end Go.Proofs.YtnlaaejdianfjaaGreat
namespace Go.Proofs.YtnlaaejdianfjaaGreat
open Go.RowKit
set_option linter.unusedVariables false
set_option linter.unusedSimpArgs false

end Go.Proofs.YtnlaaejdianfjaaGreat
namespace Go.Proofs.YtnlaaejdianfjaaGreat
open Go.RowKit
set_option linter.unusedVariables false
set_option linter.unusedSimpArgs false

end Go.Proofs.YtnlaaejdianfjaaGreat
namespace Go.Proofs.YtnlaaejdianfjaaGreat
open Go.RowKit
set_option linter.unusedVariables false
set_option linter.unusedSimpArgs false

end Go.Proofs.YtnlaaejdianfjaaGreat
namespace Go.Proofs.YtnlaaejdianfjaaGreat
open Go.RowKit
set_option linter.unusedVariables false
set_option linter.unusedSimpArgs false

def pairP (C : List It) (K : List Int) : List Cl3 := (C.zip K).map fun x => (x.1.2.1, x.1.2.2, x.2)
theorem pairP_len (C : List It) (K : List Int) : (pairP C K).length = min C.length K.length := by unfold pairP; simp
abbrev tbT : Tbl := ⟨⟨#[116]⟩, [(⟨#[107]⟩, 1, ⟨#[]⟩), (⟨#[118]⟩, 2, ⟨#[]⟩), (⟨#[110]⟩, 1, ⟨#[]⟩)], [⟨#[110]⟩]⟩
abbrev tbU : Tbl := ⟨⟨#[117]⟩, [(⟨#[107]⟩, 2, ⟨#[]⟩), (⟨#[114]⟩, 1, ⟨#[116]⟩), (⟨#[110]⟩, 1, ⟨#[]⟩)], []⟩
abbrev tbs : List Tbl := [tbT, tbU]
theorem tbs_B : AllB TblB tbs := by
  refine ⟨by simp, fun x hx => ?_⟩
  simp only [List.mem_cons, List.not_mem_nil, or_false] at hx
  rcases hx with rfl | rfl
  · refine ⟨by simp only [StrB]; decide, ⟨by simp, fun c hc => ?_⟩, ⟨by simp, fun c hc => ?_⟩⟩
    · simp only [List.mem_cons, List.not_mem_nil, or_false] at hc
      rcases hc with rfl | rfl | rfl <;> exact ⟨by decide, by decide⟩
    · simp only [List.mem_cons, List.not_mem_nil, or_false] at hc
      subst hc
      simp only [StrB]; decide
  · refine ⟨by simp only [StrB]; decide, ⟨by simp, fun c hc => ?_⟩, ⟨by simp, fun c hc => ?_⟩⟩
    · simp only [List.mem_cons, List.not_mem_nil, or_false] at hc
      rcases hc with rfl | rfl | rfl <;> exact ⟨by decide, by decide⟩
    · simp at hc
theorem tbs_ne : ∀ t ∈ tbs, t.cols ≠ [] := by
  intro t ht
  simp only [List.mem_cons, List.not_mem_nil, or_false] at ht
  rcases ht with rfl | rfl <;> simp
set_option maxRecDepth 100000 in
set_option maxHeartbeats 2000000 in
theorem schemaT_any (w : World) : Calls Tryz.prog 18 #[] w fun e w' => ∃ b, e = .returned (.agg #[.slice (some ⟨b, 0, none⟩) 2 2, .slice none 0 0]) ∧ IsT w' tbs (some ⟨b, 0, none⟩) 2 2 ∧ w.heap.size ≤ b ∧ Below w.heap.size w w' := by
  go_enter Tryz.func18, Tryz.ntmps18
  go_wp2
  refine bodyPost_ret (v := .agg #[.slice (some ⟨w.heap.size + 1 + 1 + 1 + 1, 0, none⟩) 2 2, .slice none 0 0]) (by simp [results, Tryz.results18, go_sem]) rfl ⟨w.heap.size + 1 + 1 + 1 + 1, rfl, ⟨?_, tbs_B, tbs_ne⟩, by omega, bal (bal (bal (bal (bal (Below.refl _ _) _) _) _) _) _⟩
  have hT := cols_new (w.alloc (.cells #[.slice (some ⟨w.heap.size + 1 + 1 + 1 + 1, 0, none⟩) 2 2, .slice none 0 0] 54)) ⟨#[107]⟩ ⟨#[]⟩ ⟨#[118]⟩ ⟨#[]⟩ ⟨#[110]⟩ ⟨#[]⟩ 1 2 1 (Q := fun _ => True) (w' := (((((w.alloc (.cells #[.slice (some ⟨w.heap.size + 1 + 1 + 1 + 1, 0, none⟩) 2 2, .slice none 0 0] 54)).alloc (.cells #[.string ⟨#[107]⟩, .int .i64 1, .string ⟨#[]⟩, .string ⟨#[118]⟩, .int .i64 2, .string ⟨#[]⟩, .string ⟨#[110]⟩, .int .i64 1, .string ⟨#[]⟩] 70)).alloc (.cells #[.string ⟨#[110]⟩] 9)).alloc (.cells #[.string ⟨#[107]⟩, .int .i64 2, .string ⟨#[]⟩, .string ⟨#[114]⟩, .int .i64 1, .string ⟨#[116]⟩, .string ⟨#[110]⟩, .int .i64 1, .string ⟨#[]⟩] 70)).alloc (.cells #[.string ⟨#[116]⟩, .slice (some ⟨w.heap.size + 1, 0, none⟩) 3 3, .slice (some ⟨w.heap.size + 1 + 1, 0, none⟩) 1 1, .string ⟨#[117]⟩, .slice (some ⟨w.heap.size + 1 + 1 + 1, 0, none⟩) 3 3, .slice none 0 0] 33))) (by
    rw [show (w.alloc (.cells #[.slice (some ⟨w.heap.size + 1 + 1 + 1 + 1, 0, none⟩) 2 2, .slice none 0 0] 54)).heap.size + 1 = ((w.alloc (.cells #[.slice (some ⟨w.heap.size + 1 + 1 + 1 + 1, 0, none⟩) 2 2, .slice none 0 0] 54)).alloc (.cells #[.string ⟨#[107]⟩, .int .i64 1, .string ⟨#[]⟩, .string ⟨#[118]⟩, .int .i64 2, .string ⟨#[]⟩, .string ⟨#[110]⟩, .int .i64 1, .string ⟨#[]⟩] 70)).heap.size from by simp]
    exact bal (bal (bal (Below.refl _ _) _) _) _) trivial
  have hU := cols_new (((w.alloc (.cells #[.slice (some ⟨w.heap.size + 1 + 1 + 1 + 1, 0, none⟩) 2 2, .slice none 0 0] 54)).alloc (.cells #[.string ⟨#[107]⟩, .int .i64 1, .string ⟨#[]⟩, .string ⟨#[118]⟩, .int .i64 2, .string ⟨#[]⟩, .string ⟨#[110]⟩, .int .i64 1, .string ⟨#[]⟩] 70)).alloc (.cells #[.string ⟨#[110]⟩] 9)) ⟨#[107]⟩ ⟨#[]⟩ ⟨#[114]⟩ ⟨#[116]⟩ ⟨#[110]⟩ ⟨#[]⟩ 2 1 1 (Q := fun _ => True) (w' := (((((w.alloc (.cells #[.slice (some ⟨w.heap.size + 1 + 1 + 1 + 1, 0, none⟩) 2 2, .slice none 0 0] 54)).alloc (.cells #[.string ⟨#[107]⟩, .int .i64 1, .string ⟨#[]⟩, .string ⟨#[118]⟩, .int .i64 2, .string ⟨#[]⟩, .string ⟨#[110]⟩, .int .i64 1, .string ⟨#[]⟩] 70)).alloc (.cells #[.string ⟨#[110]⟩] 9)).alloc (.cells #[.string ⟨#[107]⟩, .int .i64 2, .string ⟨#[]⟩, .string ⟨#[114]⟩, .int .i64 1, .string ⟨#[116]⟩, .string ⟨#[110]⟩, .int .i64 1, .string ⟨#[]⟩] 70)).alloc (.cells #[.string ⟨#[116]⟩, .slice (some ⟨w.heap.size + 1, 0, none⟩) 3 3, .slice (some ⟨w.heap.size + 1 + 1, 0, none⟩) 1 1, .string ⟨#[117]⟩, .slice (some ⟨w.heap.size + 1 + 1 + 1, 0, none⟩) 3 3, .slice none 0 0] 33))) (by
    rw [show (((w.alloc (.cells #[.slice (some ⟨w.heap.size + 1 + 1 + 1 + 1, 0, none⟩) 2 2, .slice none 0 0] 54)).alloc (.cells #[.string ⟨#[107]⟩, .int .i64 1, .string ⟨#[]⟩, .string ⟨#[118]⟩, .int .i64 2, .string ⟨#[]⟩, .string ⟨#[110]⟩, .int .i64 1, .string ⟨#[]⟩] 70)).alloc (.cells #[.string ⟨#[110]⟩] 9)).heap.size + 1 = ((((w.alloc (.cells #[.slice (some ⟨w.heap.size + 1 + 1 + 1 + 1, 0, none⟩) 2 2, .slice none 0 0] 54)).alloc (.cells #[.string ⟨#[107]⟩, .int .i64 1, .string ⟨#[]⟩, .string ⟨#[118]⟩, .int .i64 2, .string ⟨#[]⟩, .string ⟨#[110]⟩, .int .i64 1, .string ⟨#[]⟩] 70)).alloc (.cells #[.string ⟨#[110]⟩] 9)).alloc (.cells #[.string ⟨#[107]⟩, .int .i64 2, .string ⟨#[]⟩, .string ⟨#[114]⟩, .int .i64 1, .string ⟨#[116]⟩, .string ⟨#[110]⟩, .int .i64 1, .string ⟨#[]⟩] 70)).heap.size from by simp]
    exact bal (Below.refl _ _) _) trivial
  have hN := row1_str ((w.alloc (.cells #[.slice (some ⟨w.heap.size + 1 + 1 + 1 + 1, 0, none⟩) 2 2, .slice none 0 0] 54)).alloc (.cells #[.string ⟨#[107]⟩, .int .i64 1, .string ⟨#[]⟩, .string ⟨#[118]⟩, .int .i64 2, .string ⟨#[]⟩, .string ⟨#[110]⟩, .int .i64 1, .string ⟨#[]⟩] 70)).heap.size (w := (((((w.alloc (.cells #[.slice (some ⟨w.heap.size + 1 + 1 + 1 + 1, 0, none⟩) 2 2, .slice none 0 0] 54)).alloc (.cells #[.string ⟨#[107]⟩, .int .i64 1, .string ⟨#[]⟩, .string ⟨#[118]⟩, .int .i64 2, .string ⟨#[]⟩, .string ⟨#[110]⟩, .int .i64 1, .string ⟨#[]⟩] 70)).alloc (.cells #[.string ⟨#[110]⟩] 9)).alloc (.cells #[.string ⟨#[107]⟩, .int .i64 2, .string ⟨#[]⟩, .string ⟨#[114]⟩, .int .i64 1, .string ⟨#[116]⟩, .string ⟨#[110]⟩, .int .i64 1, .string ⟨#[]⟩] 70)).alloc (.cells #[.string ⟨#[116]⟩, .slice (some ⟨w.heap.size + 1, 0, none⟩) 3 3, .slice (some ⟨w.heap.size + 1 + 1, 0, none⟩) 1 1, .string ⟨#[117]⟩, .slice (some ⟨w.heap.size + 1 + 1 + 1, 0, none⟩) 3 3, .slice none 0 0] 33))) (x := ⟨#[110]⟩) (cell_later (bal (bal (Below.refl _ (((w.alloc (.cells #[.slice (some ⟨w.heap.size + 1 + 1 + 1 + 1, 0, none⟩) 2 2, .slice none 0 0] 54)).alloc (.cells #[.string ⟨#[107]⟩, .int .i64 1, .string ⟨#[]⟩, .string ⟨#[118]⟩, .int .i64 2, .string ⟨#[]⟩, .string ⟨#[110]⟩, .int .i64 1, .string ⟨#[]⟩] 70)).alloc (.cells #[.string ⟨#[110]⟩] 9))) (.cells #[.string ⟨#[107]⟩, .int .i64 2, .string ⟨#[]⟩, .string ⟨#[114]⟩, .int .i64 1, .string ⟨#[116]⟩, .string ⟨#[110]⟩, .int .i64 1, .string ⟨#[]⟩] 70)) (.cells #[.string ⟨#[116]⟩, .slice (some ⟨w.heap.size + 1, 0, none⟩) 3 3, .slice (some ⟨w.heap.size + 1 + 1, 0, none⟩) 1 1, .string ⟨#[117]⟩, .slice (some ⟨w.heap.size + 1 + 1 + 1, 0, none⟩) 3 3, .slice none 0 0] 33)) (cell_new ((w.alloc (.cells #[.slice (some ⟨w.heap.size + 1 + 1 + 1 + 1, 0, none⟩) 2 2, .slice none 0 0] 54)).alloc (.cells #[.string ⟨#[107]⟩, .int .i64 1, .string ⟨#[]⟩, .string ⟨#[118]⟩, .int .i64 2, .string ⟨#[]⟩, .string ⟨#[110]⟩, .int .i64 1, .string ⟨#[]⟩] 70)) #[.string ⟨#[110]⟩] 9 (0, 0) 0))
  have hc := cell_new ((((w.alloc (.cells #[.slice (some ⟨w.heap.size + 1 + 1 + 1 + 1, 0, none⟩) 2 2, .slice none 0 0] 54)).alloc (.cells #[.string ⟨#[107]⟩, .int .i64 1, .string ⟨#[]⟩, .string ⟨#[118]⟩, .int .i64 2, .string ⟨#[]⟩, .string ⟨#[110]⟩, .int .i64 1, .string ⟨#[]⟩] 70)).alloc (.cells #[.string ⟨#[110]⟩] 9)).alloc (.cells #[.string ⟨#[107]⟩, .int .i64 2, .string ⟨#[]⟩, .string ⟨#[114]⟩, .int .i64 1, .string ⟨#[116]⟩, .string ⟨#[110]⟩, .int .i64 1, .string ⟨#[]⟩] 70)) #[.string ⟨#[116]⟩, .slice (some ⟨w.heap.size + 1, 0, none⟩) 3 3, .slice (some ⟨w.heap.size + 1 + 1, 0, none⟩) 1 1, .string ⟨#[117]⟩, .slice (some ⟨w.heap.size + 1 + 1 + 1, 0, none⟩) 3 3, .slice none 0 0] 33 (0, 0)
  simp only [World.size_alloc] at hT hU hc hN
  refine ⟨_, 2, 2, rfl, rfl, Nat.le_refl _, by omega, fun _ => ⟨_, 0, rfl, trivial, fun i hi => ?_⟩⟩
  have hi' : i < 2 := hi
  match i, hi' with
  | 0, _ => exact ⟨[.string ⟨#[116]⟩, .slice (some ⟨w.heap.size + 1, 0, none⟩) 3 3, .slice (some ⟨w.heap.size + 1 + 1, 0, none⟩) 1 1], ⟨_, _, _, _, _, _, rfl, hT, hN⟩, rfl, fun j hj => by
      have hj' : j < 3 := hj
      match j, hj' with
      | 0, _ => exact hc 0
      | 1, _ => exact hc 1
      | 2, _ => exact hc 2⟩
  | 1, _ => exact ⟨[.string ⟨#[117]⟩, .slice (some ⟨w.heap.size + 1 + 1 + 1, 0, none⟩) 3 3, .slice none 0 0], ⟨_, _, _, _, _, _, rfl, hU, RowIs.nil _ _ _⟩, rfl, fun j hj => by
      have hj' : j < 3 := hj
      match j, hj' with
      | 0, _ => exact hc 3
      | 1, _ => exact hc 4
      | 2, _ => exact hc 5⟩

end Go.Proofs.YtnlaaejdianfjaaGreat
