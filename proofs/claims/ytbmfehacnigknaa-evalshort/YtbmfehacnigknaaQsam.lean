import Derived.Test.YtbmfehacnigknaaQsal
import Derived.Test.YtbmfehacnigknaaQsak
import Derived.Test.YtbmfehacnigknaaQsaj
namespace Go.Proofs.Ytbmfehacnigknaa
open Go.RowKit
set_option linter.unusedVariables false
set_option linter.unusedSimpArgs false

abbrev C0 : Cl2 := [((0, ⟨#[116]⟩, ⟨#[107]⟩), 1), ((0, ⟨#[116]⟩, ⟨#[118]⟩), 2), ((0, ⟨#[116]⟩, ⟨#[110]⟩), 1)]
abbrev S0 : List Cl3 := pairP (C0.map Prod.fst) (C0.map Prod.snd)
theorem leaf_kd {k : Int} {t : Tr} (h : LeafOK C0 k t) : kdT S0 (gP t) = (k, 0) ∧ noT t = false := by
  rcases h with ⟨tb, nm, rfl, x, hx, hk, rfl, hx2⟩ | ⟨i, s, rfl, -⟩
  · refine ⟨?_, rfl⟩
    subst hk
    simp only [List.mem_cons, List.not_mem_nil, or_false] at hx
    rcases hx with rfl | rfl | rfl <;> rcases hx2 with rfl | ⟨rfl, -⟩ <;> decide +kernel
  · exact ⟨rfl, rfl⟩
theorem kd_one {S : List Cl3} {op : Nat} {l : Tr} (hl : noT l = false) : kdT S (gP (tOne op l)) = kd1 S ((op : Int), nilP) [kdT S (gP l)] := by
  show kd1 S ((op : Int), nilP) (kds S (gT l (gT .nil .nil))) = _
  rw [kds_map, gT_cons hl]; rfl
theorem kd_two {S : List Cl3} {op : Nat} {l r : Tr} (hl : noT l = false) (hr : noT r = false) : kdT S (gP (tTwo op l r)) = kd1 S ((op : Int), nilP) [kdT S (gP l), kdT S (gP r)] := by
  show kd1 S ((op : Int), nilP) (kds S (gT l (gT r .nil))) = _
  rw [kds_map, gT_cons hl, gT_cons hr]; rfl
theorem pl_kd : ∀ (n : Nat) {k : Int} {t : Tr}, Pl C0 n k t → kdT S0 (gP t) = (k, 0) ∧ noT t = false
  | 0, k, t, h => leaf_kd h.2
  | n + 1, k, t, h => by
    rcases h with ⟨_, h⟩ | ⟨rfl, ⟨l, rfl, h⟩ | ⟨a, l, r, ha, rfl, hl, hr⟩⟩ | ⟨rfl, ⟨l, rfl, h⟩ | ⟨a, l, r, ha, rfl, hl, hr⟩ | ⟨a, k, l, r, ha, hk, rfl, hl, hr⟩⟩
    · exact leaf_kd h
    · obtain ⟨e, hn⟩ := pl_kd n h
      refine ⟨?_, rfl⟩
      rw [kd_one hn, e]; decide +kernel
    · obtain ⟨e, hn⟩ := pl_kd n hl
      obtain ⟨e2, hn2⟩ := pl_kd n hr
      refine ⟨?_, rfl⟩
      rw [kd_two hn hn2, e, e2]
      match a, ha with
      | 0, _ => decide +kernel
      | 1, _ => decide +kernel
      | 2, _ => decide +kernel
    · obtain ⟨e, hn⟩ := pl_kd n h
      refine ⟨?_, rfl⟩
      rw [kd_one hn, e]; decide +kernel
    · obtain ⟨e, hn⟩ := pl_kd n hl
      obtain ⟨e2, hn2⟩ := pl_kd n hr
      refine ⟨?_, rfl⟩
      rw [kd_two hn hn2, e, e2]
      match a, ha with
      | 0, _ => decide +kernel
      | 1, _ => decide +kernel
    · obtain ⟨e, hn⟩ := pl_kd n hl
      obtain ⟨e2, hn2⟩ := pl_kd n hr
      refine ⟨?_, rfl⟩
      rw [kd_two hn hn2, e, e2]
      rcases hk with rfl | rfl
      · match a, ha with
        | 0, _ => decide +kernel
        | 1, _ => decide +kernel
        | 2, _ => decide +kernel
        | 3, _ => decide +kernel
        | 4, _ => decide +kernel
        | 5, _ => decide +kernel
      · match a, ha with
        | 0, _ => decide +kernel
        | 1, _ => decide +kernel
        | 2, _ => decide +kernel
        | 3, _ => decide +kernel
        | 4, _ => decide +kernel
        | 5, _ => decide +kernel
/-- An expression alone in another, twice in another. -/
abbrev inOne (op : Int) (x : Pg × Tg) : Pg × Tg := ((op, nP), .node 0 0 x.1 x.2 .nil)
abbrev inTwo (op : Int) (x : Pg × Tg) : Pg × Tg := ((op, nP), .node 0 0 x.1 x.2 (.node 0 0 x.1 x.2 .nil))
theorem Ex.parts {Q : Nat → Prop} {w : World} {t : Tr} {o : Int} {p : Pay} {a : Option Addr} {n c : Nat} (h : Ex Q w t (exV o p (.slice a n c))) : (gP t).1 = (o, p) ∧ SlF Q w a n c (gP t).2 := by
  obtain ⟨a', n', c', e, hs⟩ := Ex.g h
  simp only [exC, List.cons.injEq, Value.int.injEq, Value.string.injEq, Value.slice.injEq, true_and, and_true] at e
  obtain ⟨e0, e1, e2, e3, e4, e5, rfl, rfl, rfl⟩ := e
  refine ⟨?_, hs⟩
  obtain ⟨k1, k2, k3, k4, k5⟩ := p
  rcases hg : gP t with ⟨⟨g0, g1, g2, g3, g4, g5⟩, gf⟩
  rw [hg] at e0 e1 e2 e3 e4 e5
  dsimp only at e0 e1 e2 e3 e4 e5
  rw [e0, e1, e2, e3, e4, e5]
set_option maxRecDepth 100000 in
set_option maxHeartbeats 1000000 in
theorem made10_any {w : World} {a : Option Addr} {len cap : Nat} (h1 : len ≤ cap) (h2 : cap ≤ 9223372036854775807) (h3 : Nums w w.heap.size a len) :
    Calls Try.prog 11 #[.slice a len cap] w fun e w' => e = .returned (.pointer (some ⟨w.heap.size, 0, none⟩)) ∧ Pk w' w.heap.size len ∧ Below w.heap.size w w' := by
  have hb := bal (Below.refl _ w) (.cells #[.slice a len cap, .int .i64 ((0 : Nat) : Int)] 66)
  have hp : Pk (w.alloc (.cells #[.slice a len cap, .int .i64 ((0 : Nat) : Int)] 66)) w.heap.size len := ⟨a, len, cap, 0, ⟨heap_alloc_new w _⟩, by omega, h1, h2, h3.keep (by have := hb.size; omega) fun k hk => hb.block k hk⟩
  have T : Hid _ := hid (And.intro hp hb)
  clear hp hb h3
  go_enter Try.func11, Try.ntmps11
  go_wp2
  go_ret
  exact ⟨rfl, T.out.1, T.out.2⟩
theorem nums10_of {w : World} {a : Option Addr} {len cap : Nat} {xs : List Int} (h : Rd .u8 w a len cap xs) (hx : ∀ x ∈ xs, 0 ≤ x ∧ x ≤ 255) : Nums w w.heap.size a len := fun hp => by
  obtain ⟨b, o, ha, hc⟩ := h.cells hp
  have hb : b < w.heap.size := World.block_lt_of_cell? _ _ (hc 0 hp)
  refine ⟨b, o, ha, hb, hb, fun k hk => ?_⟩
  have hk' : k < xs.length := by rw [h.len]; exact hk
  have hm : nth xs k ∈ xs := by rw [nth, List.getElem?_eq_getElem hk']; exact List.getElem_mem _
  exact ⟨nth xs k, (hx _ hm).1, (hx _ hm).2, hc k hk⟩
theorem fldT (a b : Value) (w : World) : (Instr.field 31 (.agg #[a, b]) 0).run Try.prog w = .ok a w := by kernel_rfl
end Go.Proofs.Ytbmfehacnigknaa
namespace Go.Proofs.Ytbmfehacnigknaa
open Go.RowKit
set_option linter.unusedVariables false
set_option linter.unusedSimpArgs false

theorem va_gd {k i : Int} {s : ByteArray} (h : VaOK k i s) : Gd (k, i, s) ∧ VF k (k, i, s) := by
  rcases h with ⟨rfl, rfl, hs⟩ | ⟨rfl, rfl, hi⟩
  · refine ⟨⟨fits0, ?_⟩, rfl, fun h => absurd h (by decide), fun _ => rfl, fun h => absurd h (by decide)⟩
    simp only [List.mem_cons, List.not_mem_nil, or_false] at hs
    rcases hs with rfl | rfl | rfl | rfl | rfl <;> decide
  · exact ⟨⟨by show -9223372036854775808 ≤ i ∧ i ≤ 9223372036854775807; omega, Nat.zero_le 500⟩, VF.num i⟩
theorem gT_wf {t : Tr} (hn : noT t = false) (h : wfT (gP t)) {s : Tg} (hs : wfF s) : wfF (gT t s) := by
  cases t with
  | nil => cases hn
  | node => exact ⟨h, hs⟩
theorem gT_lf {t : Tr} (hn : noT t = false) (h : lfT (gP t)) {s : Tg} (hs : lfF s) : lfF (gT t s) := by
  cases t with
  | nil => cases hn
  | node => exact ⟨h, hs⟩
theorem wf_one {op : Nat} {l : Tr} (hp : partsP (op : Int) = 1) (h1 : (op : Int) ≠ 1) (hn : noT l = false) (hw : wfT (gP l)) (hl : lfT (gP l)) : wfT (gP (tOne op l)) ∧ lfT (gP (tOne op l)) := by
  refine ⟨⟨?_, gd_z, gT_wf hn hw trivial⟩, fun h => absurd h h1, gT_lf hn hl trivial⟩
  show ((toL (gT l (gT .nil .nil))).length : Int) = partsP (op : Int)
  rw [gT_cons hn, hp]; rfl
theorem wf_two {op : Nat} {l r : Tr} (hp : partsP (op : Int) = 2) (h1 : (op : Int) ≠ 1) (hn : noT l = false) (hw : wfT (gP l)) (hl : lfT (gP l)) (hn2 : noT r = false) (hw2 : wfT (gP r)) (hl2 : lfT (gP r)) : wfT (gP (tTwo op l r)) ∧ lfT (gP (tTwo op l r)) := by
  refine ⟨⟨?_, gd_z, gT_wf hn hw (gT_wf hn2 hw2 trivial)⟩, fun h => absurd h h1, gT_lf hn hl (gT_lf hn2 hl2 trivial)⟩
  show ((toL (gT l (gT r .nil))).length : Int) = partsP (op : Int)
  rw [gT_cons hn, gT_cons hn2, hp]; rfl
theorem leaf_wf {C : Cl2} {k : Int} {t : Tr} (h : LeafOK C k t) : wfT (gP t) ∧ lfT (gP t) := by
  rcases h with ⟨tb, nm, rfl, -⟩ | ⟨i, s, rfl, hv⟩
  · exact ⟨⟨rfl, gd_z, trivial⟩, fun h => absurd h (show ¬ (2 : Int) = 1 by decide), trivial⟩
  · exact ⟨⟨rfl, (va_gd hv).1, trivial⟩, fun _ => (va_gd hv).2, trivial⟩
theorem pl_wf : ∀ (n : Nat) {k : Int} {t : Tr}, Pl C0 n k t → wfT (gP t) ∧ lfT (gP t)
  | 0, k, t, h => leaf_wf h.2
  | n + 1, k, t, h => by
    rcases h with ⟨_, h⟩ | ⟨rfl, ⟨l, rfl, h⟩ | ⟨a, l, r, ha, rfl, hl, hr⟩⟩ | ⟨rfl, ⟨l, rfl, h⟩ | ⟨a, l, r, ha, rfl, hl, hr⟩ | ⟨a, k, l, r, ha, hk, rfl, hl, hr⟩⟩
    · exact leaf_wf h
    · exact wf_one rfl (by decide) (pl_kd n h).2 (pl_wf n h).1 (pl_wf n h).2
    · refine wf_two ?_ (by omega) (pl_kd n hl).2 (pl_wf n hl).1 (pl_wf n hl).2 (pl_kd n hr).2 (pl_wf n hr).1 (pl_wf n hr).2
      match a, ha with
      | 0, _ => rfl
      | 1, _ => rfl
      | 2, _ => rfl
    · exact wf_one rfl (by decide) (pl_kd n h).2 (pl_wf n h).1 (pl_wf n h).2
    · refine wf_two ?_ (by omega) (pl_kd n hl).2 (pl_wf n hl).1 (pl_wf n hl).2 (pl_kd n hr).2 (pl_wf n hr).1 (pl_wf n hr).2
      match a, ha with
      | 0, _ => rfl
      | 1, _ => rfl
    · refine wf_two ?_ (by omega) (pl_kd n hl).2 (pl_wf n hl).1 (pl_wf n hl).2 (pl_kd n hr).2 (pl_wf n hr).1 (pl_wf n hr).2
      match a, ha with
      | 0, _ => rfl
      | 1, _ => rfl
      | 2, _ => rfl
      | 3, _ => rfl
      | 4, _ => rfl
      | 5, _ => rfl
/-- The values of a row by numbers. -/
def RwOK (L : List Co) (V : List Vt) : Prop := V.length = L.length ∧ ∀ i (h1 : i < L.length) (h2 : i < V.length), V[i].1 = L[i].2.1 ∧ VaOK L[i].2.1 V[i].2.1 V[i].2.2
/-- What Row tells. -/
def TeRw (g : Nat) (w : World) (L : List Co) (e : Ending) (w' : World) : Prop := ∃ a m d V, e = .returned (.slice a m d) ∧ RwOK L V ∧ OwnR 38 3 w.heap.size w' (.slice a m d) (V.map fun v => [.int .i64 v.1, .int .i64 v.2.1, .string v.2.2]) ∧ But g w w'
abbrev vC (v : Vt) : List Value := [.int .i64 v.1, .int .i64 v.2.1, .string v.2.2]
set_option maxRecDepth 100000 in
set_option maxHeartbeats 4000000 in
theorem rowL_any {g r : Nat} {w : World} (hp : Pk w g r) (L : List Co) (hL : L.length ≤ 100) (hk12 : ∀ c ∈ L, c.2.1 = 1 ∨ c.2.1 = 2) (nm : ByteArray) {ca : Option Addr} {cn cc : Nat} (xa : Option Addr) (xn xc : Nat) (hc : RowIs eCol (fun b => b ≠ g) w (.slice ca cn cc) L) :
    Calls Try.prog 13 #[.pointer (some ⟨g, 0, none⟩), .agg #[.string nm, .slice ca cn cc, .slice xa xn xc]] w (TeRw g w L) := by
  obtain ⟨hn, hnc, hcm⟩ := row_lens hc
  have hgl := hp.lt
  have bT := Bk.new w (.cells #[.string nm, .slice ca cn cc, .slice xa xn xc] 27)
  have hB0 : But g w (w.alloc (.cells #[.string nm, .slice ca cn cc, .slice xa xn xc] 27)) := (But.refl g w).alloc _
  have hp0 := hp.alloc (.cells #[.string nm, .slice ca cn cc, .slice xa xn xc] 27)
  have hR0 : Hid (∀ w', But g w w' → RowIs eCol (fun b => b ≠ g) w' (.slice ca cn cc) L) := hid fun w' hb => hc.keep (by decide) fun b hq hl => hb.block b hl hq
  clear hp hc
  go_enter Try.func13, Try.ntmps13
  go_upto_region 1 with fail
  have hs0 : w.heap.size ≤ (w.alloc (.cells #[.string nm, .slice ca cn cc, .slice xa xn xc] 27)).heap.size := by simp
  generalize w.alloc (.cells #[.string nm, .slice ca cn cc, .slice xa xn xc] 27) = W at *
  go_wp2
  go_loopw [5, 6] (fun v5 v6 wr => ∃ (k : Nat) (V : List Vt) (r' : Nat) (a : Option Addr) (m d : Nat), k ≤ L.length ∧ v6 = .int .i64 k ∧ v5 = .slice a m d ∧ V.length = k ∧ Hid (∀ i (h1 : i < L.length) (h2 : i < V.length), V[i].1 = L[i].2.1 ∧ VaOK L[i].2.1 V[i].2.1 V[i].2.2) ∧ OwnR 38 3 (w.heap.size + 1) wr (.slice a m d) (V.map vC) ∧ Pk wr g r' ∧ But g w wr ∧ Bk wr w.heap.size (.cells #[.string nm, .slice ca cn cc, .slice xa xn xc] 27)) (fun _ i _ => L.length - (intOf i).toNat)
  case atStart => exact ⟨0, [], r, none, 0, 0, Nat.zero_le _, rfl, rfl, rfl, hid fun i h1 h2 => by simp at h2, OwnR.nil _ _ _ _, hp0, hB0, bT⟩
  case round =>
    obtain ⟨k, V, r', a, m, d, hk, rfl, rfl, hV, HV, ho, hpr, hBr, bTr⟩ := hrel
    have t1 := bTr.cell 1
    simp only [List.getElem?_toArray, List.getElem?_cons_zero, List.getElem?_cons_succ] at t1
    by_cases hlt : k < L.length
    · obtain ⟨_, _, _, e', _, _, _, hx⟩ := hR0.out wr hBr
      cases e'
      obtain ⟨b, o, hca, hq, hi⟩ := hx (by omega)
      rw [hca] at t1
      obtain ⟨cs, hE, h2, h3⟩ := hi k hlt
      obtain ⟨x, hxl⟩ : ∃ x, L[k] = x := ⟨_, rfl⟩
      have hE' : cs = [.string L[k].1, .int .i64 L[k].2.1, .string L[k].2.2] := hE
      subst hE'
      have c1 : wr.cell? ⟨b, o + k * 3 + 1, none⟩ = some (.int .i64 L[k].2.1) := h3 1 (show 1 < 3 by decide)
      have hx12 := hk12 L[k] (List.getElem_mem hlt)
      rw [hxl] at c1 hx12
      have HVl : Hid _ := hid (value_any hpr x.2.1 hx12)
      have HXl : Hid _ := hid hxl
      have hkm : (k : Int) < (cn : Int) := by omega
      replace hca : Hid _ := hid hca
      have hk5 : k ≤ 100 := by omega
      clear h2 h3 hi hx hE bT hB0 hp0 hxl
      go_wp2_with fail
      refine Calls.mono HVl.out ?_
      rintro e w4 ⟨i, s, r2, rfl, hva, hr2, hp4, hb4⟩
      have ho4 := ho.but hb4 (by omega)
      have hB4 := hBr.trans hb4
      have bT4 : Bk w4 w.heap.size (.cells #[.string nm, .slice ca cn cc, .slice xa xn xc] 27) := ⟨(hb4.block w.heap.size bTr.lt (by omega)).trans bTr.row⟩
      have ho5 := ho4.alloc (.cells #[.int .i64 x.2.1, .int .i64 i, .string s] 38)
      have hB5 := hB4.alloc (.cells #[.int .i64 x.2.1, .int .i64 i, .string s] 38)
      have bT5 := bT4.later (bal (Below.refl _ _) (.cells #[.int .i64 x.2.1, .int .i64 i, .string s] 38))
      have hp5 := hp4.alloc (.cells #[.int .i64 x.2.1, .int .i64 i, .string s] 38)
      have hblk := ho4.blk
      have hsz5 : w.heap.size + 1 ≤ (w4.alloc (.cells #[.int .i64 x.2.1, .int .i64 i, .string s] 38)).heap.size := by have := bT5.lt; omega
      clear HVl ho4 hB4 bT4 hb4 hp4 ho hpr hBr bTr
      go_wp2_with (first | (at_builtin; go_must (refine wpList_appR Try.underlying45 Try.infoTVal rfl (by decide) (by decide) rfl (.tmp 14) (.tmp 23) rfl _ (V.map vC) w4.heap.size [.int .i64 x.2.1, .int .i64 i, .string s] rfl rfl ho5 rfl (by simp [Value.oneCell']) (new3 w4 _ _ _ _) (by rw [List.length_map]; omega) hsz5 ?_)) | fail)
      intro v' w6 hO6 hg6 hown
      obtain ⟨a2, m2, d2, rfl⟩ := hO6.sl
      have hb7 := below_grows (Below.refl (w.heap.size + 1) _) hsz5 hg6 fun k e => (hblk k e).1
      have hB6 : But g w w6 := ⟨hb7.os.trans hB5.os, hb7.tape.trans hB5.tape, hb7.output.trans hB5.output, Nat.le_trans hB5.size hb7.size, fun k hk hkg => (hb7.block k (by omega)).trans (hB5.block k hk hkg)⟩
      have bT6 : Bk w6 w.heap.size (.cells #[.string nm, .slice ca cn cc, .slice xa xn xc] 27) := ⟨(hb7.block w.heap.size (by omega)).trans bT5.row⟩
      have hp6 := hp5.grown hg6 fun k e => by have := (hblk k e).1; omega
      have HT : Hid _ := hid (And.intro hO6 (And.intro hB6 (And.intro bT6 hp6)))
      clear hO6 hB6 bT6 hp6 hg6 hown ho5 hB5 bT5 hp5 hblk hb7
      go_wp2
      go_roundw
      case rel =>
        refine ⟨k + 1, V ++ [(x.2.1, i, s)], r2, a2, m2, d2, hlt, by go_num, rfl, by rw [List.length_append]; simp [hV], hid fun j h1 h2 => ?_, by rw [List.map_append]; exact HT.out.1, HT.out.2.2.2, HT.out.2.1, HT.out.2.2.1⟩
        by_cases hj : j < V.length
        · rw [List.getElem_append_left hj]
          exact HV.out j h1 hj
        · have hjk : j = k := by rw [List.length_append] at h2; simp at h2; omega
          subst hjk
          rw [List.getElem_append_right (by omega)]
          simp only [hV, Nat.sub_self, List.getElem_cons_zero]
          rw [HXl.out]
          exact ⟨rfl, hva⟩
      case measure => simp only [intOf]; omega
    · obtain rfl : k = L.length := by omega
      have hge : ¬ (L.length : Int) < (cn : Int) := by omega
      have hgd : decide ((L.length : Int) < (cn : Int)) = false := by simpa using hge
      go_wp2
      go_ret
      exact ⟨a, m, d, V, rfl, ⟨hV, HV.out⟩, ⟨ho.1, owns_base ho.2 (by omega)⟩, hBr⟩

end Go.Proofs.Ytbmfehacnigknaa
namespace Go.Proofs.Ytbmfehacnigknaa
open Go.RowKit
set_option linter.unusedVariables false
set_option linter.unusedSimpArgs false

abbrev I0 : List It := C0.map Prod.fst
abbrev K0 : List Int := C0.map Prod.snd
theorem rw_vals {V : List Vt} (h : RwOK tbT.cols V) : I0.length = V.length ∧ (∀ i (h1 : i < K0.length) (h2 : i < V.length), VF K0[i] V[i]) ∧ ∀ v ∈ V, Gd v := by
  obtain ⟨hl, hv⟩ := h
  have hl3 : V.length = 3 := hl
  match V, hl3 with
  | [v0, v1, v2], _ =>
    have q0 := hv 0 (by decide) (by simp)
    have q1 := hv 1 (by decide) (by simp)
    have q2 := hv 2 (by decide) (by simp)
    simp only [List.getElem_cons_zero, List.getElem_cons_succ] at q0 q1 q2
    have f : ∀ {k : Int} {v : Vt}, v.1 = k → VaOK k v.2.1 v.2.2 → Gd v ∧ VF k v := fun {k v} h1 h2 => by
      obtain ⟨a, b, c⟩ := v
      dsimp only at h1 h2
      subst h1
      exact va_gd h2
    have g0 := f q0.1 q0.2
    have g1 := f q1.1 q1.2
    have g2 := f q2.1 q2.2
    refine ⟨rfl, fun i h1 h2 => ?_, fun v hv => ?_⟩
    · have hi : i < 3 := h1
      match i, hi with
      | 0, _ => exact g0.2
      | 1, _ => exact g1.2
      | 2, _ => exact g2.2
    · simp only [List.mem_cons, List.not_mem_nil, or_false] at hv
      rcases hv with rfl | rfl | rfl
      · exact g0.1
      · exact g1.1
      · exact g2.1
theorem nums_on {w w1 : World} {a : Option Addr} {len : Nat} (h : Nums w w.heap.size a len) (hb : Below w.heap.size w w1) : Nums w1 w1.heap.size a len := fun hp => by
  obtain ⟨b, o, ha, hb1, hb2, hz⟩ := h hp
  refine ⟨b, o, ha, by have := hb.size; omega, by have := hb.size; omega, fun k hk => ?_⟩
  obtain ⟨z, z1, z2, z3⟩ := hz k hk
  exact ⟨z, z1, z2, cell_later hb z3⟩
end Go.Proofs.Ytbmfehacnigknaa
namespace Go.Proofs.Ytbmfehacnigknaa
open Go.RowKit
set_option linter.unusedVariables false
set_option linter.unusedSimpArgs false

end Go.Proofs.Ytbmfehacnigknaa
namespace Go.Proofs.Ytbmfehacnigknaa
open Go.RowKit
set_option linter.unusedVariables false
set_option linter.unusedSimpArgs false

end Go.Proofs.Ytbmfehacnigknaa
namespace Go.Proofs.Ytbmfehacnigknaa
open Go.RowKit
set_option linter.unusedVariables false
set_option linter.unusedSimpArgs false

/-- How many nodes a row of expressions has. -/
def cnN : Tg → Nat
  | .nil => 0
  | .node _ _ _ l r => 1 + cnN l + cnN r
def suN (l : List (Pg × Tg)) : Nat := (l.map fun y => 1 + cnN y.2).sum
theorem su_toL : ∀ f : Tg, suN (toL f) = cnN f := by
  intro f
  induction f with
  | nil => rfl
  | node a b p l r ihl ihr =>
    rw [toL, cnN, ← ihr]
    unfold suN
    rw [List.map_cons, List.sum_cons]
theorem su_take {l : List (Pg × Tg)} {k : Nat} (h : k < l.length) : suN (l.take (k + 1)) = suN (l.take k) + (1 + cnN l[k].2) := by
  unfold suN
  rw [List.take_succ_eq_append_getElem h, List.map_append, List.sum_append]
  simp
theorem su_le (l : List (Pg × Tg)) (k : Nat) : suN (l.take k) ≤ suN l := by
  conv => rhs; rw [← List.take_append_drop k l]
  unfold suN
  rw [List.map_append, List.sum_append]
  omega
theorem su_mem {l : List (Pg × Tg)} {k : Nat} (h : k < l.length) : cnN l[k].2 ≤ suN l := by
  have h1 := su_take h
  have h2 := su_le l (k + 1)
  omega
def NodesB (x : Pg × Tg) : Prop := ∀ (Q : Nat → Prop) (w : World) (cs : List Value), cnN x.2 ≤ 900 → eG.E Q w x cs → Calls Try.prog 17 #[.agg cs.toArray] w fun en w' => ∃ z : Int, en = .returned (.int .i64 z) ∧ 1 ≤ z ∧ z ≤ 1 + (cnN x.2 : Int) ∧ Below w.heap.size w w'
set_option maxRecDepth 100000 in
set_option maxHeartbeats 4000000 in
theorem nodesB_step (x : Pg × Tg) (ih : ∀ y ∈ toL x.2, NodesB y) : NodesB x := by
  intro Q w cs hcn hx
  obtain ⟨ea, en, ec, rfl, hsl⟩ := hx
  have HT : Hid (∀ (k : Nat) (h : k < (toL x.2).length), suN ((toL x.2).take (k + 1)) = suN ((toL x.2).take k) + (1 + cnN (toL x.2)[k].2)) := hid fun k h => su_take h
  have HM : Hid (∀ (k : Nat) (h : k < (toL x.2).length), cnN (toL x.2)[k].2 ≤ 900) := hid fun k h => by have := su_mem h; rw [su_toL] at this; omega
  have HL : Hid (∀ k, suN ((toL x.2).take k) ≤ 900) := hid fun k => by have := su_le (toL x.2) k; rw [su_toL] at this; omega
  have HF : Hid (suN ((toL x.2).take (toL x.2).length) = cnN x.2) := hid (by rw [List.take_length, su_toL])
  clear hcn
  have hlen := hsl.1
  have hec := hsl.2.1
  have hecm := hsl.2.2.1
  simp only [exC] at *
  have hw := bal (Below.refl w.heap.size w) (.cells #[.int .i64 x.1.1, .int .i64 x.1.2.1, .int .i64 x.1.2.2.1, .string x.1.2.2.2.1, .string x.1.2.2.2.2.1, .string x.1.2.2.2.2.2, .slice ea en ec] 41)
  have bx := Bk.new w (.cells #[.int .i64 x.1.1, .int .i64 x.1.2.1, .int .i64 x.1.2.2.1, .string x.1.2.2.2.1, .string x.1.2.2.2.2.1, .string x.1.2.2.2.2.2, .slice ea en ec] 41)
  generalize hW : w.alloc (.cells #[.int .i64 x.1.1, .int .i64 x.1.2.1, .int .i64 x.1.2.2.1, .string x.1.2.2.2.1, .string x.1.2.2.2.2.1, .string x.1.2.2.2.2.2, .slice ea en ec] 41) = W at hw bx
  have d0 := bx.cell 0
  have d1 := bx.cell 1
  have d2 := bx.cell 2
  have d3 := bx.cell 3
  have d4 := bx.cell 4
  have d5 := bx.cell 5
  have d6 := bx.cell 6
  simp only [List.getElem?_toArray, List.getElem?_cons_zero, List.getElem?_cons_succ] at d0 d1 d2 d3 d4 d5 d6
  have HAr : Hid (∀ w', Below W.heap.size W w' → RowIs eG Q w' (.slice ea en ec) (toL x.2)) := hid fun w' hb => hsl.row.keep (by decide) fun b _ hl => (Below.on hw hb).block b hl
  have HIH : Hid _ := hid ih
  clear hsl ih bx
  go_enter Try.func17, Try.ntmps17
  go_upto_region 1 with fail
  go_wp2
  clear hW
  generalize w.heap.size = q at d0 d1 d2 d3 d4 d5 d6 ⊢
  go_loopw [3, 4] (fun v3 v4 wr => ∃ (k : Nat) (z : Int), k ≤ en ∧ v4 = .int .i64 k ∧ v3 = .int .i64 z ∧ Below W.heap.size W wr ∧ 1 ≤ z ∧ z ≤ 1 + (suN ((toL x.2).take k) : Int)) (fun _ i _ => en - (intOf i).toNat)
  case atStart => exact ⟨0, 1, Nat.zero_le _, rfl, rfl, Below.refl _ _, by omega, by omega⟩
  case round =>
    obtain ⟨k, z, hk, rfl, rfl, hB, hz1, hz2⟩ := hrel
    have z6 := cell_later hB d6
    by_cases hlt : k < en
    · obtain ⟨_, _, _, e', _, _, _, hx⟩ := HAr.out wr hB
      cases e'
      obtain ⟨b, o, rfl, -, hxi⟩ := hx (by omega)
      obtain ⟨cs, hE, -, hcc⟩ := hxi k (by omega)
      have hIH := HIH.out _ (List.getElem_mem (l := toL x.2) (n := k) (by omega)) Q wr cs (HM.out k (by omega)) hE
      have hT := HT.out k (by omega)
      have hL1 := HL.out (k + 1)
      obtain ⟨y, hy⟩ : ∃ y, (toL x.2)[k]'(by omega) = y := ⟨_, rfl⟩
      rw [hy] at hE hT hIH
      obtain ⟨ya, yn, yc, rfl, -⟩ := hE
      simp only [exC] at hcc hIH
      have e0 : wr.cell? ⟨b, o + k * 7, none⟩ = some (.int .i64 y.1.1) := hcc 0 (show 0 < 7 by decide)
      have e1 : wr.cell? ⟨b, o + k * 7 + 1, none⟩ = some (.int .i64 y.1.2.1) := hcc 1 (show 1 < 7 by decide)
      have e2 : wr.cell? ⟨b, o + k * 7 + 2, none⟩ = some (.int .i64 y.1.2.2.1) := hcc 2 (show 2 < 7 by decide)
      have e3 : wr.cell? ⟨b, o + k * 7 + 3, none⟩ = some (.string y.1.2.2.2.1) := hcc 3 (show 3 < 7 by decide)
      have e4 : wr.cell? ⟨b, o + k * 7 + 4, none⟩ = some (.string y.1.2.2.2.2.1) := hcc 4 (show 4 < 7 by decide)
      have e5 : wr.cell? ⟨b, o + k * 7 + 5, none⟩ = some (.string y.1.2.2.2.2.2) := hcc 5 (show 5 < 7 by decide)
      have e6 : wr.cell? ⟨b, o + k * 7 + 6, none⟩ = some (.slice ya yn yc) := hcc 6 (show 6 < 7 by decide)
      have hkm : (k : Int) < (en : Int) := by omega
      have hwk : IntKind.i64.wrap ((k : Int) + 1) = (k : Int) + 1 := by
        show (if (true && decide (((k : Int) + 1) % (2 ^ 64 : Int) ≥ (2 ^ (64 - 1) : Int))) = true then ((k : Int) + 1) % (2 ^ 64 : Int) - (2 ^ 64 : Int) else ((k : Int) + 1) % (2 ^ 64 : Int)) = _
        rw [if_neg (by simp; omega)]
        omega
      replace hIH : Hid _ := hid hIH
      clear hcc hxi hx hy
      go_wp2_with fail
      refine Calls.mono hIH.out ?_
      rintro e w4 ⟨z2, rfl, hy1, hy2, hb4⟩
      have hwz : IntKind.i64.wrap (z + z2) = z + z2 := wrapK (by omega) (by omega)
      have hB4 := Below.on hB hb4
      clear hIH e0 e1 e2 e3 e4 e5 e6 z6 hb4
      go_wp2
      go_roundw
      case rel => exact ⟨k + 1, z + z2, by omega, by simp, rfl, hB4, by omega, by omega⟩
      case measure => simp only [intOf]; omega
    · obtain rfl : k = en := by omega
      go_wp2
      go_ret
      have hF := HF.out
      rw [hlen] at hF
      exact ⟨z, rfl, hz1, by omega, Below.on hw hB⟩
theorem nodesB_all : ∀ f : Tg, ∀ x ∈ toL f, NodesB x := by
  intro f
  induction f with
  | nil => intro x hx; simp [toL] at hx
  | node a b p l r ihl ihr =>
    intro x hx
    rw [toL, List.mem_cons] at hx
    rcases hx with rfl | hx
    · exact nodesB_step (p, l) ihl
    · exact ihr x hx
theorem nodesB_any (x : Pg × Tg) : NodesB x := nodesB_step x (nodesB_all x.2)
/-- How many nodes an expression of the play has. -/
def tsz : Tr → Nat
  | .nil => 0
  | .node _ _ _ l r => 1 + tsz l + tsz r
theorem cn_gT : ∀ (t : Tr) (s : Tg), cnN (gT t s) = tsz t + cnN s := by
  intro t
  induction t with
  | nil => intro s; simp [gT, tsz]
  | node x op p l r ihl ihr =>
    intro s
    show 1 + cnN (gT l (gT r .nil)) + cnN s = _
    rw [ihl, ihr]
    show 1 + (tsz l + (tsz r + 0)) + cnN s = 1 + tsz l + tsz r + cnN s
    omega
theorem cn_gP {t : Tr} (h : noT t = false) : cnN (gP t).2 ≤ tsz t := by
  cases t with
  | nil => cases h
  | node x op p l r =>
    show cnN (gT l (gT r .nil)) ≤ 1 + tsz l + tsz r
    rw [cn_gT, cn_gT]
    show tsz l + (tsz r + 0) ≤ _
    omega
theorem leaf_sz {C : Cl2} {k : Int} {t : Tr} (h : LeafOK C k t) : tsz t = 1 := by
  rcases h with ⟨tb, nm, rfl, -⟩ | ⟨i, s, rfl, -⟩ <;> rfl
theorem pl_sz : ∀ (n : Nat) {k : Int} {t : Tr}, Pl C0 n k t → tsz t + 1 ≤ 2 ^ (n + 1)
  | 0, k, t, h => by rw [leaf_sz h.2]; decide
  | n + 1, k, t, h => by
    have hp : 2 ^ (n + 1 + 1) = 2 * 2 ^ (n + 1) := by rw [Nat.pow_succ]; omega
    have hpos : 2 ≤ 2 ^ (n + 1) := by
      have := Nat.one_le_two_pow (n := n)
      rw [Nat.pow_succ]; omega
    rw [hp]
    rcases h with ⟨_, h⟩ | ⟨rfl, ⟨l, rfl, h⟩ | ⟨a, l, r, ha, rfl, hl, hr⟩⟩ | ⟨rfl, ⟨l, rfl, h⟩ | ⟨a, l, r, ha, rfl, hl, hr⟩ | ⟨a, k, l, r, ha, hk, rfl, hl, hr⟩⟩
    · rw [leaf_sz h]; omega
    · have := pl_sz n h
      show 1 + tsz l + 0 + 1 ≤ _
      omega
    · have h1 := pl_sz n hl
      have h2 := pl_sz n hr
      show 1 + tsz l + tsz r + 1 ≤ _
      omega
    · have := pl_sz n h
      show 1 + tsz l + 0 + 1 ≤ _
      omega
    · have h1 := pl_sz n hl
      have h2 := pl_sz n hr
      show 1 + tsz l + tsz r + 1 ≤ _
      omega
    · have h1 := pl_sz n hl
      have h2 := pl_sz n hr
      show 1 + tsz l + tsz r + 1 ≤ _
      omega
/-- What and, or, not come to, by what their parts come to. -/
theorem short_cases {a b : Vt × Int} (ha : a.2 = 0 → VF 3 a.1) (hb : b.2 = 0 → VF 3 b.1) :
    (a.2 ≠ 0 ∧ nz a = (vZ, a.2) ∧ nz (upP 0 a b) = (vZ, a.2) ∧ nz (upP 1 a b) = (vZ, a.2) ∧ nz (evO 4 a) = (vZ, a.2)) ∨
    (nz a = ((3, 0, ⟨#[]⟩), 0) ∧ nz (upP 0 a b) = ((3, 0, ⟨#[]⟩), 0) ∧ nz (upP 1 a b) = nz b ∧ nz (evO 4 a) = ((3, 1, ⟨#[]⟩), 0)) ∨
    (nz a = ((3, 1, ⟨#[]⟩), 0) ∧ nz (upP 0 a b) = nz b ∧ nz (upP 1 a b) = ((3, 1, ⟨#[]⟩), 0) ∧ nz (evO 4 a) = ((3, 0, ⟨#[]⟩), 0)) := by
  by_cases h : a.2 = 0
  · have hup : ∀ z : Int, ¬ a.1.2.1 = z → nz (upP z a b) = nz b := by
      intro z hz
      unfold upP
      rw [bo_ok h (ha h), if_neg (by simp), if_neg hz]
      by_cases g : b.2 = 0
      · rw [bo_ok g (hb g), if_neg (by simp), nz_ok g, nz_ok rfl]
        obtain ⟨b1, b2⟩ := b
        dsimp only at *
        subst g
        rcases (hb rfl).2.2.2 rfl with e | e <;> rw [e] <;> rfl
      · rw [bo_er g, if_pos (show (0, b.2).2 ≠ 0 from g), nz_er (r := b) g]
        exact nz_er g
    have hup0 : ∀ z : Int, a.1.2.1 = z → nz (upP z a b) = (trV (decide (z = 1)), 0) := by
      intro z hz
      unfold upP
      rw [bo_ok h (ha h), if_neg (by simp), if_pos hz]
      exact nz_ok rfl
    have hno : nz (evO 4 a) = (trV (!decide (a.1.2.1 = 1)), 0) := by
      unfold evO
      rw [erL_one, if_neg (by simpa using h)]
      show nz (trV (!decide ((knP a.1 3).1 = 1)), (knP a.1 3).2) = _
      rw [kn_ok (ha h).1]
      exact nz_ok rfl
    have hna : nz a = (a.1, 0) := by rw [nz_ok h]; exact Prod.ext rfl h
    rcases (ha h).2.2.2 rfl with e | e
    · right; right
      have e1 : a.1.2.1 = 1 := by rw [e]; rfl
      refine ⟨by rw [hna, e]; rfl, hup 0 (by rw [e1]; decide), by rw [hup0 1 e1]; rfl, by rw [hno, e1]; rfl⟩
    · right; left
      have e1 : a.1.2.1 = 0 := by rw [e]; rfl
      refine ⟨by rw [hna, e]; rfl, by rw [hup0 0 e1]; rfl, hup 1 (by rw [e1]; decide), by rw [hno, e1]; rfl⟩
  · left
    refine ⟨h, nz_er h, ?_, ?_, ?_⟩
    · unfold upP
      rw [bo_er h, if_pos (show (0, a.2).2 ≠ 0 from h)]
      exact nz_er h
    · unfold upP
      rw [bo_er h, if_pos (show (0, a.2).2 ≠ 0 from h)]
      exact nz_er h
    · unfold evO
      rw [erL_one, if_pos h]
      exact nz_er h

end Go.Proofs.Ytbmfehacnigknaa
