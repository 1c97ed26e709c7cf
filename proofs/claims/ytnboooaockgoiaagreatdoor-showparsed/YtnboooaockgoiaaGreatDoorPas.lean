import Derived.Test.YtnboooaockgoiaaGreatDoorPar
import Derived.Test.YtnboooaockgoiaaGreatDoorPaa
import Derived.Lib.ItoaLen
import Derived.Test.YtnboooaockgoiaaGreatDoorPaq
import Derived.Test.YtnboooaockgoiaaGreatDoorPai
import Derived.Deep.RegionHeld3
import Derived.BigRegion
import Derived.Test.YtnboooaockgoiaaGreatDoorPaj
namespace Go.Proofs.YtnboooaockgoiaaGreatDoor
open Go.RowKit
set_option linter.unusedVariables false

theorem RowIs.len {α : Type} {e : Ek α} {Q : Nat → Prop} {w : World} {a : Option Addr} {n c : Nat} {l : List α} (h : RowIs e Q w (.slice a n c) l) : l.length = n ∧ n ≤ c ∧ c ≤ 9223372036854775807 := by
  obtain ⟨ao, n0, c0, hv, hl, h1, h2, hx⟩ := h
  cases hv
  exact ⟨hl, h1, h2⟩
theorem at_one {w : World} {b o k : Nat} {v : Option Value} (h : w.cell? ⟨b, o + k * 1 + 0, none⟩ = v) : w.cell? ⟨b, o + k, none⟩ = v := by rw [Nat.mul_one, Nat.add_zero] at h; exact h

/-- Element k of two rows of the same things. -/
theorem row_col {Q Q' : Nat → Prop} {w : World} {a a' : Option Addr} {n n' c c' : Nat} {l : List Co} (h : RowIs eCol Q w (.slice a n c) l) (h' : RowIs eCol Q' w (.slice a' n' c') l) {k : Nat} (hk : k < n) {w1 : World} (hb : Below w.heap.size w w1) :
    ∃ (b o b' o' : Nat) (x1 : ByteArray) (x2 : Int) (x3 : ByteArray), a = some ⟨b, o, none⟩ ∧ a' = some ⟨b', o', none⟩ ∧ (w1.cell? ⟨b, o + k * 3, none⟩ = some (.string x1) ∧ w1.cell? ⟨b, o + k * 3 + 1, none⟩ = some (.int .i64 x2) ∧ w1.cell? ⟨b, o + k * 3 + 2, none⟩ = some (.string x3)) ∧ (w1.cell? ⟨b', o' + k * 3, none⟩ = some (.string x1) ∧ w1.cell? ⟨b', o' + k * 3 + 1, none⟩ = some (.int .i64 x2) ∧ w1.cell? ⟨b', o' + k * 3 + 2, none⟩ = some (.string x3)) := by
  obtain ⟨ao, n0, c0, hv, hl, _, _, hx⟩ := h
  cases hv
  obtain ⟨ao', n0', c0', hv', hl', _, _, hx'⟩ := h'
  cases hv'
  obtain ⟨b, o, ha, _, hi⟩ := hx (by omega)
  obtain ⟨b', o', ha', _, hi'⟩ := hx' (by omega)
  have hk' : k < l.length := by omega
  obtain ⟨cs, e1, _, hc⟩ := hi k hk'
  obtain ⟨cs', e1', _, hc'⟩ := hi' k hk'
  have e2 : cs = [.string (l[k]'hk').1, .int .i64 (l[k]'hk').2.1, .string (l[k]'hk').2.2] := e1
  have e2' : cs' = [.string (l[k]'hk').1, .int .i64 (l[k]'hk').2.1, .string (l[k]'hk').2.2] := e1'
  subst e2 e2'
  refine ⟨b, o, b', o', _, _, _, ha, ha', ⟨cell_later hb (hc 0 (show 0 < 3 by decide)), cell_later hb (hc 1 (show 1 < 3 by decide)), cell_later hb (hc 2 (show 2 < 3 by decide))⟩, ⟨cell_later hb (hc' 0 (show 0 < 3 by decide)), cell_later hb (hc' 1 (show 1 < 3 by decide)), cell_later hb (hc' 2 (show 2 < 3 by decide))⟩⟩

/-- Element k of two rows of the same things. -/
theorem row_item {Q Q' : Nat → Prop} {w : World} {a a' : Option Addr} {n n' c c' : Nat} {l : List It} (h : RowIs eItem Q w (.slice a n c) l) (h' : RowIs eItem Q' w (.slice a' n' c') l) {k : Nat} (hk : k < n) {w1 : World} (hb : Below w.heap.size w w1) :
    ∃ (b o b' o' : Nat) (x1 : Int) (x2 x3 : ByteArray), a = some ⟨b, o, none⟩ ∧ a' = some ⟨b', o', none⟩ ∧ (w1.cell? ⟨b, o + k * 3, none⟩ = some (.int .i64 x1) ∧ w1.cell? ⟨b, o + k * 3 + 1, none⟩ = some (.string x2) ∧ w1.cell? ⟨b, o + k * 3 + 2, none⟩ = some (.string x3)) ∧ (w1.cell? ⟨b', o' + k * 3, none⟩ = some (.int .i64 x1) ∧ w1.cell? ⟨b', o' + k * 3 + 1, none⟩ = some (.string x2) ∧ w1.cell? ⟨b', o' + k * 3 + 2, none⟩ = some (.string x3)) := by
  obtain ⟨ao, n0, c0, hv, hl, _, _, hx⟩ := h
  cases hv
  obtain ⟨ao', n0', c0', hv', hl', _, _, hx'⟩ := h'
  cases hv'
  obtain ⟨b, o, ha, _, hi⟩ := hx (by omega)
  obtain ⟨b', o', ha', _, hi'⟩ := hx' (by omega)
  have hk' : k < l.length := by omega
  obtain ⟨cs, e1, _, hc⟩ := hi k hk'
  obtain ⟨cs', e1', _, hc'⟩ := hi' k hk'
  have e2 : cs = [.int .i64 (l[k]'hk').1, .string (l[k]'hk').2.1, .string (l[k]'hk').2.2] := e1
  have e2' : cs' = [.int .i64 (l[k]'hk').1, .string (l[k]'hk').2.1, .string (l[k]'hk').2.2] := e1'
  subst e2 e2'
  refine ⟨b, o, b', o', _, _, _, ha, ha', ⟨cell_later hb (hc 0 (show 0 < 3 by decide)), cell_later hb (hc 1 (show 1 < 3 by decide)), cell_later hb (hc 2 (show 2 < 3 by decide))⟩, ⟨cell_later hb (hc' 0 (show 0 < 3 by decide)), cell_later hb (hc' 1 (show 1 < 3 by decide)), cell_later hb (hc' 2 (show 2 < 3 by decide))⟩⟩

/-- Element k of two rows of the same things. -/
theorem row_tag {Q Q' : Nat → Prop} {w : World} {a a' : Option Addr} {n n' c c' : Nat} {l : List Int} (h : RowIs eTag Q w (.slice a n c) l) (h' : RowIs eTag Q' w (.slice a' n' c') l) {k : Nat} (hk : k < n) {w1 : World} (hb : Below w.heap.size w w1) :
    ∃ (b o b' o' : Nat) (x1 : Int), a = some ⟨b, o, none⟩ ∧ a' = some ⟨b', o', none⟩ ∧ (w1.cell? ⟨b, o + k, none⟩ = some (.int .u16 x1)) ∧ (w1.cell? ⟨b', o' + k, none⟩ = some (.int .u16 x1)) := by
  obtain ⟨ao, n0, c0, hv, hl, _, _, hx⟩ := h
  cases hv
  obtain ⟨ao', n0', c0', hv', hl', _, _, hx'⟩ := h'
  cases hv'
  obtain ⟨b, o, ha, _, hi⟩ := hx (by omega)
  obtain ⟨b', o', ha', _, hi'⟩ := hx' (by omega)
  have hk' : k < l.length := by omega
  obtain ⟨cs, e1, _, hc⟩ := hi k hk'
  obtain ⟨cs', e1', _, hc'⟩ := hi' k hk'
  have e2 : cs = [.int .u16 (l[k]'hk')] := e1
  have e2' : cs' = [.int .u16 (l[k]'hk')] := e1'
  subst e2 e2'
  refine ⟨b, o, b', o', _, ha, ha', cell_later hb (at_one (hc 0 (show 0 < 1 by decide))), cell_later hb (at_one (hc' 0 (show 0 < 1 by decide)))⟩

theorem row_stm {Q Q' : Nat → Prop} {w : World} {a a' : Option Addr} {n n' c c' : Nat} {l : List Sm} (h : RowIs eStmt Q w (.slice a n c) l) (h' : RowIs eStmt Q' w (.slice a' n' c') l) {k : Nat} (hk : k < n) {w1 : World} (hb : Below w.heap.size w w1) :
    ∃ (b o b' o' : Nat) (s s' : Sv) (x : Sm), x ∈ l ∧ a = some ⟨b, o, none⟩ ∧ a' = some ⟨b', o', none⟩ ∧ (w1.cell? ⟨b, o + k * 13, none⟩ = some (.int .i64 s.k) ∧ w1.cell? ⟨b, o + k * 13 + 1, none⟩ = some (.string s.tb) ∧ w1.cell? ⟨b, o + k * 13 + 2, none⟩ = some (.string s.nm) ∧ w1.cell? ⟨b, o + k * 13 + 3, none⟩ = some (.slice s.co.1 s.co.2.1 s.co.2.2) ∧ w1.cell? ⟨b, o + k * 13 + 4, none⟩ = some (.slice s.ta.1 s.ta.2.1 s.ta.2.2) ∧ w1.cell? ⟨b, o + k * 13 + 5, none⟩ = some (.slice s.va.1 s.va.2.1 s.va.2.2) ∧ w1.cell? ⟨b, o + k * 13 + 6, none⟩ = some (.slice s.it.1 s.it.2.1 s.it.2.2) ∧ w1.cell? ⟨b, o + k * 13 + 7, none⟩ = some (.string s.jn) ∧ w1.cell? ⟨b, o + k * 13 + 8, none⟩ = some (.slice s.on.1 s.on.2.1 s.on.2.2) ∧ w1.cell? ⟨b, o + k * 13 + 9, none⟩ = some (.slice s.wh.1 s.wh.2.1 s.wh.2.2) ∧ w1.cell? ⟨b, o + k * 13 + 10, none⟩ = some (.slice s.od.1 s.od.2.1 s.od.2.2) ∧ w1.cell? ⟨b, o + k * 13 + 11, none⟩ = some (.bool s.ds) ∧ w1.cell? ⟨b, o + k * 13 + 12, none⟩ = some (.slice s.inn.1 s.inn.2.1 s.inn.2.2)) ∧ (w1.cell? ⟨b', o' + k * 13, none⟩ = some (.int .i64 s'.k) ∧ w1.cell? ⟨b', o' + k * 13 + 1, none⟩ = some (.string s'.tb) ∧ w1.cell? ⟨b', o' + k * 13 + 2, none⟩ = some (.string s'.nm) ∧ w1.cell? ⟨b', o' + k * 13 + 3, none⟩ = some (.slice s'.co.1 s'.co.2.1 s'.co.2.2) ∧ w1.cell? ⟨b', o' + k * 13 + 4, none⟩ = some (.slice s'.ta.1 s'.ta.2.1 s'.ta.2.2) ∧ w1.cell? ⟨b', o' + k * 13 + 5, none⟩ = some (.slice s'.va.1 s'.va.2.1 s'.va.2.2) ∧ w1.cell? ⟨b', o' + k * 13 + 6, none⟩ = some (.slice s'.it.1 s'.it.2.1 s'.it.2.2) ∧ w1.cell? ⟨b', o' + k * 13 + 7, none⟩ = some (.string s'.jn) ∧ w1.cell? ⟨b', o' + k * 13 + 8, none⟩ = some (.slice s'.on.1 s'.on.2.1 s'.on.2.2) ∧ w1.cell? ⟨b', o' + k * 13 + 9, none⟩ = some (.slice s'.wh.1 s'.wh.2.1 s'.wh.2.2) ∧ w1.cell? ⟨b', o' + k * 13 + 10, none⟩ = some (.slice s'.od.1 s'.od.2.1 s'.od.2.2) ∧ w1.cell? ⟨b', o' + k * 13 + 11, none⟩ = some (.bool s'.ds) ∧ w1.cell? ⟨b', o' + k * 13 + 12, none⟩ = some (.slice s'.inn.1 s'.inn.2.1 s'.inn.2.2)) ∧ (IsS Q w x s ∧ s.inn = (none, 0, 0)) ∧ IsS Q' w x s' ∧ s'.inn = (none, 0, 0) := by
  obtain ⟨ao, n0, c0, hv, hl, _, _, hx⟩ := h
  cases hv
  obtain ⟨ao', n0', c0', hv', hl', _, _, hx'⟩ := h'
  cases hv'
  obtain ⟨b, o, ha, _, hi⟩ := hx (by omega)
  obtain ⟨b', o', ha', _, hi'⟩ := hx' (by omega)
  obtain ⟨cs, ⟨s, rfl, g1, g2⟩, _, hc⟩ := hi k (by omega)
  obtain ⟨cs', ⟨s', rfl, g1', g2'⟩, _, hc'⟩ := hi' k (by omega)
  refine ⟨b, o, b', o', s, s', l[k]'(by omega), List.getElem_mem _, ha, ha', ⟨cell_later hb (hc 0 (show 0 < 13 by decide)), cell_later hb (hc 1 (show 1 < 13 by decide)), cell_later hb (hc 2 (show 2 < 13 by decide)), cell_later hb (hc 3 (show 3 < 13 by decide)), cell_later hb (hc 4 (show 4 < 13 by decide)), cell_later hb (hc 5 (show 5 < 13 by decide)), cell_later hb (hc 6 (show 6 < 13 by decide)), cell_later hb (hc 7 (show 7 < 13 by decide)), cell_later hb (hc 8 (show 8 < 13 by decide)), cell_later hb (hc 9 (show 9 < 13 by decide)), cell_later hb (hc 10 (show 10 < 13 by decide)), cell_later hb (hc 11 (show 11 < 13 by decide)), cell_later hb (hc 12 (show 12 < 13 by decide))⟩, ⟨cell_later hb (hc' 0 (show 0 < 13 by decide)), cell_later hb (hc' 1 (show 1 < 13 by decide)), cell_later hb (hc' 2 (show 2 < 13 by decide)), cell_later hb (hc' 3 (show 3 < 13 by decide)), cell_later hb (hc' 4 (show 4 < 13 by decide)), cell_later hb (hc' 5 (show 5 < 13 by decide)), cell_later hb (hc' 6 (show 6 < 13 by decide)), cell_later hb (hc' 7 (show 7 < 13 by decide)), cell_later hb (hc' 8 (show 8 < 13 by decide)), cell_later hb (hc' 9 (show 9 < 13 by decide)), cell_later hb (hc' 10 (show 10 < 13 by decide)), cell_later hb (hc' 11 (show 11 < 13 by decide)), cell_later hb (hc' 12 (show 12 < 13 by decide))⟩, ⟨g1, g2⟩, g1', g2'⟩

set_option maxRecDepth 100000 in
set_option maxHeartbeats 8000000 in
theorem sameStmt_step {m : Sm} {ms : List Sm} (hin : ∀ x ∈ ms, ∀ (Q Q' : Nat → Prop) (w : World) (s s' : Sv), IsS Q w x s → s.inn = (none, 0, 0) → IsS Q' w x s' → s'.inn = (none, 0, 0) → Calls Tryz.prog 17 #[stV s, stV s'] w fun e w' => e = .returned (.bool true) ∧ Below w.heap.size w w')
    {Q Q' : Nat → Prop} {w : World} {s s' : Sv} (h1 : IsS Q w m s) (i1 : RowIs eStmt Q w (slV s.inn) ms) (h2 : IsS Q' w m s') (i2 : RowIs eStmt Q' w (slV s'.inn) ms) :
    Calls Tryz.prog 17 #[stV s, stV s'] w fun e w' => e = .returned (.bool true) ∧ Below w.heap.size w w' := by
  obtain ⟨k, tb, nm, ⟨co, con, coc⟩, ⟨ta, tan, tac⟩, ⟨va, van, vac⟩, ⟨it, itn, itc⟩, jn, ⟨on, onn, onc⟩, ⟨wh, whn, whc⟩, ⟨od, odn, odc⟩, ds, ⟨inn, innn, innc⟩⟩ := s
  obtain ⟨k', tb', nm', ⟨co', con', coc'⟩, ⟨ta', tan', tac'⟩, ⟨va', van', vac'⟩, ⟨it', itn', itc'⟩, jn', ⟨on', onn', onc'⟩, ⟨wh', whn', whc'⟩, ⟨od', odn', odc'⟩, ds', ⟨inn', innn', innc'⟩⟩ := s'
  obtain rfl : k' = k := h2.k.trans h1.k.symm
  obtain rfl : tb' = tb := h2.tb.trans h1.tb.symm
  obtain rfl : nm' = nm := h2.nm.trans h1.nm.symm
  obtain rfl : jn' = jn := h2.jn.trans h1.jn.symm
  obtain rfl : ds' = ds := h2.ds.trans h1.ds.symm
  obtain ⟨l_co, b_co, d_co⟩ := RowIs.len h1.co
  obtain ⟨l_co', b_co', d_co'⟩ := RowIs.len h2.co
  obtain rfl : con' = con := l_co'.symm.trans l_co
  obtain ⟨l_ta, b_ta, d_ta⟩ := RowIs.len h1.ta
  obtain ⟨l_ta', b_ta', d_ta'⟩ := RowIs.len h2.ta
  obtain rfl : tan' = tan := l_ta'.symm.trans l_ta
  obtain ⟨l_va, b_va, d_va⟩ := RowIs.len h1.va
  obtain ⟨l_va', b_va', d_va'⟩ := RowIs.len h2.va
  obtain rfl : van' = van := l_va'.symm.trans l_va
  obtain ⟨l_it, b_it, d_it⟩ := RowIs.len h1.it
  obtain ⟨l_it', b_it', d_it'⟩ := RowIs.len h2.it
  obtain rfl : itn' = itn := l_it'.symm.trans l_it
  obtain ⟨l_on, b_on, d_on⟩ := RowIs.len h1.on
  obtain ⟨l_on', b_on', d_on'⟩ := RowIs.len h2.on
  obtain rfl : onn' = onn := l_on'.symm.trans l_on
  obtain ⟨l_wh, b_wh, d_wh⟩ := RowIs.len h1.wh
  obtain ⟨l_wh', b_wh', d_wh'⟩ := RowIs.len h2.wh
  obtain rfl : whn' = whn := l_wh'.symm.trans l_wh
  obtain ⟨l_od, b_od, d_od⟩ := RowIs.len h1.od
  obtain ⟨l_od', b_od', d_od'⟩ := RowIs.len h2.od
  obtain rfl : odn' = odn := l_od'.symm.trans l_od
  obtain ⟨l_in, b_in, d_in⟩ := RowIs.len i1
  obtain ⟨l_in', b_in', d_in'⟩ := RowIs.len i2
  obtain rfl : innn' = innn := l_in'.symm.trans l_in
  generalize con' = con at *
  generalize tan' = tan at *
  generalize van' = van at *
  generalize itn' = itn at *
  generalize onn' = onn at *
  generalize whn' = whn at *
  generalize odn' = odn at *
  generalize innn' = innn at *
  generalize k' = k at *
  generalize tb' = tb at *
  generalize nm' = nm at *
  generalize jn' = jn at *
  generalize ds' = ds at *
  have HCo : Hid (∀ k, k < con → ∀ w1, Below w.heap.size w w1 → _) := hid fun k hk w1 hb => row_col h1.co h2.co hk hb
  have HTa : Hid (∀ k, k < tan → ∀ w1, Below w.heap.size w w1 → _) := hid fun k hk w1 hb => row_tag h1.ta h2.ta hk hb
  have HIt : Hid (∀ k, k < itn → ∀ w1, Below w.heap.size w w1 → _) := hid fun k hk w1 hb => row_item h1.it h2.it hk hb
  have HIn : Hid (∀ k, k < innn → ∀ w1, Below w.heap.size w w1 → _) := hid fun k hk w1 hb => row_stm i1 i2 hk hb
  have HSu : Hid _ := hid hin
  have HVa : Hid (∀ w1, Below w.heap.size w w1 → _) := hid fun w1 hb => sameExprs_any (fun t _ => sameExpr_all t) (h1.va.later (by decide) hb) (h2.va.later (by decide) hb)
  have HOn : Hid (∀ w1, Below w.heap.size w w1 → _) := hid fun w1 hb => sameExprs_any (fun t _ => sameExpr_all t) (h1.on.later (by decide) hb) (h2.on.later (by decide) hb)
  have HWh : Hid (∀ w1, Below w.heap.size w w1 → _) := hid fun w1 hb => sameExprs_any (fun t _ => sameExpr_all t) (h1.wh.later (by decide) hb) (h2.wh.later (by decide) hb)
  have HOd : Hid (∀ w1, Below w.heap.size w w1 → _) := hid fun w1 hb => sameExprs_any (fun t _ => sameExpr_all t) (h1.od.later (by decide) hb) (h2.od.later (by decide) hb)
  have hneC : ∀ (a : ByteArray) (b : Int) (c : ByteArray) w, (binOp .neq 62 (.agg #[.string a, .int .i64 b, .string c]) (.agg #[.string a, .int .i64 b, .string c])).run Tryz.prog w = .ok (.bool false) w := fun a b c w => by go_simp
  have hneI : ∀ (a : Int) (b c : ByteArray) w, (binOp .neq 64 (.agg #[.int .i64 a, .string b, .string c]) (.agg #[.int .i64 a, .string b, .string c])).run Tryz.prog w = .ok (.bool false) w := fun a b c w => by go_simp
  clear hin h1 h2 i1 i2 l_co l_co' l_ta l_ta' l_va l_va' l_it l_it' l_on l_on' l_wh l_wh' l_od l_od' l_in l_in'
  have xa : Bs ((w.alloc (.cells #[.int .i64 k, .string tb, .string nm, .slice co con coc, .slice ta tan tac, .slice va van vac, .slice it itn itc, .string jn, .slice on onn onc, .slice wh whn whc, .slice od odn odc, .bool ds, .slice inn innn innc] 48)).alloc (.cells #[.int .i64 k, .string tb, .string nm, .slice co' con coc', .slice ta' tan tac', .slice va' van vac', .slice it' itn itc', .string jn, .slice on' onn onc', .slice wh' whn whc', .slice od' odn odc', .bool ds, .slice inn' innn innc'] 48)) w.heap.size ⟨k, tb, nm, (co, con, coc), (ta, tan, tac), (va, van, vac), (it, itn, itc), jn, (on, onn, onc), (wh, whn, whc), (od, odn, odc), ds, (inn, innn, innc)⟩ := (Bs.new w ⟨k, tb, nm, (co, con, coc), (ta, tan, tac), (va, van, vac), (it, itn, itc), jn, (on, onn, onc), (wh, whn, whc), (od, odn, odc), ds, (inn, innn, innc)⟩).later (bal (Below.refl _ _) _)
  have xb : Bs ((w.alloc (.cells #[.int .i64 k, .string tb, .string nm, .slice co con coc, .slice ta tan tac, .slice va van vac, .slice it itn itc, .string jn, .slice on onn onc, .slice wh whn whc, .slice od odn odc, .bool ds, .slice inn innn innc] 48)).alloc (.cells #[.int .i64 k, .string tb, .string nm, .slice co' con coc', .slice ta' tan tac', .slice va' van vac', .slice it' itn itc', .string jn, .slice on' onn onc', .slice wh' whn whc', .slice od' odn odc', .bool ds, .slice inn' innn innc'] 48)) (w.heap.size + 1) ⟨k, tb, nm, (co', con, coc'), (ta', tan, tac'), (va', van, vac'), (it', itn, itc'), jn, (on', onn, onc'), (wh', whn, whc'), (od', odn, odc'), ds, (inn', innn, innc')⟩ := by
    have := Bs.new (w.alloc (.cells #[.int .i64 k, .string tb, .string nm, .slice co con coc, .slice ta tan tac, .slice va van vac, .slice it itn itc, .string jn, .slice on onn onc, .slice wh whn whc, .slice od odn odc, .bool ds, .slice inn innn innc] 48)) ⟨k, tb, nm, (co', con, coc'), (ta', tan, tac'), (va', van, vac'), (it', itn, itc'), jn, (on', onn, onc'), (wh', whn, whc'), (od', odn, odc'), ds, (inn', innn, innc')⟩
    rw [World.size_alloc] at this
    exact this
  have hBW : Below w.heap.size w ((w.alloc (.cells #[.int .i64 k, .string tb, .string nm, .slice co con coc, .slice ta tan tac, .slice va van vac, .slice it itn itc, .string jn, .slice on onn onc, .slice wh whn whc, .slice od odn odc, .bool ds, .slice inn innn innc] 48)).alloc (.cells #[.int .i64 k, .string tb, .string nm, .slice co' con coc', .slice ta' tan tac', .slice va' van vac', .slice it' itn itc', .string jn, .slice on' onn onc', .slice wh' whn whc', .slice od' odn odc', .bool ds, .slice inn' innn innc'] 48)) := bal (bal (Below.refl _ w) _) _
  unfold stV
  go_enter Tryz.func17, Tryz.ntmps17
  go_upto_region 3 with fail
  generalize (w.alloc (.cells #[.int .i64 k, .string tb, .string nm, .slice co con coc, .slice ta tan tac, .slice va van vac, .slice it itn itc, .string jn, .slice on onn onc, .slice wh whn whc, .slice od odn odc, .bool ds, .slice inn innn innc] 48)).alloc (.cells #[.int .i64 k, .string tb, .string nm, .slice co' con coc', .slice ta' tan tac', .slice va' van vac', .slice it' itn itc', .string jn, .slice on' onn onc', .slice wh' whn whc', .slice od' odn odc', .bool ds, .slice inn' innn innc'] 48) = W at *
  have HW : Hid (∀ w', Below W.heap.size W w' → Below w.heap.size w w' ∧ Bs w' w.heap.size ⟨k, tb, nm, (co, con, coc), (ta, tan, tac), (va, van, vac), (it, itn, itc), jn, (on, onn, onc), (wh, whn, whc), (od, odn, odc), ds, (inn, innn, innc)⟩ ∧ Bs w' (w.heap.size + 1) ⟨k, tb, nm, (co', con, coc'), (ta', tan, tac'), (va', van, vac'), (it', itn, itc'), jn, (on', onn, onc'), (wh', whn, whc'), (od', odn, odc'), ds, (inn', innn, innc')⟩) := hid fun w' hb => ⟨Below.on hBW hb, xa.later hb, xb.later hb⟩
  clear xa xb hBW
  generalize w.heap.size + 1 = qb at *
  generalize hqa : w.heap.size = qa at *
  have HB0 : Hid (Below W.heap.size W W) := hid (Below.refl _ _)
  go_wp2
  go_loopw [5] (fun v wr => ∃ k : Nat, k ≤ con ∧ v = .int .i64 k ∧ Hid (Below W.heap.size W wr)) (fun v _ => con - (intOf v).toNat)
  case atStart => exact ⟨0, Nat.zero_le _, rfl, HB0⟩
  case round =>
    clear HB0
    obtain ⟨i, hi, rfl, HB⟩ := hrel
    obtain ⟨hbw, xa, xb⟩ := HW.out wr HB.out
    have ca : wr.cell? ⟨qa, 3, none⟩ = some (.slice co con coc) := xa.cells.2.2.2.1
    have cb : wr.cell? ⟨qb, 3, none⟩ = some (.slice co' con coc') := xb.cells.2.2.2.1
    have hla := xa.lt
    have hlb := xb.lt
    by_cases hlt : i < con
    · obtain ⟨b, o, b', o', x1, x2, x3, rfl, rfl, ⟨a0, a1, a2⟩, e0, e1, e2⟩ := HCo.out i hlt wr hbw
      clear xa xb hbw
      go_wp2
      go_quiet (fail)
      go_wp2
      go_roundw
      case rel => exact ⟨i + 1, by omega, by go_num, hid (below_drewN HB.out _)⟩
      case measure => simp only [intOf]; omega
    · obtain rfl : i = con := by omega
      have HB0 : Hid _ := hid HB.out
      clear HB hbw xa xb HCo
      generalize wr = w0 at *
      go_wp2
      go_loopw [6] (fun v wr => ∃ k : Nat, k ≤ tan ∧ v = .int .i64 k ∧ Hid (Below W.heap.size W wr)) (fun v _ => tan - (intOf v).toNat)
      case atStart => exact ⟨0, Nat.zero_le _, rfl, HB0⟩
      case round =>
        clear HB0
        obtain ⟨i, hi, rfl, HB⟩ := hrel
        obtain ⟨hbw, xa, xb⟩ := HW.out wr HB.out
        have ca : wr.cell? ⟨qa, 4, none⟩ = some (.slice ta tan tac) := xa.cells.2.2.2.2.1
        have cb : wr.cell? ⟨qb, 4, none⟩ = some (.slice ta' tan tac') := xb.cells.2.2.2.2.1
        have hla := xa.lt
        have hlb := xb.lt
        by_cases hlt : i < tan
        · obtain ⟨b, o, b', o', x1, rfl, rfl, a0, e0⟩ := HTa.out i hlt wr hbw
          clear xa xb hbw
          go_wp2
          go_quiet (fail)
          go_wp2
          go_roundw
          case rel => exact ⟨i + 1, by omega, by go_num, hid (below_drewN HB.out _)⟩
          case measure => simp only [intOf]; omega
        · obtain rfl : i = tan := by omega
          have HB0 : Hid _ := hid HB.out
          clear HB hbw xa xb HTa
          generalize wr = w0 at *
          go_wp2
          go_loopw [7] (fun v wr => ∃ k : Nat, k ≤ itn ∧ v = .int .i64 k ∧ Hid (Below W.heap.size W wr)) (fun v _ => itn - (intOf v).toNat)
          case atStart => exact ⟨0, Nat.zero_le _, rfl, HB0⟩
          case round =>
            clear HB0
            obtain ⟨i, hi, rfl, HB⟩ := hrel
            obtain ⟨hbw, xa, xb⟩ := HW.out wr HB.out
            have ca : wr.cell? ⟨qa, 6, none⟩ = some (.slice it itn itc) := xa.cells.2.2.2.2.2.2.1
            have cb : wr.cell? ⟨qb, 6, none⟩ = some (.slice it' itn itc') := xb.cells.2.2.2.2.2.2.1
            have hla := xa.lt
            have hlb := xb.lt
            by_cases hlt : i < itn
            · obtain ⟨b, o, b', o', x1, x2, x3, rfl, rfl, ⟨a0, a1, a2⟩, e0, e1, e2⟩ := HIt.out i hlt wr hbw
              clear xa xb hbw
              go_wp2
              go_quiet (fail)
              go_wp2
              go_roundw
              case rel => exact ⟨i + 1, by omega, by go_num, hid (below_drewN HB.out _)⟩
              case measure => simp only [intOf]; omega
            · obtain rfl : i = itn := by omega
              have HB0 : Hid _ := hid HB.out
              clear HB hbw xa xb HIt
              generalize wr = w0 at *
              go_wp2
              go_loopw [8] (fun v wr => ∃ k : Nat, k ≤ innn ∧ v = .int .i64 k ∧ Hid (Below W.heap.size W wr)) (fun v _ => innn - (intOf v).toNat)
              case atStart => exact ⟨0, Nat.zero_le _, rfl, HB0⟩
              case round =>
                clear HB0
                obtain ⟨i, hi, rfl, HB⟩ := hrel
                obtain ⟨hbw, xa, xb⟩ := HW.out wr HB.out
                have ca : wr.cell? ⟨qa, 12, none⟩ = some (.slice inn innn innc) := xa.cells.2.2.2.2.2.2.2.2.2.2.2.2
                have cb : wr.cell? ⟨qb, 12, none⟩ = some (.slice inn' innn innc') := xb.cells.2.2.2.2.2.2.2.2.2.2.2.2
                have hla := xa.lt
                have hlb := xb.lt
                by_cases hlt : i < innn
                · obtain ⟨b, o, b', o', s, s', x, hxm, rfl, rfl, ⟨a0, a1, a2, a3, a4, a5, a6, a7, a8, a9, a10, a11, a12⟩, ⟨e0, e1, e2, e3, e4, e5, e6, e7, e8, e9, e10, e11, e12⟩, ⟨g1, g2⟩, g1', g2'⟩ := HIn.out i hlt wr hbw
                  have HC : Hid _ := hid (HSu.out x hxm _ _ wr.drew s s' (g1.keep fun b _ hl => hbw.drew.block b (by first | exact hl | omega)) g2 (g1'.keep fun b _ hl => hbw.drew.block b (by first | exact hl | omega)) g2')
                  have hBd : Below W.heap.size W wr.drew := HB.out.drew
                  unfold stV at HC
                  clear xa xb hbw HIn HSu g1 g2 g1' g2' hxm
                  go_upto_region 21 with fail
                  go_region_with (first | (refine Calls.mono HC.out ?_; rintro e z1 ⟨rfl, hb1⟩))
                  all_goals
                    have hB1 := Below.on hBd hb1
                    clear HC hb1 hBd
                    go_wp2
                    go_roundw
                    case rel => exact ⟨i + 1, by omega, by go_num, hid hB1⟩
                    case measure => simp only [intOf]; omega
                · obtain rfl : i = innn := by omega
                  have HB0 : Hid _ := hid HB.out
                  clear HB hbw xa xb HIn HSu
                  generalize wr = w0 at *
                  obtain ⟨hbw, xa, xb⟩ := HW.out w0 HB0.out
                  have ca5 : w0.cell? ⟨qa, 5, none⟩ = some (.slice va van vac) := xa.cells.2.2.2.2.2.1
                  have cb5 : w0.cell? ⟨qb, 5, none⟩ = some (.slice va' van vac') := xb.cells.2.2.2.2.2.1
                  have H5 : Hid _ := hid (HVa.out w0 hbw)
                  clear xa xb HVa
                  go_wp2_with fail
                  refine Calls.mono H5.out ?_
                  rintro e v1 ⟨rfl, hb1⟩
                  have HB1 : Hid _ := hid (Below.on HB0.out hb1)
                  clear H5 hb1 HB0 hbw ca5 cb5
                  obtain ⟨hbw, xa, xb⟩ := HW.out v1 HB1.out
                  have ca8 : v1.cell? ⟨qa, 8, none⟩ = some (.slice on onn onc) := xa.cells.2.2.2.2.2.2.2.2.1
                  have cb8 : v1.cell? ⟨qb, 8, none⟩ = some (.slice on' onn onc') := xb.cells.2.2.2.2.2.2.2.2.1
                  have H8 : Hid _ := hid (HOn.out v1 hbw)
                  clear xa xb HOn
                  go_wp2_with fail
                  refine Calls.mono H8.out ?_
                  rintro e v2 ⟨rfl, hb2⟩
                  have HB2 : Hid _ := hid (Below.on HB1.out hb2)
                  clear H8 hb2 HB1 hbw ca8 cb8
                  obtain ⟨hbw, xa, xb⟩ := HW.out v2 HB2.out
                  have ca9 : v2.cell? ⟨qa, 9, none⟩ = some (.slice wh whn whc) := xa.cells.2.2.2.2.2.2.2.2.2.1
                  have cb9 : v2.cell? ⟨qb, 9, none⟩ = some (.slice wh' whn whc') := xb.cells.2.2.2.2.2.2.2.2.2.1
                  have H9 : Hid _ := hid (HWh.out v2 hbw)
                  clear xa xb HWh
                  go_wp2_with fail
                  refine Calls.mono H9.out ?_
                  rintro e v3 ⟨rfl, hb3⟩
                  have HB3 : Hid _ := hid (Below.on HB2.out hb3)
                  clear H9 hb3 HB2 hbw ca9 cb9
                  obtain ⟨hbw, xa, xb⟩ := HW.out v3 HB3.out
                  have ca10 : v3.cell? ⟨qa, 10, none⟩ = some (.slice od odn odc) := xa.cells.2.2.2.2.2.2.2.2.2.2.1
                  have cb10 : v3.cell? ⟨qb, 10, none⟩ = some (.slice od' odn odc') := xb.cells.2.2.2.2.2.2.2.2.2.2.1
                  have H10 : Hid _ := hid (HOd.out v3 hbw)
                  clear xa xb HOd
                  go_wp2_with fail
                  refine Calls.mono H10.out ?_
                  rintro e v4 ⟨rfl, hb4⟩
                  have hB4 := (HW.out v4 (Below.on HB3.out hb4)).1
                  clear H10 hb4 HB3 hbw ca10 cb10
                  go_wp2
                  go_ret
                  exact ⟨rfl, by rw [hqa]; exact hB4⟩

theorem sameStmt_one {m : Sm} (Q Q' : Nat → Prop) (w : World) (s s' : Sv) (h1 : IsS Q w m s) (i1 : s.inn = (none, 0, 0)) (h2 : IsS Q' w m s') (i2 : s'.inn = (none, 0, 0)) :
    Calls Tryz.prog 17 #[stV s, stV s'] w fun e w' => e = .returned (.bool true) ∧ Below w.heap.size w w' :=
  sameStmt_step (ms := []) (fun x hx => by cases hx) h1 (by rw [i1]; exact RowIs.nil _ _ _) h2 (by rw [i2]; exact RowIs.nil _ _ _)
theorem sameStmt_any {m : Sf} {Q Q' : Nat → Prop} {w : World} {s s' : Sv} (h1 : IsS Q w m.1 s) (i1 : RowIs eStmt Q w (slV s.inn) m.2) (h2 : IsS Q' w m.1 s') (i2 : RowIs eStmt Q' w (slV s'.inn) m.2) :
    Calls Tryz.prog 17 #[stV s, stV s'] w fun e w' => e = .returned (.bool true) ∧ Below w.heap.size w w' :=
  sameStmt_step (fun x _ Q Q' w s s' a b c d => sameStmt_one Q Q' w s s' a b c d) h1 i1 h2 i2

end Go.Proofs.YtnboooaockgoiaaGreatDoor
namespace Go.Proofs.YtnboooaockgoiaaGreatDoor
open Go.RowKit
set_option linter.unusedVariables false

end Go.Proofs.YtnboooaockgoiaaGreatDoor
namespace Go.Proofs.YtnboooaockgoiaaGreatDoor
open Go.RowKit
set_option linter.unusedVariables false


theorem dec_one {u : Nat} (h : u < 10) : Lib.decDigits u = [UInt8.ofNat (48 + u)] := Lib.decDigits_one h
theorem dec_more {u : Nat} (h : ¬ u < 10) : Lib.decDigits u = Lib.decDigits (u / 10) ++ [UInt8.ofNat (48 + u % 10)] := by rw [Lib.decDigits, dif_neg h]

end Go.Proofs.YtnboooaockgoiaaGreatDoor
namespace Go.Proofs.YtnboooaockgoiaaGreatDoor
open Go.RowKit
set_option linter.unusedVariables false

/-- Each mark twice. -/
def dblQ : List UInt8 → List UInt8
  | [] => []
  | x :: r => if x.toNat = 39 then x :: 39 :: dblQ r else x :: dblQ r
theorem dblQ_len (l : List UInt8) : (dblQ l).length ≤ 2 * l.length := by
  induction l with
  | nil => exact Nat.le_refl _
  | cons y l ih =>
    rw [dblQ]
    split <;> simp <;> omega
/-- A text in its marks. -/
def quB (s : ByteArray) : ByteArray := ⟨(39 :: dblQ (bs s) ++ [39]).toArray⟩
def vaB (p : Pay) : ByteArray := if p.1 = 1 then ⟨(Lib.itoa p.2.1).toArray⟩ else quB p.2.2.1
def coB (t n : ByteArray) : ByteArray := if t = ⟨#[]⟩ then n else (t ++ ⟨#[46]⟩) ++ n

theorem quB_size (s : ByteArray) : (quB s).size ≤ 2 * s.size + 2 := by
  have h := dblQ_len (bs s)
  rw [bs_length] at h
  rw [quB, sz_mk]
  simp
  omega

end Go.Proofs.YtnboooaockgoiaaGreatDoor
namespace Go.Proofs.YtnboooaockgoiaaGreatDoor
open Go.RowKit
set_option linter.unusedVariables false

/-- The words between two, by number less five. -/
def opT : Nat → ByteArray
  | 0 => ⟨#[43]⟩
  | 1 => ⟨#[45]⟩
  | 2 => ⟨#[42]⟩
  | 3 => ⟨#[61]⟩
  | 4 => ⟨#[60, 62]⟩
  | 5 => ⟨#[60]⟩
  | 6 => ⟨#[60, 61]⟩
  | 7 => ⟨#[62]⟩
  | 8 => ⟨#[62, 61]⟩
  | 9 => ⟨#[97, 110, 100]⟩
  | _ => ⟨#[111, 114]⟩
def shE : Tr → ByteArray
  | .nil => ⟨#[]⟩
  | .node _ op p l r =>
    if op = 1 then (if p.1 = 1 ∧ p.2.1 < 0 then ⟨#[]⟩ else vaB p)
    else if op = 2 then coB p.2.2.2.1 p.2.2.2.2
    else if op = 3 then (⟨#[40, 45]⟩ ++ shE l) ++ ⟨#[41]⟩
    else if op = 4 then (⟨#[40, 110, 111, 116, 32]⟩ ++ shE l) ++ ⟨#[41]⟩
    else (((((⟨#[40]⟩ ++ shE l) ++ ⟨#[32]⟩) ++ opT (op - 5)) ++ ⟨#[32]⟩) ++ shE r) ++ ⟨#[41]⟩
end Go.Proofs.YtnboooaockgoiaaGreatDoor
namespace Go.Proofs.YtnboooaockgoiaaGreatDoor
open Go.RowKit
set_option linter.unusedVariables false

end Go.Proofs.YtnboooaockgoiaaGreatDoor
namespace Go.Proofs.YtnboooaockgoiaaGreatDoor
open Go.RowKit
set_option linter.unusedVariables false

end Go.Proofs.YtnboooaockgoiaaGreatDoor
namespace Go.Proofs.YtnboooaockgoiaaGreatDoor
open Go.RowKit
set_option linter.unusedVariables false

end Go.Proofs.YtnboooaockgoiaaGreatDoor
namespace Go.Proofs.YtnboooaockgoiaaGreatDoor
open Go.RowKit
set_option linter.unusedVariables false

end Go.Proofs.YtnboooaockgoiaaGreatDoor
namespace Go.Proofs.YtnboooaockgoiaaGreatDoor
open Go.RowKit
set_option linter.unusedVariables false

end Go.Proofs.YtnboooaockgoiaaGreatDoor
namespace Go.Proofs.YtnboooaockgoiaaGreatDoor
open Go.RowKit
set_option linter.unusedVariables false

end Go.Proofs.YtnboooaockgoiaaGreatDoor
namespace Go.Proofs.YtnboooaockgoiaaGreatDoor
open Go.RowKit
set_option linter.unusedVariables false

theorem isEmpty_ne {t : ByteArray} (h : t ≠ ⟨#[]⟩) : t.toList.isEmpty = false := by
  cases hl : t.toList with
  | nil =>
    rw [ByteArray.toList_eq] at hl
    exact absurd (ByteArray.ext (Array.toList_inj.1 hl)) h
  | cons x l => rfl
def kiB (k : Int) : ByteArray := if k = 1 then ⟨#[105, 110, 116]⟩ else ⟨#[116, 101, 120, 116]⟩
end Go.Proofs.YtnboooaockgoiaaGreatDoor
namespace Go.Proofs.YtnboooaockgoiaaGreatDoor
open Go.RowKit
set_option linter.unusedVariables false

end Go.Proofs.YtnboooaockgoiaaGreatDoor
namespace Go.Proofs.YtnboooaockgoiaaGreatDoor
open Go.RowKit
set_option linter.unusedVariables false

end Go.Proofs.YtnboooaockgoiaaGreatDoor
namespace Go.Proofs.YtnboooaockgoiaaGreatDoor
open Go.RowKit
set_option linter.unusedVariables false

end Go.Proofs.YtnboooaockgoiaaGreatDoor
namespace Go.Proofs.YtnboooaockgoiaaGreatDoor
open Go.RowKit
set_option linter.unusedVariables false

end Go.Proofs.YtnboooaockgoiaaGreatDoor
namespace Go.Proofs.YtnboooaockgoiaaGreatDoor
open Go.RowKit
set_option linter.unusedVariables false

abbrev Cl2 := List (It × Int)
abbrev Tab := ByteArray × List Co
def tabT : Tab := (⟨#[116]⟩, [(⟨#[107]⟩, 1, ⟨#[]⟩), (⟨#[118]⟩, 2, ⟨#[]⟩), (⟨#[110]⟩, 1, ⟨#[]⟩)])
/-- The columns of a table, each with its kind. -/
def colsOf (t : Tab) : Cl2 := t.2.map fun c => ((0, t.1, c.1), c.2.1)
end Go.Proofs.YtnboooaockgoiaaGreatDoor
namespace Go.Proofs.YtnboooaockgoiaaGreatDoor
open Go.RowKit
set_option linter.unusedVariables false

end Go.Proofs.YtnboooaockgoiaaGreatDoor
namespace Go.Proofs.YtnboooaockgoiaaGreatDoor
open Go.RowKit
set_option linter.unusedVariables false

end Go.Proofs.YtnboooaockgoiaaGreatDoor
namespace Go.Proofs.YtnboooaockgoiaaGreatDoor
open Go.RowKit
set_option linter.unusedVariables false
set_option linter.unusedSimpArgs false

end Go.Proofs.YtnboooaockgoiaaGreatDoor
