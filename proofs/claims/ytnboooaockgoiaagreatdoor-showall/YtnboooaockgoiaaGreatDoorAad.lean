import Derived.Test.YtnboooaockgoiaaGreatDoorAac
namespace Go.Proofs.YtnboooaockgoiaaGreatDoor
open Go.RowKit
set_option linter.unusedVariables false

set_option maxRecDepth 100000 in
set_option maxHeartbeats 20000000 in
theorem fShow_update (hE : ∀ t, ShowOK t) {m : Sm} {s : Sv} {Q : Nat → Prop} {w : World} (hk : m.kind = 7) {t : Tr} (ht : m.values = [t]) (hwt : WfT t) (hw : ∀ t ∈ m.wh, WfT t) (hz : m.table.size + m.name.size + (shE t).size + (whB m.wh).size ≤ 900000) (h : IsS Q w m s) :
    Calls Tryz.prog 15 #[stV s] w fun e w' => e = .returned (.string ((((((⟨#[117, 112, 100, 97, 116, 101, 32]⟩ ++ m.table) ++ ⟨#[32, 115, 101, 116, 32]⟩) ++ m.name) ++ ⟨#[32, 61, 32]⟩) ++ shE t) ++ whB m.wh)) ∧ Below w.heap.size w w' := by
  have HW : Hid (∀ w1, Below w.heap.size w w1 → _) := hid fun w1 hb => fWhereS_any hE hw (h.wh.later (by decide) hb) (by omega)
  have hva := h.va
  rw [ht] at hva
  have hnv : s.va.2.1 = 1 ∧ s.va.2.1 ≤ s.va.2.2 := ⟨hva.num.1, hva.num.2.1⟩
  obtain ⟨b, o, op, p, a3, n3, c3, ea, q, hx⟩ := RowIs.at (k := 0) hva (by simp)
  rw [Nat.zero_mul, Nat.add_zero] at q
  have HX : Hid (∀ w1, Below w.heap.size w w1 → _) := hid fun w1 hb => hE t hwt (by omega) Q w1 _ (hx.later hb)
  have HQ : Hid (∀ w1, Below w.heap.size w w1 → _) := hid fun w1 hb => q.keep (hb.block b q.lt)
  unfold exV at HX
  have e0 := h.k.trans hk
  have e1 := h.tb
  have e2 := h.nm
  generalize m.table = TB at *
  generalize m.name = NM at *
  generalize whB m.wh = St at *
  generalize shE t = Sx at *
  clear h hk
  obtain ⟨k, tb, nm, ⟨coa, con, coc⟩, ⟨taa, tan, tac⟩, ⟨vaa, van, vac⟩, ⟨ita, itn, itc⟩, jn, ⟨ona, onn, onc⟩, ⟨wha, whn, whc⟩, ⟨oda, odn, odc⟩, ds, ⟨inna, innn, innc⟩⟩ := s
  simp only at e0 e1 e2
  subst e0 e1 e2
  simp only at hnv ea
  obtain ⟨hnv, hnc⟩ := hnv
  subst hnv ea
  have hnc' : (1 : Int) ≤ (vac : Int) := by omega
  clear hva q hx ht
  unfold stV
  have bB : Bs (w.alloc (.cells #[.int .i64 7, .string tb, .string nm, .slice coa con coc, .slice taa tan tac, .slice (some ⟨b, o, none⟩) 1 vac, .slice ita itn itc, .string jn, .slice ona onn onc, .slice wha whn whc, .slice oda odn odc, .bool ds, .slice inna innn innc] 48)) w.heap.size ⟨7, tb, nm, (coa, con, coc), (taa, tan, tac), (some ⟨b, o, none⟩, 1, vac), (ita, itn, itc), jn, (ona, onn, onc), (wha, whn, whc), (oda, odn, odc), ds, (inna, innn, innc)⟩ := Bs.new w ⟨7, tb, nm, (coa, con, coc), (taa, tan, tac), (some ⟨b, o, none⟩, 1, vac), (ita, itn, itc), jn, (ona, onn, onc), (wha, whn, whc), (oda, odn, odc), ds, (inna, innn, innc)⟩
  have hB2 := bal (Below.refl _ w) (.cells #[.int .i64 7, .string tb, .string nm, .slice coa con coc, .slice taa tan tac, .slice (some ⟨b, o, none⟩) 1 vac, .slice ita itn itc, .string jn, .slice ona onn onc, .slice wha whn whc, .slice oda odn odc, .bool ds, .slice inna innn innc] 48)
  simp only
  go_enter Tryz.func15, Tryz.ntmps15
  go_upto_region 24 with fail
  generalize w.alloc (.cells #[.int .i64 7, .string tb, .string nm, .slice coa con coc, .slice taa tan tac, .slice (some ⟨b, o, none⟩) 1 vac, .slice ita itn itc, .string jn, .slice ona onn onc, .slice wha whn whc, .slice oda odn odc, .bool ds, .slice inna innn innc] 48) = W at *
  have HB2 : Hid (∀ w', Below W.heap.size W w' → Below w.heap.size w w') := hid fun w' hb => Below.on hB2 hb
  clear hB2
  generalize hqa : w.heap.size = qa at *
  have HK : Hid (∀ w', Below W.heap.size W w' → w'.cell? ⟨qa, 1, none⟩ = some (.string tb) ∧ w'.cell? ⟨qa, 2, none⟩ = some (.string nm) ∧ w'.cell? ⟨qa, 5, none⟩ = some (.slice (some ⟨b, o, none⟩) 1 vac) ∧ w'.cell? ⟨qa, 9, none⟩ = some (.slice wha whn whc) ∧ (w'.cell? ⟨b, o, none⟩ = some (.int .i64 op) ∧ w'.cell? ⟨b, o + 1, none⟩ = some (.int .i64 p.1) ∧ w'.cell? ⟨b, o + 2, none⟩ = some (.int .i64 p.2.1) ∧ w'.cell? ⟨b, o + 3, none⟩ = some (.string p.2.2.1) ∧ w'.cell? ⟨b, o + 4, none⟩ = some (.string p.2.2.2.1) ∧ w'.cell? ⟨b, o + 5, none⟩ = some (.string p.2.2.2.2) ∧ w'.cell? ⟨b, o + 6, none⟩ = some (.slice a3 n3 c3))) := hid fun w' hb => ⟨(bB.later hb).cells.2.1, (bB.later hb).cells.2.2.1, (bB.later hb).cells.2.2.2.2.2.1, (bB.later hb).cells.2.2.2.2.2.2.2.2.2.1, HQ.out _ (HB2.out _ hb)⟩
  have hC : Below W.heap.size W W.drew := (Below.refl _ W).drew
  have k1 : ¬ 9223372036854775807 < 7 + tb.size := by omega
  have k2 : ¬ 9223372036854775807 < 7 + tb.size + 5 := by omega
  have k3 : ¬ 9223372036854775807 < 7 + tb.size + 5 + nm.size := by omega
  have k4 : ¬ 9223372036854775807 < 7 + tb.size + 5 + nm.size + 3 := by omega
  have k5 : ¬ 9223372036854775807 < 7 + tb.size + 5 + nm.size + 3 + Sx.size := by omega
  have k6 : ¬ 9223372036854775807 < 7 + tb.size + 5 + nm.size + 3 + Sx.size + St.size := by omega
  clear bB hz hw hE hwt HQ
  go_region_held3 (fun w' => w'.cell? ⟨qa, 1, none⟩ = some (.string tb) ∧ w'.cell? ⟨qa, 2, none⟩ = some (.string nm) ∧ w'.cell? ⟨qa, 5, none⟩ = some (.slice (some ⟨b, o, none⟩) 1 vac) ∧ w'.cell? ⟨qa, 9, none⟩ = some (.slice wha whn whc) ∧ (w'.cell? ⟨b, o, none⟩ = some (.int .i64 op) ∧ w'.cell? ⟨b, o + 1, none⟩ = some (.int .i64 p.1) ∧ w'.cell? ⟨b, o + 2, none⟩ = some (.int .i64 p.2.1) ∧ w'.cell? ⟨b, o + 3, none⟩ = some (.string p.2.2.1) ∧ w'.cell? ⟨b, o + 4, none⟩ = some (.string p.2.2.2.1) ∧ w'.cell? ⟨b, o + 5, none⟩ = some (.string p.2.2.2.2) ∧ w'.cell? ⟨b, o + 6, none⟩ = some (.slice a3 n3 c3))) (exact HK.out _ hC)
    (first
    | (go_at_call 36; with_reducible refine Calls.mono (HW.out _ (HB2.out _ hC)) ?_; rintro e z1 ⟨rfl, hb1⟩; replace hC := Below.on hC hb1)
    | (go_at_call 13; with_reducible refine Calls.mono (HX.out _ (HB2.out _ hC)) ?_; rintro e z1 ⟨rfl, hb1⟩; replace hC := Below.on hC hb1))
  all_goals
    go_wp2
    go_ret
    exact ⟨rfl, by rw [hqa]; exact HB2.out _ hC⟩
end Go.Proofs.YtnboooaockgoiaaGreatDoor
namespace Go.Proofs.YtnboooaockgoiaaGreatDoor
open Go.RowKit
set_option linter.unusedVariables false

/-- A statement's cells within a row. -/
def Cs (w : World) (b o : Nat) (s : Sv) : Prop := w.cell? ⟨b, o, none⟩ = some (.int .i64 s.k) ∧ w.cell? ⟨b, o + 1, none⟩ = some (.string s.tb) ∧ w.cell? ⟨b, o + 2, none⟩ = some (.string s.nm) ∧ w.cell? ⟨b, o + 3, none⟩ = some (.slice s.co.1 s.co.2.1 s.co.2.2) ∧ w.cell? ⟨b, o + 4, none⟩ = some (.slice s.ta.1 s.ta.2.1 s.ta.2.2) ∧ w.cell? ⟨b, o + 5, none⟩ = some (.slice s.va.1 s.va.2.1 s.va.2.2) ∧ w.cell? ⟨b, o + 6, none⟩ = some (.slice s.it.1 s.it.2.1 s.it.2.2) ∧ w.cell? ⟨b, o + 7, none⟩ = some (.string s.jn) ∧ w.cell? ⟨b, o + 8, none⟩ = some (.slice s.on.1 s.on.2.1 s.on.2.2) ∧ w.cell? ⟨b, o + 9, none⟩ = some (.slice s.wh.1 s.wh.2.1 s.wh.2.2) ∧ w.cell? ⟨b, o + 10, none⟩ = some (.slice s.od.1 s.od.2.1 s.od.2.2) ∧ w.cell? ⟨b, o + 11, none⟩ = some (.bool s.ds) ∧ w.cell? ⟨b, o + 12, none⟩ = some (.slice s.inn.1 s.inn.2.1 s.inn.2.2)
theorem Cs.keep {w w' : World} {b o : Nat} {s : Sv} (h : Cs w b o s) (hk : w'.heap[b]? = w.heap[b]?) : Cs w' b o s := by
  unfold Cs World.cell? at *
  rw [hk]
  exact h
theorem Cs.lt {w : World} {b o : Nat} {s : Sv} (h : Cs w b o s) : b < w.heap.size := World.block_lt_of_cell? _ _ h.1
theorem RowIs.st1 {Q : Nat → Prop} {w : World} {a : Option Addr} {n c : Nat} {x : Sm} (h : RowIs eStmt Q w (.slice a n c) [x]) : ∃ b o s, a = some ⟨b, o, none⟩ ∧ Cs w b o s ∧ IsS Q w x s ∧ s.inn = (none, 0, 0) := by
  obtain ⟨ao, n0, c0, hv, hl, _, _, hx⟩ := h
  cases hv
  obtain ⟨b, o, ha, _, hi⟩ := hx (by simp at hl; omega)
  obtain ⟨cs, ⟨s, rfl, hE, hI⟩, _, hc⟩ := hi 0 (by simp)
  have hc' : ∀ j (hj : j < 13), w.cell? ⟨b, o + 0 * 13 + j, none⟩ = some ((svC s)[j]'hj) := fun j hj => hc j hj
  simp only [Nat.zero_mul, Nat.add_zero] at hc'
  exact ⟨b, o, s, ha, ⟨hc' 0 (by decide), hc' 1 (by decide), hc' 2 (by decide), hc' 3 (by decide), hc' 4 (by decide), hc' 5 (by decide), hc' 6 (by decide), hc' 7 (by decide), hc' 8 (by decide), hc' 9 (by decide), hc' 10 (by decide), hc' 11 (by decide), hc' 12 (by decide)⟩, hE, hI⟩
set_option maxRecDepth 100000 in
set_option maxHeartbeats 20000000 in
theorem fShow_view {m : Sm} {s : Sv} {Q : Nat → Prop} {w : World} (hk : m.kind = 3) {x : Sm} {X : ByteArray} (hi : RowIs eStmt Q w (slV s.inn) [x]) (hX : ∀ (w : World) (s : Sv), IsS Q w x s → s.inn = (none, 0, 0) → Calls Tryz.prog 15 #[stV s] w fun e w' => e = .returned (.string X) ∧ Below w.heap.size w w') (hw : ∀ z ∈ m.tags, 0 ≤ z ∧ z ≤ 65535) (hz : m.name.size + (tasB m.tags).size + X.size ≤ 900000) (h : IsS Q w m s) :
    Calls Tryz.prog 15 #[stV s] w fun e w' => e = .returned (.string ((((⟨#[99, 114, 101, 97, 116, 101, 32, 118, 105, 101, 119, 32]⟩ ++ m.name) ++ ⟨#[32, 115, 116, 114, 105, 112]⟩) ++ tasB m.tags) ++ ⟨#[32, 97, 115, 32]⟩ ++ X)) ∧ Below w.heap.size w w' := by
  have HW : Hid (∀ w1, Below w.heap.size w w1 → _) := hid fun w1 hb => fTagsS_any hw (h.ta.later (by decide) hb) (by omega)
  have hnv : s.inn.2.1 = 1 ∧ s.inn.2.1 ≤ s.inn.2.2 := ⟨hi.num.1, hi.num.2.1⟩
  obtain ⟨b, o, s2, ea, q, hx, hx0⟩ := RowIs.st1 hi
  have HX : Hid (∀ w1, Below w.heap.size w w1 → _) := hid fun w1 hb => hX w1 s2 (hx.keep fun b _ hlt => hb.block b hlt) hx0
  have HQ : Hid (∀ w1, Below w.heap.size w w1 → _) := hid fun w1 hb => q.keep (hb.block b q.lt)
  unfold stV at HX
  have e0 := h.k.trans hk
  have e1 := h.tb
  have e2 := h.nm
  generalize m.table = TB at *
  generalize m.name = NM at *
  generalize tasB m.tags = St at *
  clear h hk
  obtain ⟨k, tb, nm, ⟨coa, con, coc⟩, ⟨taa, tan, tac⟩, ⟨vaa, van, vac⟩, ⟨ita, itn, itc⟩, jn, ⟨ona, onn, onc⟩, ⟨wha, whn, whc⟩, ⟨oda, odn, odc⟩, ds, ⟨inna, innn, innc⟩⟩ := s
  simp only at e0 e1 e2
  subst e0 e1 e2
  simp only at hnv ea
  obtain ⟨hnv, hnc⟩ := hnv
  subst hnv ea
  have hnc' : (1 : Int) ≤ (innc : Int) := by omega
  clear hi q hx hx0 hX
  unfold stV
  have bB : Bs (w.alloc (.cells #[.int .i64 3, .string tb, .string nm, .slice coa con coc, .slice taa tan tac, .slice vaa van vac, .slice ita itn itc, .string jn, .slice ona onn onc, .slice wha whn whc, .slice oda odn odc, .bool ds, .slice (some ⟨b, o, none⟩) 1 innc] 48)) w.heap.size ⟨3, tb, nm, (coa, con, coc), (taa, tan, tac), (vaa, van, vac), (ita, itn, itc), jn, (ona, onn, onc), (wha, whn, whc), (oda, odn, odc), ds, (some ⟨b, o, none⟩, 1, innc)⟩ := Bs.new w ⟨3, tb, nm, (coa, con, coc), (taa, tan, tac), (vaa, van, vac), (ita, itn, itc), jn, (ona, onn, onc), (wha, whn, whc), (oda, odn, odc), ds, (some ⟨b, o, none⟩, 1, innc)⟩
  have hB2 := bal (Below.refl _ w) (.cells #[.int .i64 3, .string tb, .string nm, .slice coa con coc, .slice taa tan tac, .slice vaa van vac, .slice ita itn itc, .string jn, .slice ona onn onc, .slice wha whn whc, .slice oda odn odc, .bool ds, .slice (some ⟨b, o, none⟩) 1 innc] 48)
  simp only
  go_enter Tryz.func15, Tryz.ntmps15
  go_upto_region 16 with fail
  generalize w.alloc (.cells #[.int .i64 3, .string tb, .string nm, .slice coa con coc, .slice taa tan tac, .slice vaa van vac, .slice ita itn itc, .string jn, .slice ona onn onc, .slice wha whn whc, .slice oda odn odc, .bool ds, .slice (some ⟨b, o, none⟩) 1 innc] 48) = W at *
  have HB2 : Hid (∀ w', Below W.heap.size W w' → Below w.heap.size w w') := hid fun w' hb => Below.on hB2 hb
  clear hB2
  generalize hqa : w.heap.size = qa at *
  have HK : Hid (∀ w', Below W.heap.size W w' → w'.cell? ⟨qa, 2, none⟩ = some (.string nm) ∧ w'.cell? ⟨qa, 4, none⟩ = some (.slice taa tan tac) ∧ w'.cell? ⟨qa, 12, none⟩ = some (.slice (some ⟨b, o, none⟩) 1 innc) ∧ (w'.cell? ⟨b, o, none⟩ = some (.int .i64 s2.k) ∧ w'.cell? ⟨b, o + 1, none⟩ = some (.string s2.tb) ∧ w'.cell? ⟨b, o + 2, none⟩ = some (.string s2.nm) ∧ w'.cell? ⟨b, o + 3, none⟩ = some (.slice s2.co.1 s2.co.2.1 s2.co.2.2) ∧ w'.cell? ⟨b, o + 4, none⟩ = some (.slice s2.ta.1 s2.ta.2.1 s2.ta.2.2) ∧ w'.cell? ⟨b, o + 5, none⟩ = some (.slice s2.va.1 s2.va.2.1 s2.va.2.2) ∧ w'.cell? ⟨b, o + 6, none⟩ = some (.slice s2.it.1 s2.it.2.1 s2.it.2.2) ∧ w'.cell? ⟨b, o + 7, none⟩ = some (.string s2.jn) ∧ w'.cell? ⟨b, o + 8, none⟩ = some (.slice s2.on.1 s2.on.2.1 s2.on.2.2) ∧ w'.cell? ⟨b, o + 9, none⟩ = some (.slice s2.wh.1 s2.wh.2.1 s2.wh.2.2) ∧ w'.cell? ⟨b, o + 10, none⟩ = some (.slice s2.od.1 s2.od.2.1 s2.od.2.2) ∧ w'.cell? ⟨b, o + 11, none⟩ = some (.bool s2.ds) ∧ w'.cell? ⟨b, o + 12, none⟩ = some (.slice s2.inn.1 s2.inn.2.1 s2.inn.2.2))) := hid fun w' hb => ⟨(bB.later hb).cells.2.2.1, (bB.later hb).cells.2.2.2.2.1, (bB.later hb).cells.2.2.2.2.2.2.2.2.2.2.2.2, HQ.out _ (HB2.out _ hb)⟩
  have hC : Below W.heap.size W W.drew := (Below.refl _ W).drew
  have k1 : ¬ 9223372036854775807 < 12 + nm.size := by omega
  have k2 : ¬ 9223372036854775807 < 12 + nm.size + 6 := by omega
  have k3 : ¬ 9223372036854775807 < 12 + nm.size + 6 + St.size := by omega
  have k4 : ¬ 9223372036854775807 < 12 + nm.size + 6 + St.size + 4 := by omega
  have k5 : ¬ 9223372036854775807 < 12 + nm.size + 6 + St.size + 4 + X.size := by omega
  clear bB hz hw HQ
  go_region_held3 (fun w' => w'.cell? ⟨qa, 2, none⟩ = some (.string nm) ∧ w'.cell? ⟨qa, 4, none⟩ = some (.slice taa tan tac) ∧ w'.cell? ⟨qa, 12, none⟩ = some (.slice (some ⟨b, o, none⟩) 1 innc) ∧ (w'.cell? ⟨b, o, none⟩ = some (.int .i64 s2.k) ∧ w'.cell? ⟨b, o + 1, none⟩ = some (.string s2.tb) ∧ w'.cell? ⟨b, o + 2, none⟩ = some (.string s2.nm) ∧ w'.cell? ⟨b, o + 3, none⟩ = some (.slice s2.co.1 s2.co.2.1 s2.co.2.2) ∧ w'.cell? ⟨b, o + 4, none⟩ = some (.slice s2.ta.1 s2.ta.2.1 s2.ta.2.2) ∧ w'.cell? ⟨b, o + 5, none⟩ = some (.slice s2.va.1 s2.va.2.1 s2.va.2.2) ∧ w'.cell? ⟨b, o + 6, none⟩ = some (.slice s2.it.1 s2.it.2.1 s2.it.2.2) ∧ w'.cell? ⟨b, o + 7, none⟩ = some (.string s2.jn) ∧ w'.cell? ⟨b, o + 8, none⟩ = some (.slice s2.on.1 s2.on.2.1 s2.on.2.2) ∧ w'.cell? ⟨b, o + 9, none⟩ = some (.slice s2.wh.1 s2.wh.2.1 s2.wh.2.2) ∧ w'.cell? ⟨b, o + 10, none⟩ = some (.slice s2.od.1 s2.od.2.1 s2.od.2.2) ∧ w'.cell? ⟨b, o + 11, none⟩ = some (.bool s2.ds) ∧ w'.cell? ⟨b, o + 12, none⟩ = some (.slice s2.inn.1 s2.inn.2.1 s2.inn.2.2))) (exact HK.out _ hC)
    (first
    | (go_at_call 33; with_reducible refine Calls.mono (HW.out _ (HB2.out _ hC)) ?_; rintro e z1 ⟨rfl, hb1⟩; replace hC := Below.on hC hb1)
    | (go_at_call 15; with_reducible refine Calls.mono (HX.out _ (HB2.out _ hC)) ?_; rintro e z1 ⟨rfl, hb1⟩; replace hC := Below.on hC hb1))
  all_goals
    go_wp2
    go_ret
    exact ⟨rfl, by rw [hqa]; exact HB2.out _ hC⟩
set_option maxRecDepth 100000 in
set_option maxHeartbeats 20000000 in
theorem fShow_closure {m : Sm} {s : Sv} {Q : Nat → Prop} {w : World} (hk : m.kind = 4) {x : Sm} {X : ByteArray} (hi : RowIs eStmt Q w (slV s.inn) [x]) (hX : ∀ (w : World) (s : Sv), IsS Q w x s → s.inn = (none, 0, 0) → Calls Tryz.prog 15 #[stV s] w fun e w' => e = .returned (.string X) ∧ Below w.heap.size w w') (hw : ∀ z ∈ m.tags, 0 ≤ z ∧ z ≤ 65535) (hz : m.name.size + (tasB m.tags).size + X.size ≤ 900000) (h : IsS Q w m s) :
    Calls Tryz.prog 15 #[stV s] w fun e w' => e = .returned (.string ((((⟨#[99, 114, 101, 97, 116, 101, 32, 99, 108, 111, 115, 117, 114, 101, 32]⟩ ++ m.name) ++ ⟨#[32, 115, 116, 114, 105, 112]⟩) ++ tasB m.tags) ++ ⟨#[32, 97, 115, 32]⟩ ++ X)) ∧ Below w.heap.size w w' := by
  have HW : Hid (∀ w1, Below w.heap.size w w1 → _) := hid fun w1 hb => fTagsS_any hw (h.ta.later (by decide) hb) (by omega)
  have hnv : s.inn.2.1 = 1 ∧ s.inn.2.1 ≤ s.inn.2.2 := ⟨hi.num.1, hi.num.2.1⟩
  obtain ⟨b, o, s2, ea, q, hx, hx0⟩ := RowIs.st1 hi
  have HX : Hid (∀ w1, Below w.heap.size w w1 → _) := hid fun w1 hb => hX w1 s2 (hx.keep fun b _ hlt => hb.block b hlt) hx0
  have HQ : Hid (∀ w1, Below w.heap.size w w1 → _) := hid fun w1 hb => q.keep (hb.block b q.lt)
  unfold stV at HX
  have e0 := h.k.trans hk
  have e1 := h.tb
  have e2 := h.nm
  generalize m.table = TB at *
  generalize m.name = NM at *
  generalize tasB m.tags = St at *
  clear h hk
  obtain ⟨k, tb, nm, ⟨coa, con, coc⟩, ⟨taa, tan, tac⟩, ⟨vaa, van, vac⟩, ⟨ita, itn, itc⟩, jn, ⟨ona, onn, onc⟩, ⟨wha, whn, whc⟩, ⟨oda, odn, odc⟩, ds, ⟨inna, innn, innc⟩⟩ := s
  simp only at e0 e1 e2
  subst e0 e1 e2
  simp only at hnv ea
  obtain ⟨hnv, hnc⟩ := hnv
  subst hnv ea
  have hnc' : (1 : Int) ≤ (innc : Int) := by omega
  clear hi q hx hx0 hX
  unfold stV
  have bB : Bs (w.alloc (.cells #[.int .i64 4, .string tb, .string nm, .slice coa con coc, .slice taa tan tac, .slice vaa van vac, .slice ita itn itc, .string jn, .slice ona onn onc, .slice wha whn whc, .slice oda odn odc, .bool ds, .slice (some ⟨b, o, none⟩) 1 innc] 48)) w.heap.size ⟨4, tb, nm, (coa, con, coc), (taa, tan, tac), (vaa, van, vac), (ita, itn, itc), jn, (ona, onn, onc), (wha, whn, whc), (oda, odn, odc), ds, (some ⟨b, o, none⟩, 1, innc)⟩ := Bs.new w ⟨4, tb, nm, (coa, con, coc), (taa, tan, tac), (vaa, van, vac), (ita, itn, itc), jn, (ona, onn, onc), (wha, whn, whc), (oda, odn, odc), ds, (some ⟨b, o, none⟩, 1, innc)⟩
  have hB2 := bal (Below.refl _ w) (.cells #[.int .i64 4, .string tb, .string nm, .slice coa con coc, .slice taa tan tac, .slice vaa van vac, .slice ita itn itc, .string jn, .slice ona onn onc, .slice wha whn whc, .slice oda odn odc, .bool ds, .slice (some ⟨b, o, none⟩) 1 innc] 48)
  simp only
  go_enter Tryz.func15, Tryz.ntmps15
  go_upto_region 18 with fail
  generalize w.alloc (.cells #[.int .i64 4, .string tb, .string nm, .slice coa con coc, .slice taa tan tac, .slice vaa van vac, .slice ita itn itc, .string jn, .slice ona onn onc, .slice wha whn whc, .slice oda odn odc, .bool ds, .slice (some ⟨b, o, none⟩) 1 innc] 48) = W at *
  have HB2 : Hid (∀ w', Below W.heap.size W w' → Below w.heap.size w w') := hid fun w' hb => Below.on hB2 hb
  clear hB2
  generalize hqa : w.heap.size = qa at *
  have HK : Hid (∀ w', Below W.heap.size W w' → w'.cell? ⟨qa, 2, none⟩ = some (.string nm) ∧ w'.cell? ⟨qa, 4, none⟩ = some (.slice taa tan tac) ∧ w'.cell? ⟨qa, 12, none⟩ = some (.slice (some ⟨b, o, none⟩) 1 innc) ∧ (w'.cell? ⟨b, o, none⟩ = some (.int .i64 s2.k) ∧ w'.cell? ⟨b, o + 1, none⟩ = some (.string s2.tb) ∧ w'.cell? ⟨b, o + 2, none⟩ = some (.string s2.nm) ∧ w'.cell? ⟨b, o + 3, none⟩ = some (.slice s2.co.1 s2.co.2.1 s2.co.2.2) ∧ w'.cell? ⟨b, o + 4, none⟩ = some (.slice s2.ta.1 s2.ta.2.1 s2.ta.2.2) ∧ w'.cell? ⟨b, o + 5, none⟩ = some (.slice s2.va.1 s2.va.2.1 s2.va.2.2) ∧ w'.cell? ⟨b, o + 6, none⟩ = some (.slice s2.it.1 s2.it.2.1 s2.it.2.2) ∧ w'.cell? ⟨b, o + 7, none⟩ = some (.string s2.jn) ∧ w'.cell? ⟨b, o + 8, none⟩ = some (.slice s2.on.1 s2.on.2.1 s2.on.2.2) ∧ w'.cell? ⟨b, o + 9, none⟩ = some (.slice s2.wh.1 s2.wh.2.1 s2.wh.2.2) ∧ w'.cell? ⟨b, o + 10, none⟩ = some (.slice s2.od.1 s2.od.2.1 s2.od.2.2) ∧ w'.cell? ⟨b, o + 11, none⟩ = some (.bool s2.ds) ∧ w'.cell? ⟨b, o + 12, none⟩ = some (.slice s2.inn.1 s2.inn.2.1 s2.inn.2.2))) := hid fun w' hb => ⟨(bB.later hb).cells.2.2.1, (bB.later hb).cells.2.2.2.2.1, (bB.later hb).cells.2.2.2.2.2.2.2.2.2.2.2.2, HQ.out _ (HB2.out _ hb)⟩
  have hC : Below W.heap.size W W.drew := (Below.refl _ W).drew
  have k1 : ¬ 9223372036854775807 < 15 + nm.size := by omega
  have k2 : ¬ 9223372036854775807 < 15 + nm.size + 6 := by omega
  have k3 : ¬ 9223372036854775807 < 15 + nm.size + 6 + St.size := by omega
  have k4 : ¬ 9223372036854775807 < 15 + nm.size + 6 + St.size + 4 := by omega
  have k5 : ¬ 9223372036854775807 < 15 + nm.size + 6 + St.size + 4 + X.size := by omega
  clear bB hz hw HQ
  go_region_held3 (fun w' => w'.cell? ⟨qa, 2, none⟩ = some (.string nm) ∧ w'.cell? ⟨qa, 4, none⟩ = some (.slice taa tan tac) ∧ w'.cell? ⟨qa, 12, none⟩ = some (.slice (some ⟨b, o, none⟩) 1 innc) ∧ (w'.cell? ⟨b, o, none⟩ = some (.int .i64 s2.k) ∧ w'.cell? ⟨b, o + 1, none⟩ = some (.string s2.tb) ∧ w'.cell? ⟨b, o + 2, none⟩ = some (.string s2.nm) ∧ w'.cell? ⟨b, o + 3, none⟩ = some (.slice s2.co.1 s2.co.2.1 s2.co.2.2) ∧ w'.cell? ⟨b, o + 4, none⟩ = some (.slice s2.ta.1 s2.ta.2.1 s2.ta.2.2) ∧ w'.cell? ⟨b, o + 5, none⟩ = some (.slice s2.va.1 s2.va.2.1 s2.va.2.2) ∧ w'.cell? ⟨b, o + 6, none⟩ = some (.slice s2.it.1 s2.it.2.1 s2.it.2.2) ∧ w'.cell? ⟨b, o + 7, none⟩ = some (.string s2.jn) ∧ w'.cell? ⟨b, o + 8, none⟩ = some (.slice s2.on.1 s2.on.2.1 s2.on.2.2) ∧ w'.cell? ⟨b, o + 9, none⟩ = some (.slice s2.wh.1 s2.wh.2.1 s2.wh.2.2) ∧ w'.cell? ⟨b, o + 10, none⟩ = some (.slice s2.od.1 s2.od.2.1 s2.od.2.2) ∧ w'.cell? ⟨b, o + 11, none⟩ = some (.bool s2.ds) ∧ w'.cell? ⟨b, o + 12, none⟩ = some (.slice s2.inn.1 s2.inn.2.1 s2.inn.2.2))) (exact HK.out _ hC)
    (first
    | (go_at_call 33; with_reducible refine Calls.mono (HW.out _ (HB2.out _ hC)) ?_; rintro e z1 ⟨rfl, hb1⟩; replace hC := Below.on hC hb1)
    | (go_at_call 15; with_reducible refine Calls.mono (HX.out _ (HB2.out _ hC)) ?_; rintro e z1 ⟨rfl, hb1⟩; replace hC := Below.on hC hb1))
  all_goals
    go_wp2
    go_ret
    exact ⟨rfl, by rw [hqa]; exact HB2.out _ hC⟩
end Go.Proofs.YtnboooaockgoiaaGreatDoor
namespace Go.Proofs.YtnboooaockgoiaaGreatDoor
open Go.RowKit
set_option linter.unusedVariables false

set_option maxRecDepth 100000 in
set_option maxHeartbeats 4000000 in
theorem fShow_index {m : Sm} {s : Sv} {Q : Nat → Prop} {w : World} (hk : m.kind = 2) (hz : m.table.size + m.name.size ≤ 900000) (h : IsS Q w m s) :
    Calls Tryz.prog 15 #[stV s] w fun e w' => e = .returned (.string ((((⟨#[99, 114, 101, 97, 116, 101, 32, 105, 110, 100, 101, 120, 32, 111, 110, 32]⟩ ++ m.table) ++ ⟨#[40]⟩) ++ m.name) ++ ⟨#[41]⟩)) ∧ Below w.heap.size w w' := by
  have e0 := h.k.trans hk
  have e1 := h.tb
  have e2 := h.nm
  generalize m.table = TB at *
  generalize m.name = NM at *
  clear h hk
  obtain ⟨k, tb, nm, ⟨coa, con, coc⟩, ⟨taa, tan, tac⟩, ⟨vaa, van, vac⟩, ⟨ita, itn, itc⟩, jn, ⟨ona, onn, onc⟩, ⟨wha, whn, whc⟩, ⟨oda, odn, odc⟩, ds, ⟨inna, innn, innc⟩⟩ := s
  simp only at e0 e1 e2
  subst e0 e1 e2
  unfold stV
  have hB2 := bal (Below.refl _ w) (.cells #[.int .i64 2, .string tb, .string nm, .slice coa con coc, .slice taa tan tac, .slice vaa van vac, .slice ita itn itc, .string jn, .slice ona onn onc, .slice wha whn whc, .slice oda odn odc, .bool ds, .slice inna innn innc] 48)
  simp only
  go_enter Tryz.func15, Tryz.ntmps15
  go_wp2
  go_ret
  exact ⟨rfl, hB2⟩
set_option maxRecDepth 100000 in
set_option maxHeartbeats 4000000 in
theorem fShow_begin {m : Sm} {s : Sv} {Q : Nat → Prop} {w : World} (hk : m.kind = 9) (h : IsS Q w m s) :
    Calls Tryz.prog 15 #[stV s] w fun e w' => e = .returned (.string (⟨#[98, 101, 103, 105, 110]⟩)) ∧ Below w.heap.size w w' := by
  have e0 := h.k.trans hk
  have e1 := h.tb
  have e2 := h.nm
  generalize m.table = TB at *
  generalize m.name = NM at *
  clear h hk
  obtain ⟨k, tb, nm, ⟨coa, con, coc⟩, ⟨taa, tan, tac⟩, ⟨vaa, van, vac⟩, ⟨ita, itn, itc⟩, jn, ⟨ona, onn, onc⟩, ⟨wha, whn, whc⟩, ⟨oda, odn, odc⟩, ds, ⟨inna, innn, innc⟩⟩ := s
  simp only at e0 e1 e2
  subst e0 e1 e2
  unfold stV
  have hB2 := bal (Below.refl _ w) (.cells #[.int .i64 9, .string tb, .string nm, .slice coa con coc, .slice taa tan tac, .slice vaa van vac, .slice ita itn itc, .string jn, .slice ona onn onc, .slice wha whn whc, .slice oda odn odc, .bool ds, .slice inna innn innc] 48)
  simp only
  go_enter Tryz.func15, Tryz.ntmps15
  go_wp2
  go_ret
  exact ⟨rfl, hB2⟩
set_option maxRecDepth 100000 in
set_option maxHeartbeats 4000000 in
theorem fShow_commit {m : Sm} {s : Sv} {Q : Nat → Prop} {w : World} (hk : m.kind = 10) (h : IsS Q w m s) :
    Calls Tryz.prog 15 #[stV s] w fun e w' => e = .returned (.string (⟨#[99, 111, 109, 109, 105, 116]⟩)) ∧ Below w.heap.size w w' := by
  have e0 := h.k.trans hk
  have e1 := h.tb
  have e2 := h.nm
  generalize m.table = TB at *
  generalize m.name = NM at *
  clear h hk
  obtain ⟨k, tb, nm, ⟨coa, con, coc⟩, ⟨taa, tan, tac⟩, ⟨vaa, van, vac⟩, ⟨ita, itn, itc⟩, jn, ⟨ona, onn, onc⟩, ⟨wha, whn, whc⟩, ⟨oda, odn, odc⟩, ds, ⟨inna, innn, innc⟩⟩ := s
  simp only at e0 e1 e2
  subst e0 e1 e2
  unfold stV
  have hB2 := bal (Below.refl _ w) (.cells #[.int .i64 10, .string tb, .string nm, .slice coa con coc, .slice taa tan tac, .slice vaa van vac, .slice ita itn itc, .string jn, .slice ona onn onc, .slice wha whn whc, .slice oda odn odc, .bool ds, .slice inna innn innc] 48)
  simp only
  go_enter Tryz.func15, Tryz.ntmps15
  go_wp2
  go_ret
  exact ⟨rfl, hB2⟩
set_option maxRecDepth 100000 in
set_option maxHeartbeats 4000000 in
theorem fShow_rollback {m : Sm} {s : Sv} {Q : Nat → Prop} {w : World} (hk : m.kind = 11) (h : IsS Q w m s) :
    Calls Tryz.prog 15 #[stV s] w fun e w' => e = .returned (.string (⟨#[114, 111, 108, 108, 98, 97, 99, 107]⟩)) ∧ Below w.heap.size w w' := by
  have e0 := h.k.trans hk
  have e1 := h.tb
  have e2 := h.nm
  generalize m.table = TB at *
  generalize m.name = NM at *
  clear h hk
  obtain ⟨k, tb, nm, ⟨coa, con, coc⟩, ⟨taa, tan, tac⟩, ⟨vaa, van, vac⟩, ⟨ita, itn, itc⟩, jn, ⟨ona, onn, onc⟩, ⟨wha, whn, whc⟩, ⟨oda, odn, odc⟩, ds, ⟨inna, innn, innc⟩⟩ := s
  simp only at e0 e1 e2
  subst e0 e1 e2
  unfold stV
  have hB2 := bal (Below.refl _ w) (.cells #[.int .i64 11, .string tb, .string nm, .slice coa con coc, .slice taa tan tac, .slice vaa van vac, .slice ita itn itc, .string jn, .slice ona onn onc, .slice wha whn whc, .slice oda odn odc, .bool ds, .slice inna innn innc] 48)
  simp only
  go_enter Tryz.func15, Tryz.ntmps15
  go_wp2
  go_ret
  exact ⟨rfl, hB2⟩
set_option maxRecDepth 100000 in
set_option maxHeartbeats 4000000 in
theorem fShow_call {m : Sm} {s : Sv} {Q : Nat → Prop} {w : World} (hk : m.kind = 13) (hz : m.name.size ≤ 900000) (h : IsS Q w m s) :
    Calls Tryz.prog 15 #[stV s] w fun e w' => e = .returned (.string (⟨#[99, 97, 108, 108, 32]⟩ ++ m.name)) ∧ Below w.heap.size w w' := by
  have e0 := h.k.trans hk
  have e1 := h.tb
  have e2 := h.nm
  generalize m.table = TB at *
  generalize m.name = NM at *
  clear h hk
  obtain ⟨k, tb, nm, ⟨coa, con, coc⟩, ⟨taa, tan, tac⟩, ⟨vaa, van, vac⟩, ⟨ita, itn, itc⟩, jn, ⟨ona, onn, onc⟩, ⟨wha, whn, whc⟩, ⟨oda, odn, odc⟩, ds, ⟨inna, innn, innc⟩⟩ := s
  simp only at e0 e1 e2
  subst e0 e1 e2
  unfold stV
  have hB2 := bal (Below.refl _ w) (.cells #[.int .i64 13, .string tb, .string nm, .slice coa con coc, .slice taa tan tac, .slice vaa van vac, .slice ita itn itc, .string jn, .slice ona onn onc, .slice wha whn whc, .slice oda odn odc, .bool ds, .slice inna innn innc] 48)
  simp only
  go_enter Tryz.func15, Tryz.ntmps15
  go_wp2
  go_ret
  exact ⟨rfl, hB2⟩
set_option maxRecDepth 100000 in
set_option maxHeartbeats 4000000 in
theorem fShow_raise {m : Sm} {s : Sv} {Q : Nat → Prop} {w : World} (hk : m.kind = 12) (hw : ∀ z ∈ m.tags, 0 ≤ z ∧ z ≤ 65535) (hz : (tasB m.tags).size ≤ 900000) (h : IsS Q w m s) :
    Calls Tryz.prog 15 #[stV s] w fun e w' => e = .returned (.string (⟨#[114, 97, 105, 115, 101]⟩ ++ tasB m.tags)) ∧ Below w.heap.size w w' := by
  have HW : Hid (∀ w1, Below w.heap.size w w1 → _) := hid fun w1 hb => fTagsS_any hw (h.ta.later (by decide) hb) (by omega)
  have e0 := h.k.trans hk
  have e1 := h.tb
  have e2 := h.nm
  generalize m.table = TB at *
  generalize m.name = NM at *
  generalize tasB m.tags = St at *
  clear h hk
  obtain ⟨k, tb, nm, ⟨coa, con, coc⟩, ⟨taa, tan, tac⟩, ⟨vaa, van, vac⟩, ⟨ita, itn, itc⟩, jn, ⟨ona, onn, onc⟩, ⟨wha, whn, whc⟩, ⟨oda, odn, odc⟩, ds, ⟨inna, innn, innc⟩⟩ := s
  simp only at e0 e1 e2
  subst e0 e1 e2
  unfold stV
  have hB2 := bal (Below.refl _ w) (.cells #[.int .i64 12, .string tb, .string nm, .slice coa con coc, .slice taa tan tac, .slice vaa van vac, .slice ita itn itc, .string jn, .slice ona onn onc, .slice wha whn whc, .slice oda odn odc, .bool ds, .slice inna innn innc] 48)
  simp only
  go_enter Tryz.func15, Tryz.ntmps15
  go_wp2_with fail
  refine Calls.mono (HW.out _ hB2) ?_
  rintro e z1 ⟨rfl, hb1⟩
  replace hB2 := Below.on hB2 hb1
  clear HW hb1
  go_wp2
  go_ret
  exact ⟨rfl, hB2⟩
end Go.Proofs.YtnboooaockgoiaaGreatDoor
