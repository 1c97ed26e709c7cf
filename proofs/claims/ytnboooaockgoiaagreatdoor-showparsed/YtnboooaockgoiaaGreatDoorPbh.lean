import Derived.Test.YtnboooaockgoiaaGreatDoorPbg
namespace Go.Proofs.YtnboooaockgoiaaGreatDoor
open Go.RowKit
set_option linter.unusedVariables false
set_option linter.unusedSimpArgs false

set_option maxRecDepth 100000 in
set_option maxHeartbeats 4000000 in
theorem whole5_any {Q : Nat → Prop} {w : World} {m : Sm} {s : Sv} (hI : IsS Q w m s) (hk : m.kind = 5) (h0 : m.values ≠ []) :
    Calls Tryz.prog 31 #[stV s] w fun e w' => e = .returned (.bool true) ∧ Below w.heap.size w w' := by
  have HI : Hid (∀ w', Below w.heap.size w w' → IsS Q w' m s) := hid fun w' hb => hI.keep fun k _ hk => hb.block k hk
  obtain ⟨mk, mtb, mnm, mco, mta, mva, mit, mjn, mon, mwh, mod, mds⟩ := m
  obtain ⟨sk, stb, snm, ⟨coa, con, coc⟩, ⟨taa, tan, tac⟩, ⟨vaa, van, vac⟩, ⟨ita, itn, itc⟩, sjn, ⟨ona, onn, onc⟩, ⟨wha, whn, whc⟩, ⟨oda, odn, odc⟩, sds, ⟨nna, nnn, nnc⟩⟩ := s
  obtain ⟨e0, e1, e2, rco, rta, rva, rit, e7, ron, rwh, rod, e11⟩ := hI
  dsimp only at *
  subst e0 e1 e2 e7 e11
  subst hk
  have hl := List.length_pos_iff.2 h0
  rw [rva.nc.1] at hl
  dsimp only at hl
  have gp1 : decide ((0 : Int) < (van : Int)) = true := by simp; omega
  have gp2 : decide (0 < van) = true := by simp; omega
  have gp3 : (0 : Int) < (van : Int) := by omega
  clear rco rta rva rit rwh rod ron HI h0
  have bB : Bs (w.alloc (.cells #[.int .i64 5, .string stb, .string snm, .slice coa con coc, .slice taa tan tac, .slice vaa van vac, .slice ita itn itc, .string sjn, .slice ona onn onc, .slice wha whn whc, .slice oda odn odc, .bool sds, .slice nna nnn nnc] 48)) w.heap.size (⟨5, stb, snm, (coa, con, coc), (taa, tan, tac), (vaa, van, vac), (ita, itn, itc), sjn, (ona, onn, onc), (wha, whn, whc), (oda, odn, odc), sds, (nna, nnn, nnc)⟩ : Sv) := Bs.new w (⟨5, stb, snm, (coa, con, coc), (taa, tan, tac), (vaa, van, vac), (ita, itn, itc), sjn, (ona, onn, onc), (wha, whn, whc), (oda, odn, odc), sds, (nna, nnn, nnc)⟩ : Sv)
  have hB := bal (Below.refl _ w) (.cells #[.int .i64 5, .string stb, .string snm, .slice coa con coc, .slice taa tan tac, .slice vaa van vac, .slice ita itn itc, .string sjn, .slice ona onn onc, .slice wha whn whc, .slice oda odn odc, .bool sds, .slice nna nnn nnc] 48)
  unfold stV
  dsimp only
  go_enter Tryz.func31, Tryz.ntmps31
  go_upto_region 1 with fail
  generalize w.alloc (.cells #[.int .i64 5, .string stb, .string snm, .slice coa con coc, .slice taa tan tac, .slice vaa van vac, .slice ita itn itc, .string sjn, .slice ona onn onc, .slice wha whn whc, .slice oda odn odc, .bool sds, .slice nna nnn nnc] 48) = W at *
  generalize hq : w.heap.size = q at bB ⊢
  replace hq : Hid _ := hid hq
  have c0 := bB.c0
  have c5 := bB.c5
  dsimp only at c0 c5
  go_wp2
  go_ret
  exact ⟨rfl, by first | exact hB | (rw [← hq.out]; exact hB)⟩
set_option maxRecDepth 100000 in
set_option maxHeartbeats 4000000 in
theorem whole8_any {Q : Nat → Prop} {w : World} {m : Sm} {s : Sv} (hI : IsS Q w m s) (hk : m.kind = 8) (h1 : m.wh.length ≤ 1) :
    Calls Tryz.prog 31 #[stV s] w fun e w' => e = .returned (.bool true) ∧ Below w.heap.size w w' := by
  have HI : Hid (∀ w', Below w.heap.size w w' → IsS Q w' m s) := hid fun w' hb => hI.keep fun k _ hk => hb.block k hk
  obtain ⟨mk, mtb, mnm, mco, mta, mva, mit, mjn, mon, mwh, mod, mds⟩ := m
  obtain ⟨sk, stb, snm, ⟨coa, con, coc⟩, ⟨taa, tan, tac⟩, ⟨vaa, van, vac⟩, ⟨ita, itn, itc⟩, sjn, ⟨ona, onn, onc⟩, ⟨wha, whn, whc⟩, ⟨oda, odn, odc⟩, sds, ⟨nna, nnn, nnc⟩⟩ := s
  obtain ⟨e0, e1, e2, rco, rta, rva, rit, e7, ron, rwh, rod, e11⟩ := hI
  dsimp only at *
  subst e0 e1 e2 e7 e11
  subst hk
  rw [rwh.nc.1] at h1
  dsimp only at h1
  have gl1 : decide ((whn : Int) ≤ 1) = true := by simp; omega
  have gl2 : decide (whn ≤ 1) = true := by simp; omega
  clear rco rta rva rit rwh rod ron HI
  have bB : Bs (w.alloc (.cells #[.int .i64 8, .string stb, .string snm, .slice coa con coc, .slice taa tan tac, .slice vaa van vac, .slice ita itn itc, .string sjn, .slice ona onn onc, .slice wha whn whc, .slice oda odn odc, .bool sds, .slice nna nnn nnc] 48)) w.heap.size (⟨8, stb, snm, (coa, con, coc), (taa, tan, tac), (vaa, van, vac), (ita, itn, itc), sjn, (ona, onn, onc), (wha, whn, whc), (oda, odn, odc), sds, (nna, nnn, nnc)⟩ : Sv) := Bs.new w (⟨8, stb, snm, (coa, con, coc), (taa, tan, tac), (vaa, van, vac), (ita, itn, itc), sjn, (ona, onn, onc), (wha, whn, whc), (oda, odn, odc), sds, (nna, nnn, nnc)⟩ : Sv)
  have hB := bal (Below.refl _ w) (.cells #[.int .i64 8, .string stb, .string snm, .slice coa con coc, .slice taa tan tac, .slice vaa van vac, .slice ita itn itc, .string sjn, .slice ona onn onc, .slice wha whn whc, .slice oda odn odc, .bool sds, .slice nna nnn nnc] 48)
  unfold stV
  dsimp only
  go_enter Tryz.func31, Tryz.ntmps31
  go_upto_region 1 with fail
  generalize w.alloc (.cells #[.int .i64 8, .string stb, .string snm, .slice coa con coc, .slice taa tan tac, .slice vaa van vac, .slice ita itn itc, .string sjn, .slice ona onn onc, .slice wha whn whc, .slice oda odn odc, .bool sds, .slice nna nnn nnc] 48) = W at *
  generalize hq : w.heap.size = q at bB ⊢
  replace hq : Hid _ := hid hq
  have c0 := bB.c0
  have c9 := bB.c9
  dsimp only at c0 c9
  go_wp2
  go_ret
  exact ⟨rfl, by first | exact hB | (rw [← hq.out]; exact hB)⟩
set_option maxRecDepth 100000 in
set_option maxHeartbeats 4000000 in
theorem whole7_any {Q : Nat → Prop} {w : World} {m : Sm} {s : Sv} (hI : IsS Q w m s) (hk : m.kind = 7) (hv : ∃ t, m.values = [t]) (h1 : m.wh.length ≤ 1) :
    Calls Tryz.prog 31 #[stV s] w fun e w' => e = .returned (.bool true) ∧ Below w.heap.size w w' := by
  have HI : Hid (∀ w', Below w.heap.size w w' → IsS Q w' m s) := hid fun w' hb => hI.keep fun k _ hk => hb.block k hk
  obtain ⟨mk, mtb, mnm, mco, mta, mva, mit, mjn, mon, mwh, mod, mds⟩ := m
  obtain ⟨sk, stb, snm, ⟨coa, con, coc⟩, ⟨taa, tan, tac⟩, ⟨vaa, van, vac⟩, ⟨ita, itn, itc⟩, sjn, ⟨ona, onn, onc⟩, ⟨wha, whn, whc⟩, ⟨oda, odn, odc⟩, sds, ⟨nna, nnn, nnc⟩⟩ := s
  obtain ⟨e0, e1, e2, rco, rta, rva, rit, e7, ron, rwh, rod, e11⟩ := hI
  dsimp only at *
  subst e0 e1 e2 e7 e11
  subst hk
  rw [rwh.nc.1] at h1
  dsimp only at h1
  have gl1 : decide ((whn : Int) ≤ 1) = true := by simp; omega
  have gl2 : decide (whn ≤ 1) = true := by simp; omega
  obtain ⟨t, rfl⟩ := hv
  have hl : van = 1 := rva.nc.1.symm
  subst hl
  clear rco rta rva rit rwh rod ron HI
  have bB : Bs (w.alloc (.cells #[.int .i64 7, .string stb, .string snm, .slice coa con coc, .slice taa tan tac, .slice vaa 1 vac, .slice ita itn itc, .string sjn, .slice ona onn onc, .slice wha whn whc, .slice oda odn odc, .bool sds, .slice nna nnn nnc] 48)) w.heap.size (⟨7, stb, snm, (coa, con, coc), (taa, tan, tac), (vaa, 1, vac), (ita, itn, itc), sjn, (ona, onn, onc), (wha, whn, whc), (oda, odn, odc), sds, (nna, nnn, nnc)⟩ : Sv) := Bs.new w (⟨7, stb, snm, (coa, con, coc), (taa, tan, tac), (vaa, 1, vac), (ita, itn, itc), sjn, (ona, onn, onc), (wha, whn, whc), (oda, odn, odc), sds, (nna, nnn, nnc)⟩ : Sv)
  have hB := bal (Below.refl _ w) (.cells #[.int .i64 7, .string stb, .string snm, .slice coa con coc, .slice taa tan tac, .slice vaa 1 vac, .slice ita itn itc, .string sjn, .slice ona onn onc, .slice wha whn whc, .slice oda odn odc, .bool sds, .slice nna nnn nnc] 48)
  unfold stV
  dsimp only
  go_enter Tryz.func31, Tryz.ntmps31
  go_upto_region 1 with fail
  generalize w.alloc (.cells #[.int .i64 7, .string stb, .string snm, .slice coa con coc, .slice taa tan tac, .slice vaa 1 vac, .slice ita itn itc, .string sjn, .slice ona onn onc, .slice wha whn whc, .slice oda odn odc, .bool sds, .slice nna nnn nnc] 48) = W at *
  generalize hq : w.heap.size = q at bB ⊢
  replace hq : Hid _ := hid hq
  have c0 := bB.c0
  have c5 := bB.c5
  have c9 := bB.c9
  dsimp only at c0 c5 c9
  go_wp2
  go_ret
  exact ⟨rfl, by first | exact hB | (rw [← hq.out]; exact hB)⟩
set_option maxRecDepth 100000 in
set_option maxHeartbeats 4000000 in
theorem whole6_any {Q : Nat → Prop} {w : World} {m : Sm} {s : Sv} (hI : IsS Q w m s) (hk : m.kind = 6) (hit : ∀ x ∈ m.items, x.1 = 0 ∨ x.1 = 1 ∨ x.1 = 2 ∨ x.1 = 3 ∨ x.1 = 4) (hj : (m.join = ⟨#[]⟩ ∧ m.on = []) ∨ (m.join ≠ ⟨#[]⟩ ∧ ∃ a b, m.on = [a, b] ∧ IsCol a ∧ IsCol b)) (h1 : m.wh.length ≤ 1) (ho : (m.desc = false ∧ m.order = []) ∨ ∃ a, m.order = [a] ∧ IsCol a) :
    Calls Tryz.prog 31 #[stV s] w fun e w' => e = .returned (.bool true) ∧ Below w.heap.size w w' := by
  have HI : Hid (∀ w', Below w.heap.size w w' → IsS Q w' m s) := hid fun w' hb => hI.keep fun k _ hk => hb.block k hk
  obtain ⟨mk, mtb, mnm, mco, mta, mva, mit, mjn, mon, mwh, mod, mds⟩ := m
  obtain ⟨sk, stb, snm, ⟨coa, con, coc⟩, ⟨taa, tan, tac⟩, ⟨vaa, van, vac⟩, ⟨ita, itn, itc⟩, sjn, ⟨ona, onn, onc⟩, ⟨wha, whn, whc⟩, ⟨oda, odn, odc⟩, sds, ⟨nna, nnn, nnc⟩⟩ := s
  obtain ⟨e0, e1, e2, rco, rta, rva, rit, e7, ron, rwh, rod, e11⟩ := hI
  dsimp only at *
  subst e0 e1 e2 e7 e11
  subst hk
  rw [rwh.nc.1] at h1
  dsimp only at h1
  have gl1 : decide ((whn : Int) ≤ 1) = true := by simp; omega
  have gl2 : decide (whn ≤ 1) = true := by simp; omega
  clear rco rta rva rwh rod ron
  have bB : Bs (w.alloc (.cells #[.int .i64 6, .string stb, .string snm, .slice coa con coc, .slice taa tan tac, .slice vaa van vac, .slice ita itn itc, .string sjn, .slice ona onn onc, .slice wha whn whc, .slice oda odn odc, .bool sds, .slice nna nnn nnc] 48)) w.heap.size (⟨6, stb, snm, (coa, con, coc), (taa, tan, tac), (vaa, van, vac), (ita, itn, itc), sjn, (ona, onn, onc), (wha, whn, whc), (oda, odn, odc), sds, (nna, nnn, nnc)⟩ : Sv) := Bs.new w (⟨6, stb, snm, (coa, con, coc), (taa, tan, tac), (vaa, van, vac), (ita, itn, itc), sjn, (ona, onn, onc), (wha, whn, whc), (oda, odn, odc), sds, (nna, nnn, nnc)⟩ : Sv)
  have hB := bal (Below.refl _ w) (.cells #[.int .i64 6, .string stb, .string snm, .slice coa con coc, .slice taa tan tac, .slice vaa van vac, .slice ita itn itc, .string sjn, .slice ona onn onc, .slice wha whn whc, .slice oda odn odc, .bool sds, .slice nna nnn nnc] 48)
  unfold stV
  dsimp only
  go_enter Tryz.func31, Tryz.ntmps31
  go_upto_region 1 with fail
  generalize w.alloc (.cells #[.int .i64 6, .string stb, .string snm, .slice coa con coc, .slice taa tan tac, .slice vaa van vac, .slice ita itn itc, .string sjn, .slice ona onn onc, .slice wha whn whc, .slice oda odn odc, .bool sds, .slice nna nnn nnc] 48) = W at *
  generalize hq : w.heap.size = q at bB ⊢
  replace hq : Hid _ := hid hq
  have c0 := bB.c0
  have c6 := bB.c6
  dsimp only at c0 c6
  have H : Hid _ := hid (allItem_any hmWI (rit.keep (by decide) fun k _ hk => hB.block k hk) (fun i hi w1 hb ta tt tn e => wholeItem_any w1 tt tn (by have := hit _ (List.getElem_mem hi); rw [e] at this; exact this)))
  go_wp2_with fail
  refine Calls.mono H.out ?_
  rintro e w1 ⟨rfl, hb⟩
  replace bB := bB.later hb
  replace hB := Below.on hB hb
  clear H hb c0 c6
  have c0 := bB.c0
  have c1 := bB.c1
  have c2 := bB.c2
  have c3 := bB.c3
  have c4 := bB.c4
  have c5 := bB.c5
  have c6 := bB.c6
  have c7 := bB.c7
  have c8 := bB.c8
  have c9 := bB.c9
  have c10 := bB.c10
  have c11 := bB.c11
  have c12 := bB.c12
  dsimp only at c0 c1 c2 c3 c4 c5 c6 c7 c8 c9 c10 c11 c12
  have H := wholeJoin_any (HI.out _ hB) hj
  unfold stV at H
  dsimp only at H
  replace H : Hid _ := hid H
  go_wp2_with fail
  refine Calls.mono H.out ?_
  rintro e w2 ⟨rfl, hb⟩
  replace bB := bB.later hb
  replace hB := Below.on hB hb
  clear H hb c0 c1 c2 c3 c4 c5 c6 c7 c8 c9 c10 c11 c12
  have c0 := bB.c0
  have c1 := bB.c1
  have c2 := bB.c2
  have c3 := bB.c3
  have c4 := bB.c4
  have c5 := bB.c5
  have c6 := bB.c6
  have c7 := bB.c7
  have c8 := bB.c8
  have c9 := bB.c9
  have c10 := bB.c10
  have c11 := bB.c11
  have c12 := bB.c12
  dsimp only at c0 c1 c2 c3 c4 c5 c6 c7 c8 c9 c10 c11 c12
  have H := wholeOrder_any (HI.out _ hB) ho
  unfold stV at H
  dsimp only at H
  replace H : Hid _ := hid H
  go_wp2_with fail
  refine Calls.mono H.out ?_
  rintro e w3 ⟨rfl, hb⟩
  replace bB := bB.later hb
  replace hB := Below.on hB hb
  clear H hb c0 c1 c2 c3 c4 c5 c6 c7 c8 c9 c10 c11 c12
  go_wp2
  go_ret
  exact ⟨rfl, by first | exact hB | (rw [← hq.out]; exact hB)⟩
/-- A statement with none within it that is whole. -/
structure WhlS (m : Sm) : Prop where
  ok : WsOK m
  values : m.kind = 5 → m.values ≠ []
  value : m.kind = 7 → ∃ t, m.values = [t]
  wh : m.wh.length ≤ 1
  join : (m.join = ⟨#[]⟩ ∧ m.on = []) ∨ (m.join ≠ ⟨#[]⟩ ∧ ∃ a b, m.on = [a, b] ∧ IsCol a ∧ IsCol b)
  order : (m.desc = false ∧ m.order = []) ∨ ∃ a, m.order = [a] ∧ IsCol a
theorem wholeS_any {Q : Nat → Prop} {w : World} {m : Sm} {s : Sv} (hI : IsS Q w m s) (hm : WhlS m) : Calls Tryz.prog 31 #[stV s] w fun e w' => e = .returned (.bool true) ∧ Below w.heap.size w w' := by
  rcases hm.ok.kind with hk | hk | hk | hk
  · exact whole5_any hI hk (hm.values hk)
  · exact whole6_any hI hk hm.ok.items hm.join hm.wh hm.order
  · exact whole7_any hI hk (hm.value hk) hm.wh
  · exact whole8_any hI hk hm.wh
set_option maxRecDepth 100000 in
set_option maxHeartbeats 4000000 in
theorem whole1_any {Q : Nat → Prop} {w : World} {m : Sm} {s : Sv} (hI : IsS Q w m s) (hk : m.kind = 1) (h0 : m.cols ≠ []) (hc : ∀ c ∈ m.cols, CoOK c) :
    Calls Tryz.prog 31 #[stV s] w fun e w' => e = .returned (.bool true) ∧ Below w.heap.size w w' := by
  have HI : Hid (∀ w', Below w.heap.size w w' → IsS Q w' m s) := hid fun w' hb => hI.keep fun k _ hk => hb.block k hk
  obtain ⟨mk, mtb, mnm, mco, mta, mva, mit, mjn, mon, mwh, mod, mds⟩ := m
  obtain ⟨sk, stb, snm, ⟨coa, con, coc⟩, ⟨taa, tan, tac⟩, ⟨vaa, van, vac⟩, ⟨ita, itn, itc⟩, sjn, ⟨ona, onn, onc⟩, ⟨wha, whn, whc⟩, ⟨oda, odn, odc⟩, sds, ⟨nna, nnn, nnc⟩⟩ := s
  obtain ⟨e0, e1, e2, rco, rta, rva, rit, e7, ron, rwh, rod, e11⟩ := hI
  dsimp only at *
  subst e0 e1 e2 e7 e11
  subst hk
  have hl := List.length_pos_iff.2 h0
  rw [rco.nc.1] at hl
  dsimp only at hl
  have gp1 : decide ((0 : Int) < (con : Int)) = true := by simp; omega
  have gp2 : decide (0 < con) = true := by simp; omega
  have gp3 : (0 : Int) < (con : Int) := by omega
  clear rta rva rit rwh rod ron HI h0
  have bB : Bs (w.alloc (.cells #[.int .i64 1, .string stb, .string snm, .slice coa con coc, .slice taa tan tac, .slice vaa van vac, .slice ita itn itc, .string sjn, .slice ona onn onc, .slice wha whn whc, .slice oda odn odc, .bool sds, .slice nna nnn nnc] 48)) w.heap.size (⟨1, stb, snm, (coa, con, coc), (taa, tan, tac), (vaa, van, vac), (ita, itn, itc), sjn, (ona, onn, onc), (wha, whn, whc), (oda, odn, odc), sds, (nna, nnn, nnc)⟩ : Sv) := Bs.new w (⟨1, stb, snm, (coa, con, coc), (taa, tan, tac), (vaa, van, vac), (ita, itn, itc), sjn, (ona, onn, onc), (wha, whn, whc), (oda, odn, odc), sds, (nna, nnn, nnc)⟩ : Sv)
  have hB := bal (Below.refl _ w) (.cells #[.int .i64 1, .string stb, .string snm, .slice coa con coc, .slice taa tan tac, .slice vaa van vac, .slice ita itn itc, .string sjn, .slice ona onn onc, .slice wha whn whc, .slice oda odn odc, .bool sds, .slice nna nnn nnc] 48)
  unfold stV
  dsimp only
  go_enter Tryz.func31, Tryz.ntmps31
  go_upto_region 1 with fail
  generalize w.alloc (.cells #[.int .i64 1, .string stb, .string snm, .slice coa con coc, .slice taa tan tac, .slice vaa van vac, .slice ita itn itc, .string sjn, .slice ona onn onc, .slice wha whn whc, .slice oda odn odc, .bool sds, .slice nna nnn nnc] 48) = W at *
  generalize hq : w.heap.size = q at bB ⊢
  replace hq : Hid _ := hid hq
  have c0 := bB.c0
  have c3 := bB.c3
  dsimp only at c0 c3
  have H : Hid _ := hid (allCol_any hmWC (rco.keep (by decide) fun k _ hk => hB.block k hk) (fun i hi w1 hb tn tk tr e => wholeCol_any w1 tn tr (by have := hc _ (List.getElem_mem hi); rw [e] at this; exact this)))
  go_wp2_with fail
  refine Calls.mono H.out ?_
  rintro e w1 ⟨rfl, hb⟩
  replace hB := Below.on hB hb
  clear H hb c0 c3 bB
  go_wp2
  go_ret
  exact ⟨rfl, by first | exact hB | (rw [← hq.out]; exact hB)⟩
set_option maxRecDepth 100000 in
set_option maxHeartbeats 4000000 in
theorem whole12_any {Q : Nat → Prop} {w : World} {m : Sm} {s : Sv} (hI : IsS Q w m s) (hk : m.kind = 12) (h0 : m.tags ≠ []) :
    Calls Tryz.prog 31 #[stV s] w fun e w' => e = .returned (.bool true) ∧ Below w.heap.size w w' := by
  have HI : Hid (∀ w', Below w.heap.size w w' → IsS Q w' m s) := hid fun w' hb => hI.keep fun k _ hk => hb.block k hk
  obtain ⟨mk, mtb, mnm, mco, mta, mva, mit, mjn, mon, mwh, mod, mds⟩ := m
  obtain ⟨sk, stb, snm, ⟨coa, con, coc⟩, ⟨taa, tan, tac⟩, ⟨vaa, van, vac⟩, ⟨ita, itn, itc⟩, sjn, ⟨ona, onn, onc⟩, ⟨wha, whn, whc⟩, ⟨oda, odn, odc⟩, sds, ⟨nna, nnn, nnc⟩⟩ := s
  obtain ⟨e0, e1, e2, rco, rta, rva, rit, e7, ron, rwh, rod, e11⟩ := hI
  dsimp only at *
  subst e0 e1 e2 e7 e11
  subst hk
  have hl := List.length_pos_iff.2 h0
  rw [rta.nc.1] at hl
  dsimp only at hl
  have gp1 : decide ((0 : Int) < (tan : Int)) = true := by simp; omega
  have gp2 : decide (0 < tan) = true := by simp; omega
  have gp3 : (0 : Int) < (tan : Int) := by omega
  clear rco rta rva rit rwh rod ron HI h0
  have bB : Bs (w.alloc (.cells #[.int .i64 12, .string stb, .string snm, .slice coa con coc, .slice taa tan tac, .slice vaa van vac, .slice ita itn itc, .string sjn, .slice ona onn onc, .slice wha whn whc, .slice oda odn odc, .bool sds, .slice nna nnn nnc] 48)) w.heap.size (⟨12, stb, snm, (coa, con, coc), (taa, tan, tac), (vaa, van, vac), (ita, itn, itc), sjn, (ona, onn, onc), (wha, whn, whc), (oda, odn, odc), sds, (nna, nnn, nnc)⟩ : Sv) := Bs.new w (⟨12, stb, snm, (coa, con, coc), (taa, tan, tac), (vaa, van, vac), (ita, itn, itc), sjn, (ona, onn, onc), (wha, whn, whc), (oda, odn, odc), sds, (nna, nnn, nnc)⟩ : Sv)
  have hB := bal (Below.refl _ w) (.cells #[.int .i64 12, .string stb, .string snm, .slice coa con coc, .slice taa tan tac, .slice vaa van vac, .slice ita itn itc, .string sjn, .slice ona onn onc, .slice wha whn whc, .slice oda odn odc, .bool sds, .slice nna nnn nnc] 48)
  unfold stV
  dsimp only
  go_enter Tryz.func31, Tryz.ntmps31
  go_upto_region 1 with fail
  generalize w.alloc (.cells #[.int .i64 12, .string stb, .string snm, .slice coa con coc, .slice taa tan tac, .slice vaa van vac, .slice ita itn itc, .string sjn, .slice ona onn onc, .slice wha whn whc, .slice oda odn odc, .bool sds, .slice nna nnn nnc] 48) = W at *
  generalize hq : w.heap.size = q at bB ⊢
  replace hq : Hid _ := hid hq
  have c0 := bB.c0
  have c4 := bB.c4
  dsimp only at c0 c4
  go_wp2
  go_ret
  exact ⟨rfl, by first | exact hB | (rw [← hq.out]; exact hB)⟩
set_option maxRecDepth 100000 in
set_option maxHeartbeats 4000000 in
theorem whole2_any {Q : Nat → Prop} {w : World} {m : Sm} {s : Sv} (hI : IsS Q w m s) (hk : m.kind = 2)  :
    Calls Tryz.prog 31 #[stV s] w fun e w' => e = .returned (.bool true) ∧ Below w.heap.size w w' := by
  have HI : Hid (∀ w', Below w.heap.size w w' → IsS Q w' m s) := hid fun w' hb => hI.keep fun k _ hk => hb.block k hk
  obtain ⟨mk, mtb, mnm, mco, mta, mva, mit, mjn, mon, mwh, mod, mds⟩ := m
  obtain ⟨sk, stb, snm, ⟨coa, con, coc⟩, ⟨taa, tan, tac⟩, ⟨vaa, van, vac⟩, ⟨ita, itn, itc⟩, sjn, ⟨ona, onn, onc⟩, ⟨wha, whn, whc⟩, ⟨oda, odn, odc⟩, sds, ⟨nna, nnn, nnc⟩⟩ := s
  obtain ⟨e0, e1, e2, rco, rta, rva, rit, e7, ron, rwh, rod, e11⟩ := hI
  dsimp only at *
  subst e0 e1 e2 e7 e11
  subst hk
  clear rco rta rva rit rwh rod ron HI
  have bB : Bs (w.alloc (.cells #[.int .i64 2, .string stb, .string snm, .slice coa con coc, .slice taa tan tac, .slice vaa van vac, .slice ita itn itc, .string sjn, .slice ona onn onc, .slice wha whn whc, .slice oda odn odc, .bool sds, .slice nna nnn nnc] 48)) w.heap.size (⟨2, stb, snm, (coa, con, coc), (taa, tan, tac), (vaa, van, vac), (ita, itn, itc), sjn, (ona, onn, onc), (wha, whn, whc), (oda, odn, odc), sds, (nna, nnn, nnc)⟩ : Sv) := Bs.new w (⟨2, stb, snm, (coa, con, coc), (taa, tan, tac), (vaa, van, vac), (ita, itn, itc), sjn, (ona, onn, onc), (wha, whn, whc), (oda, odn, odc), sds, (nna, nnn, nnc)⟩ : Sv)
  have hB := bal (Below.refl _ w) (.cells #[.int .i64 2, .string stb, .string snm, .slice coa con coc, .slice taa tan tac, .slice vaa van vac, .slice ita itn itc, .string sjn, .slice ona onn onc, .slice wha whn whc, .slice oda odn odc, .bool sds, .slice nna nnn nnc] 48)
  unfold stV
  dsimp only
  go_enter Tryz.func31, Tryz.ntmps31
  go_upto_region 1 with fail
  generalize w.alloc (.cells #[.int .i64 2, .string stb, .string snm, .slice coa con coc, .slice taa tan tac, .slice vaa van vac, .slice ita itn itc, .string sjn, .slice ona onn onc, .slice wha whn whc, .slice oda odn odc, .bool sds, .slice nna nnn nnc] 48) = W at *
  generalize hq : w.heap.size = q at bB ⊢
  replace hq : Hid _ := hid hq
  have c0 := bB.c0
  dsimp only at c0
  go_wp2
  go_ret
  exact ⟨rfl, by first | exact hB | (rw [← hq.out]; exact hB)⟩
set_option maxRecDepth 100000 in
set_option maxHeartbeats 4000000 in
theorem whole9_any {Q : Nat → Prop} {w : World} {m : Sm} {s : Sv} (hI : IsS Q w m s) (hk : m.kind = 9)  :
    Calls Tryz.prog 31 #[stV s] w fun e w' => e = .returned (.bool true) ∧ Below w.heap.size w w' := by
  have HI : Hid (∀ w', Below w.heap.size w w' → IsS Q w' m s) := hid fun w' hb => hI.keep fun k _ hk => hb.block k hk
  obtain ⟨mk, mtb, mnm, mco, mta, mva, mit, mjn, mon, mwh, mod, mds⟩ := m
  obtain ⟨sk, stb, snm, ⟨coa, con, coc⟩, ⟨taa, tan, tac⟩, ⟨vaa, van, vac⟩, ⟨ita, itn, itc⟩, sjn, ⟨ona, onn, onc⟩, ⟨wha, whn, whc⟩, ⟨oda, odn, odc⟩, sds, ⟨nna, nnn, nnc⟩⟩ := s
  obtain ⟨e0, e1, e2, rco, rta, rva, rit, e7, ron, rwh, rod, e11⟩ := hI
  dsimp only at *
  subst e0 e1 e2 e7 e11
  subst hk
  clear rco rta rva rit rwh rod ron HI
  have bB : Bs (w.alloc (.cells #[.int .i64 9, .string stb, .string snm, .slice coa con coc, .slice taa tan tac, .slice vaa van vac, .slice ita itn itc, .string sjn, .slice ona onn onc, .slice wha whn whc, .slice oda odn odc, .bool sds, .slice nna nnn nnc] 48)) w.heap.size (⟨9, stb, snm, (coa, con, coc), (taa, tan, tac), (vaa, van, vac), (ita, itn, itc), sjn, (ona, onn, onc), (wha, whn, whc), (oda, odn, odc), sds, (nna, nnn, nnc)⟩ : Sv) := Bs.new w (⟨9, stb, snm, (coa, con, coc), (taa, tan, tac), (vaa, van, vac), (ita, itn, itc), sjn, (ona, onn, onc), (wha, whn, whc), (oda, odn, odc), sds, (nna, nnn, nnc)⟩ : Sv)
  have hB := bal (Below.refl _ w) (.cells #[.int .i64 9, .string stb, .string snm, .slice coa con coc, .slice taa tan tac, .slice vaa van vac, .slice ita itn itc, .string sjn, .slice ona onn onc, .slice wha whn whc, .slice oda odn odc, .bool sds, .slice nna nnn nnc] 48)
  unfold stV
  dsimp only
  go_enter Tryz.func31, Tryz.ntmps31
  go_upto_region 1 with fail
  generalize w.alloc (.cells #[.int .i64 9, .string stb, .string snm, .slice coa con coc, .slice taa tan tac, .slice vaa van vac, .slice ita itn itc, .string sjn, .slice ona onn onc, .slice wha whn whc, .slice oda odn odc, .bool sds, .slice nna nnn nnc] 48) = W at *
  generalize hq : w.heap.size = q at bB ⊢
  replace hq : Hid _ := hid hq
  have c0 := bB.c0
  dsimp only at c0
  go_wp2
  go_ret
  exact ⟨rfl, by first | exact hB | (rw [← hq.out]; exact hB)⟩
set_option maxRecDepth 100000 in
set_option maxHeartbeats 4000000 in
theorem whole10_any {Q : Nat → Prop} {w : World} {m : Sm} {s : Sv} (hI : IsS Q w m s) (hk : m.kind = 10)  :
    Calls Tryz.prog 31 #[stV s] w fun e w' => e = .returned (.bool true) ∧ Below w.heap.size w w' := by
  have HI : Hid (∀ w', Below w.heap.size w w' → IsS Q w' m s) := hid fun w' hb => hI.keep fun k _ hk => hb.block k hk
  obtain ⟨mk, mtb, mnm, mco, mta, mva, mit, mjn, mon, mwh, mod, mds⟩ := m
  obtain ⟨sk, stb, snm, ⟨coa, con, coc⟩, ⟨taa, tan, tac⟩, ⟨vaa, van, vac⟩, ⟨ita, itn, itc⟩, sjn, ⟨ona, onn, onc⟩, ⟨wha, whn, whc⟩, ⟨oda, odn, odc⟩, sds, ⟨nna, nnn, nnc⟩⟩ := s
  obtain ⟨e0, e1, e2, rco, rta, rva, rit, e7, ron, rwh, rod, e11⟩ := hI
  dsimp only at *
  subst e0 e1 e2 e7 e11
  subst hk
  clear rco rta rva rit rwh rod ron HI
  have bB : Bs (w.alloc (.cells #[.int .i64 10, .string stb, .string snm, .slice coa con coc, .slice taa tan tac, .slice vaa van vac, .slice ita itn itc, .string sjn, .slice ona onn onc, .slice wha whn whc, .slice oda odn odc, .bool sds, .slice nna nnn nnc] 48)) w.heap.size (⟨10, stb, snm, (coa, con, coc), (taa, tan, tac), (vaa, van, vac), (ita, itn, itc), sjn, (ona, onn, onc), (wha, whn, whc), (oda, odn, odc), sds, (nna, nnn, nnc)⟩ : Sv) := Bs.new w (⟨10, stb, snm, (coa, con, coc), (taa, tan, tac), (vaa, van, vac), (ita, itn, itc), sjn, (ona, onn, onc), (wha, whn, whc), (oda, odn, odc), sds, (nna, nnn, nnc)⟩ : Sv)
  have hB := bal (Below.refl _ w) (.cells #[.int .i64 10, .string stb, .string snm, .slice coa con coc, .slice taa tan tac, .slice vaa van vac, .slice ita itn itc, .string sjn, .slice ona onn onc, .slice wha whn whc, .slice oda odn odc, .bool sds, .slice nna nnn nnc] 48)
  unfold stV
  dsimp only
  go_enter Tryz.func31, Tryz.ntmps31
  go_upto_region 1 with fail
  generalize w.alloc (.cells #[.int .i64 10, .string stb, .string snm, .slice coa con coc, .slice taa tan tac, .slice vaa van vac, .slice ita itn itc, .string sjn, .slice ona onn onc, .slice wha whn whc, .slice oda odn odc, .bool sds, .slice nna nnn nnc] 48) = W at *
  generalize hq : w.heap.size = q at bB ⊢
  replace hq : Hid _ := hid hq
  have c0 := bB.c0
  dsimp only at c0
  go_wp2
  go_ret
  exact ⟨rfl, by first | exact hB | (rw [← hq.out]; exact hB)⟩
set_option maxRecDepth 100000 in
set_option maxHeartbeats 4000000 in
theorem whole11_any {Q : Nat → Prop} {w : World} {m : Sm} {s : Sv} (hI : IsS Q w m s) (hk : m.kind = 11)  :
    Calls Tryz.prog 31 #[stV s] w fun e w' => e = .returned (.bool true) ∧ Below w.heap.size w w' := by
  have HI : Hid (∀ w', Below w.heap.size w w' → IsS Q w' m s) := hid fun w' hb => hI.keep fun k _ hk => hb.block k hk
  obtain ⟨mk, mtb, mnm, mco, mta, mva, mit, mjn, mon, mwh, mod, mds⟩ := m
  obtain ⟨sk, stb, snm, ⟨coa, con, coc⟩, ⟨taa, tan, tac⟩, ⟨vaa, van, vac⟩, ⟨ita, itn, itc⟩, sjn, ⟨ona, onn, onc⟩, ⟨wha, whn, whc⟩, ⟨oda, odn, odc⟩, sds, ⟨nna, nnn, nnc⟩⟩ := s
  obtain ⟨e0, e1, e2, rco, rta, rva, rit, e7, ron, rwh, rod, e11⟩ := hI
  dsimp only at *
  subst e0 e1 e2 e7 e11
  subst hk
  clear rco rta rva rit rwh rod ron HI
  have bB : Bs (w.alloc (.cells #[.int .i64 11, .string stb, .string snm, .slice coa con coc, .slice taa tan tac, .slice vaa van vac, .slice ita itn itc, .string sjn, .slice ona onn onc, .slice wha whn whc, .slice oda odn odc, .bool sds, .slice nna nnn nnc] 48)) w.heap.size (⟨11, stb, snm, (coa, con, coc), (taa, tan, tac), (vaa, van, vac), (ita, itn, itc), sjn, (ona, onn, onc), (wha, whn, whc), (oda, odn, odc), sds, (nna, nnn, nnc)⟩ : Sv) := Bs.new w (⟨11, stb, snm, (coa, con, coc), (taa, tan, tac), (vaa, van, vac), (ita, itn, itc), sjn, (ona, onn, onc), (wha, whn, whc), (oda, odn, odc), sds, (nna, nnn, nnc)⟩ : Sv)
  have hB := bal (Below.refl _ w) (.cells #[.int .i64 11, .string stb, .string snm, .slice coa con coc, .slice taa tan tac, .slice vaa van vac, .slice ita itn itc, .string sjn, .slice ona onn onc, .slice wha whn whc, .slice oda odn odc, .bool sds, .slice nna nnn nnc] 48)
  unfold stV
  dsimp only
  go_enter Tryz.func31, Tryz.ntmps31
  go_upto_region 1 with fail
  generalize w.alloc (.cells #[.int .i64 11, .string stb, .string snm, .slice coa con coc, .slice taa tan tac, .slice vaa van vac, .slice ita itn itc, .string sjn, .slice ona onn onc, .slice wha whn whc, .slice oda odn odc, .bool sds, .slice nna nnn nnc] 48) = W at *
  generalize hq : w.heap.size = q at bB ⊢
  replace hq : Hid _ := hid hq
  have c0 := bB.c0
  dsimp only at c0
  go_wp2
  go_ret
  exact ⟨rfl, by first | exact hB | (rw [← hq.out]; exact hB)⟩
set_option maxRecDepth 100000 in
set_option maxHeartbeats 4000000 in
theorem whole13_any {Q : Nat → Prop} {w : World} {m : Sm} {s : Sv} (hI : IsS Q w m s) (hk : m.kind = 13)  :
    Calls Tryz.prog 31 #[stV s] w fun e w' => e = .returned (.bool true) ∧ Below w.heap.size w w' := by
  have HI : Hid (∀ w', Below w.heap.size w w' → IsS Q w' m s) := hid fun w' hb => hI.keep fun k _ hk => hb.block k hk
  obtain ⟨mk, mtb, mnm, mco, mta, mva, mit, mjn, mon, mwh, mod, mds⟩ := m
  obtain ⟨sk, stb, snm, ⟨coa, con, coc⟩, ⟨taa, tan, tac⟩, ⟨vaa, van, vac⟩, ⟨ita, itn, itc⟩, sjn, ⟨ona, onn, onc⟩, ⟨wha, whn, whc⟩, ⟨oda, odn, odc⟩, sds, ⟨nna, nnn, nnc⟩⟩ := s
  obtain ⟨e0, e1, e2, rco, rta, rva, rit, e7, ron, rwh, rod, e11⟩ := hI
  dsimp only at *
  subst e0 e1 e2 e7 e11
  subst hk
  clear rco rta rva rit rwh rod ron HI
  have bB : Bs (w.alloc (.cells #[.int .i64 13, .string stb, .string snm, .slice coa con coc, .slice taa tan tac, .slice vaa van vac, .slice ita itn itc, .string sjn, .slice ona onn onc, .slice wha whn whc, .slice oda odn odc, .bool sds, .slice nna nnn nnc] 48)) w.heap.size (⟨13, stb, snm, (coa, con, coc), (taa, tan, tac), (vaa, van, vac), (ita, itn, itc), sjn, (ona, onn, onc), (wha, whn, whc), (oda, odn, odc), sds, (nna, nnn, nnc)⟩ : Sv) := Bs.new w (⟨13, stb, snm, (coa, con, coc), (taa, tan, tac), (vaa, van, vac), (ita, itn, itc), sjn, (ona, onn, onc), (wha, whn, whc), (oda, odn, odc), sds, (nna, nnn, nnc)⟩ : Sv)
  have hB := bal (Below.refl _ w) (.cells #[.int .i64 13, .string stb, .string snm, .slice coa con coc, .slice taa tan tac, .slice vaa van vac, .slice ita itn itc, .string sjn, .slice ona onn onc, .slice wha whn whc, .slice oda odn odc, .bool sds, .slice nna nnn nnc] 48)
  unfold stV
  dsimp only
  go_enter Tryz.func31, Tryz.ntmps31
  go_upto_region 1 with fail
  generalize w.alloc (.cells #[.int .i64 13, .string stb, .string snm, .slice coa con coc, .slice taa tan tac, .slice vaa van vac, .slice ita itn itc, .string sjn, .slice ona onn onc, .slice wha whn whc, .slice oda odn odc, .bool sds, .slice nna nnn nnc] 48) = W at *
  generalize hq : w.heap.size = q at bB ⊢
  replace hq : Hid _ := hid hq
  have c0 := bB.c0
  dsimp only at c0
  go_wp2
  go_ret
  exact ⟨rfl, by first | exact hB | (rw [← hq.out]; exact hB)⟩
set_option maxRecDepth 100000 in
set_option maxHeartbeats 4000000 in
theorem whole3_any {Q : Nat → Prop} {w : World} {m : Sm} {s : Sv} (hI : IsS Q w m s) (hk : m.kind = 3) {l : List Sm} (hN : RowIs eStmt Q w (slV s.inn) l) (h1 : l.length = 1) (h6 : ∀ x ∈ l, x.kind = 6) (hl : ∀ x ∈ l, WhlS x) :
    Calls Tryz.prog 31 #[stV s] w fun e w' => e = .returned (.bool true) ∧ Below w.heap.size w w' := by
  have HI : Hid (∀ w', Below w.heap.size w w' → IsS Q w' m s) := hid fun w' hb => hI.keep fun k _ hk => hb.block k hk
  obtain ⟨mk, mtb, mnm, mco, mta, mva, mit, mjn, mon, mwh, mod, mds⟩ := m
  obtain ⟨sk, stb, snm, ⟨coa, con, coc⟩, ⟨taa, tan, tac⟩, ⟨vaa, van, vac⟩, ⟨ita, itn, itc⟩, sjn, ⟨ona, onn, onc⟩, ⟨wha, whn, whc⟩, ⟨oda, odn, odc⟩, sds, ⟨nna, nnn, nnc⟩⟩ := s
  obtain ⟨e0, e1, e2, rco, rta, rva, rit, e7, ron, rwh, rod, e11⟩ := hI
  dsimp only at *
  subst e0 e1 e2 e7 e11
  subst hk
  have hn1 : nnn = 1 := hN.nc.1.symm.trans h1
  subst hn1
  clear rco rta rva rit rwh rod ron HI
  have bB : Bs (w.alloc (.cells #[.int .i64 3, .string stb, .string snm, .slice coa con coc, .slice taa tan tac, .slice vaa van vac, .slice ita itn itc, .string sjn, .slice ona onn onc, .slice wha whn whc, .slice oda odn odc, .bool sds, .slice nna 1 nnc] 48)) w.heap.size (⟨3, stb, snm, (coa, con, coc), (taa, tan, tac), (vaa, van, vac), (ita, itn, itc), sjn, (ona, onn, onc), (wha, whn, whc), (oda, odn, odc), sds, (nna, 1, nnc)⟩ : Sv) := Bs.new w (⟨3, stb, snm, (coa, con, coc), (taa, tan, tac), (vaa, van, vac), (ita, itn, itc), sjn, (ona, onn, onc), (wha, whn, whc), (oda, odn, odc), sds, (nna, 1, nnc)⟩ : Sv)
  have hB := bal (Below.refl _ w) (.cells #[.int .i64 3, .string stb, .string snm, .slice coa con coc, .slice taa tan tac, .slice vaa van vac, .slice ita itn itc, .string sjn, .slice ona onn onc, .slice wha whn whc, .slice oda odn odc, .bool sds, .slice nna 1 nnc] 48)
  unfold stV
  dsimp only
  go_enter Tryz.func31, Tryz.ntmps31
  go_upto_region 1 with fail
  generalize w.alloc (.cells #[.int .i64 3, .string stb, .string snm, .slice coa con coc, .slice taa tan tac, .slice vaa van vac, .slice ita itn itc, .string sjn, .slice ona onn onc, .slice wha whn whc, .slice oda odn odc, .bool sds, .slice nna 1 nnc] 48) = W at *
  generalize hq : w.heap.size = q at bB ⊢
  replace hq : Hid _ := hid hq
  have c0 := bB.c0
  have c12 := bB.c12
  dsimp only at c0 c12
  have H : Hid _ := hid (allStmt_any hmIQ (hN.keep (by decide) fun k _ hk => hB.block k hk) (fun i hi w1 hb sk stb snm coa con coc taa tan tac vaa van vac ita itn itc sjn ona onn onc wha whn whc oda odn odc sds nna nnn nnc hx => isQuery_any w1 stb snm coa con coc taa tan tac vaa van vac ita itn itc sjn ona onn onc wha whn whc oda odn odc sds nna nnn nnc (by have := hx.1.k; dsimp only at this; rw [this]; exact h6 _ (List.getElem_mem hi))))
  go_wp2_with fail
  refine Calls.mono H.out ?_
  rintro e w1 ⟨rfl, hb⟩
  replace bB := bB.later hb
  replace hB := Below.on hB hb
  clear H hb c0 c12
  have c12 := bB.c12
  dsimp only at c12
  have H : Hid _ := hid (allStmt_any hmWh (hN.keep (by decide) fun k _ hk => hB.block k hk) (fun i hi w1 hb sk stb snm coa con coc taa tan tac vaa van vac ita itn itc sjn ona onn onc wha whn whc oda odn odc sds nna nnn nnc hx => wholeS_any (s := (⟨sk, stb, snm, (coa, con, coc), (taa, tan, tac), (vaa, van, vac), (ita, itn, itc), sjn, (ona, onn, onc), (wha, whn, whc), (oda, odn, odc), sds, (nna, nnn, nnc)⟩ : Sv)) hx.1 (hl _ (List.getElem_mem hi))))
  go_wp2_with fail
  refine Calls.mono H.out ?_
  rintro e w2 ⟨rfl, hb⟩
  replace hB := Below.on hB hb
  clear H hb c12 bB
  go_wp2
  go_ret
  exact ⟨rfl, by first | exact hB | (rw [← hq.out]; exact hB)⟩
set_option maxRecDepth 100000 in
set_option maxHeartbeats 4000000 in
theorem whole4_any {Q : Nat → Prop} {w : World} {m : Sm} {s : Sv} (hI : IsS Q w m s) (hk : m.kind = 4) {l : List Sm} (hN : RowIs eStmt Q w (slV s.inn) l) (h1 : l.length = 1) (h6 : ∀ x ∈ l, x.kind = 5 ∨ x.kind = 7 ∨ x.kind = 8) (hl : ∀ x ∈ l, WhlS x) :
    Calls Tryz.prog 31 #[stV s] w fun e w' => e = .returned (.bool true) ∧ Below w.heap.size w w' := by
  have HI : Hid (∀ w', Below w.heap.size w w' → IsS Q w' m s) := hid fun w' hb => hI.keep fun k _ hk => hb.block k hk
  obtain ⟨mk, mtb, mnm, mco, mta, mva, mit, mjn, mon, mwh, mod, mds⟩ := m
  obtain ⟨sk, stb, snm, ⟨coa, con, coc⟩, ⟨taa, tan, tac⟩, ⟨vaa, van, vac⟩, ⟨ita, itn, itc⟩, sjn, ⟨ona, onn, onc⟩, ⟨wha, whn, whc⟩, ⟨oda, odn, odc⟩, sds, ⟨nna, nnn, nnc⟩⟩ := s
  obtain ⟨e0, e1, e2, rco, rta, rva, rit, e7, ron, rwh, rod, e11⟩ := hI
  dsimp only at *
  subst e0 e1 e2 e7 e11
  subst hk
  have hn1 : nnn = 1 := hN.nc.1.symm.trans h1
  subst hn1
  clear rco rta rva rit rwh rod ron HI
  have bB : Bs (w.alloc (.cells #[.int .i64 4, .string stb, .string snm, .slice coa con coc, .slice taa tan tac, .slice vaa van vac, .slice ita itn itc, .string sjn, .slice ona onn onc, .slice wha whn whc, .slice oda odn odc, .bool sds, .slice nna 1 nnc] 48)) w.heap.size (⟨4, stb, snm, (coa, con, coc), (taa, tan, tac), (vaa, van, vac), (ita, itn, itc), sjn, (ona, onn, onc), (wha, whn, whc), (oda, odn, odc), sds, (nna, 1, nnc)⟩ : Sv) := Bs.new w (⟨4, stb, snm, (coa, con, coc), (taa, tan, tac), (vaa, van, vac), (ita, itn, itc), sjn, (ona, onn, onc), (wha, whn, whc), (oda, odn, odc), sds, (nna, 1, nnc)⟩ : Sv)
  have hB := bal (Below.refl _ w) (.cells #[.int .i64 4, .string stb, .string snm, .slice coa con coc, .slice taa tan tac, .slice vaa van vac, .slice ita itn itc, .string sjn, .slice ona onn onc, .slice wha whn whc, .slice oda odn odc, .bool sds, .slice nna 1 nnc] 48)
  unfold stV
  dsimp only
  go_enter Tryz.func31, Tryz.ntmps31
  go_upto_region 1 with fail
  generalize w.alloc (.cells #[.int .i64 4, .string stb, .string snm, .slice coa con coc, .slice taa tan tac, .slice vaa van vac, .slice ita itn itc, .string sjn, .slice ona onn onc, .slice wha whn whc, .slice oda odn odc, .bool sds, .slice nna 1 nnc] 48) = W at *
  generalize hq : w.heap.size = q at bB ⊢
  replace hq : Hid _ := hid hq
  have c0 := bB.c0
  have c12 := bB.c12
  dsimp only at c0 c12
  have H : Hid _ := hid (allStmt_any hmCh (hN.keep (by decide) fun k _ hk => hB.block k hk) (fun i hi w1 hb sk stb snm coa con coc taa tan tac vaa van vac ita itn itc sjn ona onn onc wha whn whc oda odn odc sds nna nnn nnc hx => isChange_any w1 stb snm coa con coc taa tan tac vaa van vac ita itn itc sjn ona onn onc wha whn whc oda odn odc sds nna nnn nnc (by have := hx.1.k; dsimp only at this; rw [this]; exact h6 _ (List.getElem_mem hi))))
  go_wp2_with fail
  refine Calls.mono H.out ?_
  rintro e w1 ⟨rfl, hb⟩
  replace bB := bB.later hb
  replace hB := Below.on hB hb
  clear H hb c0 c12
  have c12 := bB.c12
  dsimp only at c12
  have H : Hid _ := hid (allStmt_any hmWh (hN.keep (by decide) fun k _ hk => hB.block k hk) (fun i hi w1 hb sk stb snm coa con coc taa tan tac vaa van vac ita itn itc sjn ona onn onc wha whn whc oda odn odc sds nna nnn nnc hx => wholeS_any (s := (⟨sk, stb, snm, (coa, con, coc), (taa, tan, tac), (vaa, van, vac), (ita, itn, itc), sjn, (ona, onn, onc), (wha, whn, whc), (oda, odn, odc), sds, (nna, nnn, nnc)⟩ : Sv)) hx.1 (hl _ (List.getElem_mem hi))))
  go_wp2_with fail
  refine Calls.mono H.out ?_
  rintro e w2 ⟨rfl, hb⟩
  replace hB := Below.on hB hb
  clear H hb c12 bB
  go_wp2
  go_ret
  exact ⟨rfl, by first | exact hB | (rw [← hq.out]; exact hB)⟩
/-- A statement that is whole. -/
structure WhlOK (m : Sf) : Prop where
  ok : WfOK m
  plain : (m.1.kind = 5 ∨ m.1.kind = 6 ∨ m.1.kind = 7 ∨ m.1.kind = 8) → WhlS m.1
  cols : m.1.kind = 1 → m.1.cols ≠ []
  tags : m.1.kind = 12 → m.1.tags ≠ []
  one : m.1.kind = 3 ∨ m.1.kind = 4 → m.2.length = 1 ∧ ∀ x ∈ m.2, WhlS x
  view : m.1.kind = 3 → ∀ x ∈ m.2, x.kind = 6
  clos : m.1.kind = 4 → ∀ x ∈ m.2, x.kind = 5 ∨ x.kind = 7 ∨ x.kind = 8
theorem whole_any {Q : Nat → Prop} {w : World} {m : Sf} {s : Sv} (hI : IsS Q w m.1 s) (hN : RowIs eStmt Q w (slV s.inn) m.2) (hm : WhlOK m) : Calls Tryz.prog 31 #[stV s] w fun e w' => e = .returned (.bool true) ∧ Below w.heap.size w w' := by
  by_cases hp : m.1.kind = 5 ∨ m.1.kind = 6 ∨ m.1.kind = 7 ∨ m.1.kind = 8
  · exact wholeS_any hI (hm.plain hp)
  have hk := hm.ok.kinds
  have hk' : m.1.kind = 1 ∨ m.1.kind = 2 ∨ m.1.kind = 3 ∨ m.1.kind = 4 ∨ m.1.kind = 9 ∨ m.1.kind = 10 ∨ m.1.kind = 11 ∨ m.1.kind = 12 ∨ m.1.kind = 13 := by omega
  rcases hk' with hk | hk | hk | hk | hk | hk | hk | hk | hk
  · exact whole1_any hI hk (hm.cols hk) hm.ok.cols
  · exact whole2_any hI hk
  · exact whole3_any hI hk hN (hm.one (.inl hk)).1 (hm.view hk) (hm.one (.inl hk)).2
  · exact whole4_any hI hk hN (hm.one (.inr hk)).1 (hm.clos hk) (hm.one (.inr hk)).2
  · exact whole9_any hI hk
  · exact whole10_any hI hk
  · exact whole11_any hI hk
  · exact whole12_any hI hk (hm.tags hk)
  · exact whole13_any hI hk

end Go.Proofs.YtnboooaockgoiaaGreatDoor
