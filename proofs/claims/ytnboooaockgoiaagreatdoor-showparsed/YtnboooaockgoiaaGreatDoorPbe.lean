import Derived.Test.YtnboooaockgoiaaGreatDoorPbd
namespace Go.Proofs.YtnboooaockgoiaaGreatDoor
open Go.RowKit
set_option linter.unusedVariables false
set_option linter.unusedSimpArgs false

theorem liTx1 {g : Nat} {v : Sl} {S : Ws} {w : World} (h : Wt w g v S.1 S.2) (t : ByteArray) {v1 : Sl} {s1 : Ws} {w1 : World} (h1 : Wt w1 g v1 s1.1 s1.2) (hu : WUp g v (w.alloc (.cells #[.string t] 9)) w1) (hk : WKp v v1 (w.alloc (.cells #[.string t] 9)).heap.size) (hz : (liS woS [t] s1).1.length ≤ 700000) :
    Calls Tryz.prog 92 #[.pointer (some ⟨g, 0, none⟩), .slice (some ⟨w.heap.size, 0, none⟩) 1 1, .func (.func 61) #[.pointer (some ⟨g, 0, none⟩)] #[]] w1 (TeS2 g v1 w1 (liS woS [t] s1)) := by
  have hlt := h.lt
  have hne : some w.heap.size ≠ (slV v).ownBlock := fun e => by have := (h.blk _ e.symm).2; omega
  have hbl := hu.block w.heap.size (by simp) (by omega) hne
  have hsz : w.heap.size < w1.heap.size := Nat.lt_of_lt_of_le (by simp) hu.size
  refine wListTxt_any h1 woS_mo hmWo (L := [t]) ⟨_, 1, 1, rfl, rfl, Nat.le_refl _, by omega, fun _ => ⟨w.heap.size, 0, rfl, ⟨hsz, by omega, ?_⟩, fun i hi => ?_⟩⟩ (fun i hi v2 s2 w2 hw2 hb2 hz2 => wWord_any hw2 _ (by have := woS_le [t][i] s2; omega)) hz
  · rcases hk with e | ⟨b, e, hb⟩
    · rw [e]; exact hne
    · have h9 : (w.alloc (.cells #[.string t] 9)).heap.size = w.heap.size + 1 := by simp
      rw [h9] at hb
      rw [e]; intro k; cases k; omega
  · have hi' : i < 1 := hi
    obtain rfl : i = 0 := by omega
    refine ⟨[.string t], rfl, rfl, fun j hj => ?_⟩
    have hj' : j < 1 := hj
    obtain rfl : j = 0 := by omega
    exact (World.cell?_of_block (a := ⟨w.heap.size, _, none⟩) hbl).trans (cell_new w _ _ _ 0)
set_option maxRecDepth 100000 in
set_option maxHeartbeats 4000000 in
theorem wSt5_any {g : Nat} {v : Sl} {s0 : Ws} {w : World} (h : Wt w g v s0.1 s0.2) (he : Ev g w) {m : Sm} {s : Sv} (hI : IsS (fun k => k < g) w m s) (hk : m.kind = 5) (hva : ∀ t ∈ m.values, WfS t) (hz : (stS m s0).1.length ≤ 700000) :
    Calls Tryz.prog 32 #[.pointer (some ⟨g, 0, none⟩), stV s] w (TeS2 g v w (stS m s0)) := by
  have HI : Hid (∀ w', Below g w w' → IsS (fun k => k < g) w' m s) := hid fun w' hb => hI.keep fun k hk _ => hb.block k hk
  obtain ⟨mk, mtb, mnm, mco, mta, mva, mit, mjn, mon, mwh, mod, mds⟩ := m
  obtain ⟨sk, stb, snm, ⟨coa, con, coc⟩, ⟨taa, tan, tac⟩, ⟨vaa, van, vac⟩, ⟨ita, itn, itc⟩, sjn, ⟨ona, onn, onc⟩, ⟨wha, whn, whc⟩, ⟨oda, odn, odc⟩, sds, ⟨nna, nnn, nnc⟩⟩ := s
  obtain ⟨e0, e1, e2, rco, rta, rva, rit, e7, ron, rwh, rod, e11⟩ := hI
  dsimp only at *
  subst e0 e1 e2 e7 e11
  subst hk
  obtain ⟨S1, E1⟩ : ∃ S, S = wosS [⟨#[105, 110, 115, 101, 114, 116]⟩, ⟨#[105, 110, 116, 111]⟩, stb, ⟨#[118, 97, 108, 117, 101, 115]⟩] s0 := ⟨_, rfl⟩
  obtain ⟨S2, E2⟩ : ∃ S, S = brS exS mva S1 := ⟨_, rfl⟩
  have EF : stS ⟨5, stb, snm, mco, mta, mva, mit, sjn, mon, mwh, mod, sds⟩ s0 = S2 := by rw [E2, E1]; rfl
  rw [EF] at hz ⊢
  have z2 : S1.1.length ≤ S2.1.length := by rw [E2]; exact brS_mo exS_mo _ _
  have z1 : s0.1.length ≤ S1.1.length := by rw [E1]; exact wosS_mo _ _
  replace E1 : Hid _ := hid E1
  replace E2 : Hid _ := hid E2
  clear EF
  have K0 : Wk g v (w.alloc (.cells #[.int .i64 5, .string stb, .string snm, .slice coa con coc, .slice taa tan tac, .slice vaa van vac, .slice ita itn itc, .string sjn, .slice ona onn onc, .slice wha whn whc, .slice oda odn odc, .bool sds, .slice nna nnn nnc] 48)) w.heap.size (⟨5, stb, snm, (coa, con, coc), (taa, tan, tac), (vaa, van, vac), (ita, itn, itc), sjn, (ona, onn, onc), (wha, whn, whc), (oda, odn, odc), sds, (nna, nnn, nnc)⟩ : Sv) (w.alloc (.cells #[.int .i64 5, .string stb, .string snm, .slice coa con coc, .slice taa tan tac, .slice vaa van vac, .slice ita itn itc, .string sjn, .slice ona onn onc, .slice wha whn whc, .slice oda odn odc, .bool sds, .slice nna nnn nnc] 48)) v s0 := Wk.begin h (⟨5, stb, snm, (coa, con, coc), (taa, tan, tac), (vaa, van, vac), (ita, itn, itc), sjn, (ona, onn, onc), (wha, whn, whc), (oda, odn, odc), sds, (nna, nnn, nnc)⟩ : Sv)
  have HB : Hid (∀ {w' v' S}, Wk g v (w.alloc (.cells #[.int .i64 5, .string stb, .string snm, .slice coa con coc, .slice taa tan tac, .slice vaa van vac, .slice ita itn itc, .string sjn, .slice ona onn onc, .slice wha whn whc, .slice oda odn odc, .bool sds, .slice nna nnn nnc] 48)) w.heap.size (⟨5, stb, snm, (coa, con, coc), (taa, tan, tac), (vaa, van, vac), (ita, itn, itc), sjn, (ona, onn, onc), (wha, whn, whc), (oda, odn, odc), sds, (nna, nnn, nnc)⟩ : Sv) w' v' S → Below g w w') := hid fun k => k.below h
  have HB2 : Hid (∀ {w' v' S}, Wk g v (w.alloc (.cells #[.int .i64 5, .string stb, .string snm, .slice coa con coc, .slice taa tan tac, .slice vaa van vac, .slice ita itn itc, .string sjn, .slice ona onn onc, .slice wha whn whc, .slice oda odn odc, .bool sds, .slice nna nnn nnc] 48)) w.heap.size (⟨5, stb, snm, (coa, con, coc), (taa, tan, tac), (vaa, van, vac), (ita, itn, itc), sjn, (ona, onn, onc), (wha, whn, whc), (oda, odn, odc), sds, (nna, nnn, nnc)⟩ : Sv) w' v' S → ∀ w1, WUp g v' w' w1 → Below g w w1) := hid fun k w1 hu => (k.below h).trans (hu.below (Nat.le_of_lt k.wt.lt) fun b e => (k.wt.blk b e).1)
  have HF : Hid (∀ {w' v' S}, Wk g v (w.alloc (.cells #[.int .i64 5, .string stb, .string snm, .slice coa con coc, .slice taa tan tac, .slice vaa van vac, .slice ita itn itc, .string sjn, .slice ona onn onc, .slice wha whn whc, .slice oda odn odc, .bool sds, .slice nna nnn nnc] 48)) w.heap.size (⟨5, stb, snm, (coa, con, coc), (taa, tan, tac), (vaa, van, vac), (ita, itn, itc), sjn, (ona, onn, onc), (wha, whn, whc), (oda, odn, odc), sds, (nna, nnn, nnc)⟩ : Sv) w' v' S → TeS2 g v w S (.returned (.tuple #[])) w') := hid fun k => k.fin
  clear h
  unfold stV
  dsimp only
  go_enter Tryz.func32, Tryz.ntmps32
  go_upto_region 1 with fail
  generalize w.alloc (.cells #[.int .i64 5, .string stb, .string snm, .slice coa con coc, .slice taa tan tac, .slice vaa van vac, .slice ita itn itc, .string sjn, .slice ona onn onc, .slice wha whn whc, .slice oda odn odc, .bool sds, .slice nna nnn nnc] 48) = W at *
  generalize w.heap.size = q at *
  have c0 := K0.bx.c0
  have c1 := K0.bx.c1
  dsimp only at c0 c1
  have H := words_lit K0.wt [⟨#[105, 110, 115, 101, 114, 116]⟩, ⟨#[105, 110, 116, 111]⟩, stb, ⟨#[118, 97, 108, 117, 101, 115]⟩] (n := 4) rfl (by decide) (by rw [← E1.out]; omega)
  rw [← E1.out] at H
  replace H : Hid _ := hid H
  go_wp2_with fail
  refine Calls.mono H.out ?_
  rintro e w1 T
  obtain ⟨v1, rfl, K1⟩ := K0.step T
  clear T H K0 c0 c1
  have c5 := K1.bx.c5
  dsimp only at c5
  have H := wBrExpr_any (M := 28) K1.wt exS_mo (fun v1 s1 w1 hw hu hk hz => liEx he rva hva hw (HB2.out K1 w1 hu) hz) (by rw [← E2.out]; omega)
  rw [← E2.out] at H
  replace H : Hid _ := hid H
  go_wp2_with fail
  refine Calls.mono H.out ?_
  rintro e w2 T
  obtain ⟨v2, rfl, K2⟩ := K1.step T
  clear T H K1 c5
  go_wp2
  exact bodyPost_end (results_none rfl _ _ _) rfl (HF.out K2)
set_option maxRecDepth 100000 in
set_option maxHeartbeats 4000000 in
theorem wSt6_any {g : Nat} {v : Sl} {s0 : Ws} {w : World} (h : Wt w g v s0.1 s0.2) (he : Ev g w) {m : Sm} {s : Sv} (hI : IsS (fun k => k < g) w m s) (hk : m.kind = 6) (hit : ∀ x ∈ m.items, x.1 = 0 ∨ x.1 = 1 ∨ x.1 = 2 ∨ x.1 = 3 ∨ x.1 = 4) (hj : m.join = ⟨#[]⟩ ∨ ∃ a b, m.on = [a, b]) (hon : ∀ t ∈ m.on, WfS t) (hwh : ∀ t ∈ m.wh, WfS t) (hod : ∀ t ∈ m.order, WfS t) (hz : (quS m s0).1.length ≤ 700000) :
    Calls Tryz.prog 32 #[.pointer (some ⟨g, 0, none⟩), stV s] w (TeS2 g v w (quS m s0)) := by
  have HI : Hid (∀ w', Below g w w' → IsS (fun k => k < g) w' m s) := hid fun w' hb => hI.keep fun k hk _ => hb.block k hk
  obtain ⟨mk, mtb, mnm, mco, mta, mva, mit, mjn, mon, mwh, mod, mds⟩ := m
  obtain ⟨sk, stb, snm, ⟨coa, con, coc⟩, ⟨taa, tan, tac⟩, ⟨vaa, van, vac⟩, ⟨ita, itn, itc⟩, sjn, ⟨ona, onn, onc⟩, ⟨wha, whn, whc⟩, ⟨oda, odn, odc⟩, sds, ⟨nna, nnn, nnc⟩⟩ := s
  obtain ⟨e0, e1, e2, rco, rta, rva, rit, e7, ron, rwh, rod, e11⟩ := hI
  dsimp only at *
  subst e0 e1 e2 e7 e11
  subst hk
  have K0 : Wk g v (w.alloc (.cells #[.int .i64 6, .string stb, .string snm, .slice coa con coc, .slice taa tan tac, .slice vaa van vac, .slice ita itn itc, .string sjn, .slice ona onn onc, .slice wha whn whc, .slice oda odn odc, .bool sds, .slice nna nnn nnc] 48)) w.heap.size (⟨6, stb, snm, (coa, con, coc), (taa, tan, tac), (vaa, van, vac), (ita, itn, itc), sjn, (ona, onn, onc), (wha, whn, whc), (oda, odn, odc), sds, (nna, nnn, nnc)⟩ : Sv) (w.alloc (.cells #[.int .i64 6, .string stb, .string snm, .slice coa con coc, .slice taa tan tac, .slice vaa van vac, .slice ita itn itc, .string sjn, .slice ona onn onc, .slice wha whn whc, .slice oda odn odc, .bool sds, .slice nna nnn nnc] 48)) v s0 := Wk.begin h (⟨6, stb, snm, (coa, con, coc), (taa, tan, tac), (vaa, van, vac), (ita, itn, itc), sjn, (ona, onn, onc), (wha, whn, whc), (oda, odn, odc), sds, (nna, nnn, nnc)⟩ : Sv)
  have HB : Hid (∀ {w' v' S}, Wk g v (w.alloc (.cells #[.int .i64 6, .string stb, .string snm, .slice coa con coc, .slice taa tan tac, .slice vaa van vac, .slice ita itn itc, .string sjn, .slice ona onn onc, .slice wha whn whc, .slice oda odn odc, .bool sds, .slice nna nnn nnc] 48)) w.heap.size (⟨6, stb, snm, (coa, con, coc), (taa, tan, tac), (vaa, van, vac), (ita, itn, itc), sjn, (ona, onn, onc), (wha, whn, whc), (oda, odn, odc), sds, (nna, nnn, nnc)⟩ : Sv) w' v' S → Below g w w') := hid fun k => k.below h
  have HB2 : Hid (∀ {w' v' S}, Wk g v (w.alloc (.cells #[.int .i64 6, .string stb, .string snm, .slice coa con coc, .slice taa tan tac, .slice vaa van vac, .slice ita itn itc, .string sjn, .slice ona onn onc, .slice wha whn whc, .slice oda odn odc, .bool sds, .slice nna nnn nnc] 48)) w.heap.size (⟨6, stb, snm, (coa, con, coc), (taa, tan, tac), (vaa, van, vac), (ita, itn, itc), sjn, (ona, onn, onc), (wha, whn, whc), (oda, odn, odc), sds, (nna, nnn, nnc)⟩ : Sv) w' v' S → ∀ w1, WUp g v' w' w1 → Below g w w1) := hid fun k w1 hu => (k.below h).trans (hu.below (Nat.le_of_lt k.wt.lt) fun b e => (k.wt.blk b e).1)
  have HF : Hid (∀ {w' v' S}, Wk g v (w.alloc (.cells #[.int .i64 6, .string stb, .string snm, .slice coa con coc, .slice taa tan tac, .slice vaa van vac, .slice ita itn itc, .string sjn, .slice ona onn onc, .slice wha whn whc, .slice oda odn odc, .bool sds, .slice nna nnn nnc] 48)) w.heap.size (⟨6, stb, snm, (coa, con, coc), (taa, tan, tac), (vaa, van, vac), (ita, itn, itc), sjn, (ona, onn, onc), (wha, whn, whc), (oda, odn, odc), sds, (nna, nnn, nnc)⟩ : Sv) w' v' S → TeS2 g v w S (.returned (.tuple #[])) w') := hid fun k => k.fin
  clear h
  unfold stV
  dsimp only
  go_enter Tryz.func32, Tryz.ntmps32
  go_upto_region 1 with fail
  generalize w.alloc (.cells #[.int .i64 6, .string stb, .string snm, .slice coa con coc, .slice taa tan tac, .slice vaa van vac, .slice ita itn itc, .string sjn, .slice ona onn onc, .slice wha whn whc, .slice oda odn odc, .bool sds, .slice nna nnn nnc] 48) = W at *
  generalize w.heap.size = q at *
  have c0 := K0.bx.c0
  have c1 := K0.bx.c1
  have c2 := K0.bx.c2
  have c3 := K0.bx.c3
  have c4 := K0.bx.c4
  have c5 := K0.bx.c5
  have c6 := K0.bx.c6
  have c7 := K0.bx.c7
  have c8 := K0.bx.c8
  have c9 := K0.bx.c9
  have c10 := K0.bx.c10
  have c11 := K0.bx.c11
  have c12 := K0.bx.c12
  dsimp only at c0 c1 c2 c3 c4 c5 c6 c7 c8 c9 c10 c11 c12
  have H := wQuery_any K0.wt (he.on (HB.out K0)) (HI.out _ (HB.out K0)) hit hj hon hwh hod hz
  unfold stV at H
  dsimp only at H
  replace H : Hid _ := hid H
  go_wp2_with fail
  refine Calls.mono H.out ?_
  rintro e w1 T
  obtain ⟨v1, rfl, K1⟩ := K0.step T
  clear T H K0 c0 c1 c2 c3 c4 c5 c6 c7 c8 c9 c10 c11 c12
  go_wp2
  exact bodyPost_end (results_none rfl _ _ _) rfl (HF.out K1)
set_option maxRecDepth 100000 in
set_option maxHeartbeats 4000000 in
theorem wSt7_any {g : Nat} {v : Sl} {s0 : Ws} {w : World} (h : Wt w g v s0.1 s0.2) (he : Ev g w) {m : Sm} {s : Sv} (hI : IsS (fun k => k < g) w m s) (hk : m.kind = 7) (hva : ∀ t ∈ m.values, WfS t) (hwh : ∀ t ∈ m.wh, WfS t) (hz : (stS m s0).1.length ≤ 700000) :
    Calls Tryz.prog 32 #[.pointer (some ⟨g, 0, none⟩), stV s] w (TeS2 g v w (stS m s0)) := by
  have HI : Hid (∀ w', Below g w w' → IsS (fun k => k < g) w' m s) := hid fun w' hb => hI.keep fun k hk _ => hb.block k hk
  obtain ⟨mk, mtb, mnm, mco, mta, mva, mit, mjn, mon, mwh, mod, mds⟩ := m
  obtain ⟨sk, stb, snm, ⟨coa, con, coc⟩, ⟨taa, tan, tac⟩, ⟨vaa, van, vac⟩, ⟨ita, itn, itc⟩, sjn, ⟨ona, onn, onc⟩, ⟨wha, whn, whc⟩, ⟨oda, odn, odc⟩, sds, ⟨nna, nnn, nnc⟩⟩ := s
  obtain ⟨e0, e1, e2, rco, rta, rva, rit, e7, ron, rwh, rod, e11⟩ := hI
  dsimp only at *
  subst e0 e1 e2 e7 e11
  subst hk
  obtain ⟨S1, E1⟩ : ∃ S, S = wosS [⟨#[117, 112, 100, 97, 116, 101]⟩, stb, ⟨#[115, 101, 116]⟩, snm, ⟨#[61]⟩] s0 := ⟨_, rfl⟩
  obtain ⟨S2, E2⟩ : ∃ S, S = liS exS mva S1 := ⟨_, rfl⟩
  obtain ⟨S3, E3⟩ : ∃ S, S = behS exS mwh [⟨#[119, 104, 101, 114, 101]⟩] S2 := ⟨_, rfl⟩
  have EF : stS ⟨7, stb, snm, mco, mta, mva, mit, sjn, mon, mwh, mod, sds⟩ s0 = S3 := by rw [E3, E2, E1]; rfl
  rw [EF] at hz ⊢
  have z3 : S2.1.length ≤ S3.1.length := by rw [E3]; exact behS_mo exS_mo _ _ _
  have z2 : S1.1.length ≤ S2.1.length := by rw [E2]; exact liS_mo exS_mo _ _
  have z1 : s0.1.length ≤ S1.1.length := by rw [E1]; exact wosS_mo _ _
  replace E1 : Hid _ := hid E1
  replace E2 : Hid _ := hid E2
  replace E3 : Hid _ := hid E3
  clear EF
  have K0 : Wk g v (w.alloc (.cells #[.int .i64 7, .string stb, .string snm, .slice coa con coc, .slice taa tan tac, .slice vaa van vac, .slice ita itn itc, .string sjn, .slice ona onn onc, .slice wha whn whc, .slice oda odn odc, .bool sds, .slice nna nnn nnc] 48)) w.heap.size (⟨7, stb, snm, (coa, con, coc), (taa, tan, tac), (vaa, van, vac), (ita, itn, itc), sjn, (ona, onn, onc), (wha, whn, whc), (oda, odn, odc), sds, (nna, nnn, nnc)⟩ : Sv) (w.alloc (.cells #[.int .i64 7, .string stb, .string snm, .slice coa con coc, .slice taa tan tac, .slice vaa van vac, .slice ita itn itc, .string sjn, .slice ona onn onc, .slice wha whn whc, .slice oda odn odc, .bool sds, .slice nna nnn nnc] 48)) v s0 := Wk.begin h (⟨7, stb, snm, (coa, con, coc), (taa, tan, tac), (vaa, van, vac), (ita, itn, itc), sjn, (ona, onn, onc), (wha, whn, whc), (oda, odn, odc), sds, (nna, nnn, nnc)⟩ : Sv)
  have HB : Hid (∀ {w' v' S}, Wk g v (w.alloc (.cells #[.int .i64 7, .string stb, .string snm, .slice coa con coc, .slice taa tan tac, .slice vaa van vac, .slice ita itn itc, .string sjn, .slice ona onn onc, .slice wha whn whc, .slice oda odn odc, .bool sds, .slice nna nnn nnc] 48)) w.heap.size (⟨7, stb, snm, (coa, con, coc), (taa, tan, tac), (vaa, van, vac), (ita, itn, itc), sjn, (ona, onn, onc), (wha, whn, whc), (oda, odn, odc), sds, (nna, nnn, nnc)⟩ : Sv) w' v' S → Below g w w') := hid fun k => k.below h
  have HB2 : Hid (∀ {w' v' S}, Wk g v (w.alloc (.cells #[.int .i64 7, .string stb, .string snm, .slice coa con coc, .slice taa tan tac, .slice vaa van vac, .slice ita itn itc, .string sjn, .slice ona onn onc, .slice wha whn whc, .slice oda odn odc, .bool sds, .slice nna nnn nnc] 48)) w.heap.size (⟨7, stb, snm, (coa, con, coc), (taa, tan, tac), (vaa, van, vac), (ita, itn, itc), sjn, (ona, onn, onc), (wha, whn, whc), (oda, odn, odc), sds, (nna, nnn, nnc)⟩ : Sv) w' v' S → ∀ w1, WUp g v' w' w1 → Below g w w1) := hid fun k w1 hu => (k.below h).trans (hu.below (Nat.le_of_lt k.wt.lt) fun b e => (k.wt.blk b e).1)
  have HF : Hid (∀ {w' v' S}, Wk g v (w.alloc (.cells #[.int .i64 7, .string stb, .string snm, .slice coa con coc, .slice taa tan tac, .slice vaa van vac, .slice ita itn itc, .string sjn, .slice ona onn onc, .slice wha whn whc, .slice oda odn odc, .bool sds, .slice nna nnn nnc] 48)) w.heap.size (⟨7, stb, snm, (coa, con, coc), (taa, tan, tac), (vaa, van, vac), (ita, itn, itc), sjn, (ona, onn, onc), (wha, whn, whc), (oda, odn, odc), sds, (nna, nnn, nnc)⟩ : Sv) w' v' S → TeS2 g v w S (.returned (.tuple #[])) w') := hid fun k => k.fin
  clear h
  unfold stV
  dsimp only
  go_enter Tryz.func32, Tryz.ntmps32
  go_upto_region 1 with fail
  generalize w.alloc (.cells #[.int .i64 7, .string stb, .string snm, .slice coa con coc, .slice taa tan tac, .slice vaa van vac, .slice ita itn itc, .string sjn, .slice ona onn onc, .slice wha whn whc, .slice oda odn odc, .bool sds, .slice nna nnn nnc] 48) = W at *
  generalize w.heap.size = q at *
  have c0 := K0.bx.c0
  have c1 := K0.bx.c1
  have c2 := K0.bx.c2
  dsimp only at c0 c1 c2
  have H := words_lit K0.wt [⟨#[117, 112, 100, 97, 116, 101]⟩, stb, ⟨#[115, 101, 116]⟩, snm, ⟨#[61]⟩] (n := 5) rfl (by decide) (by rw [← E1.out]; omega)
  rw [← E1.out] at H
  replace H : Hid _ := hid H
  go_wp2_with fail
  refine Calls.mono H.out ?_
  rintro e w1 T
  obtain ⟨v1, rfl, K1⟩ := K0.step T
  clear T H K0 c0 c1 c2
  have c5 := K1.bx.c5
  dsimp only at c5
  have H := liEx he rva hva K1.wt (HB.out K1) (by rw [← E2.out]; omega)
  rw [← E2.out] at H
  replace H : Hid _ := hid H
  go_wp2_with fail
  refine Calls.mono H.out ?_
  rintro e w2 T
  obtain ⟨v2, rfl, K2⟩ := K1.step T
  clear T H K1 c5
  have c9 := K2.bx.c9
  dsimp only at c9
  have H := wBeh_any K2.wt exS_mo rwh.nc.1 [⟨#[119, 104, 101, 114, 101]⟩] rfl (by decide) (fun v1 s1 w1 hw hu hk hz => liEx he rwh hwh hw (HB2.out K2 w1 hu) hz) (by rw [← E3.out]; omega)
  rw [← E3.out] at H
  replace H : Hid _ := hid H
  go_wp2_with fail
  refine Calls.mono H.out ?_
  rintro e w3 T
  obtain ⟨v3, rfl, K3⟩ := K2.step T
  clear T H K2 c9
  go_wp2
  exact bodyPost_end (results_none rfl _ _ _) rfl (HF.out K3)
set_option maxRecDepth 100000 in
set_option maxHeartbeats 4000000 in
theorem wSt8_any {g : Nat} {v : Sl} {s0 : Ws} {w : World} (h : Wt w g v s0.1 s0.2) (he : Ev g w) {m : Sm} {s : Sv} (hI : IsS (fun k => k < g) w m s) (hk : m.kind = 8) (hwh : ∀ t ∈ m.wh, WfS t) (hz : (stS m s0).1.length ≤ 700000) :
    Calls Tryz.prog 32 #[.pointer (some ⟨g, 0, none⟩), stV s] w (TeS2 g v w (stS m s0)) := by
  have HI : Hid (∀ w', Below g w w' → IsS (fun k => k < g) w' m s) := hid fun w' hb => hI.keep fun k hk _ => hb.block k hk
  obtain ⟨mk, mtb, mnm, mco, mta, mva, mit, mjn, mon, mwh, mod, mds⟩ := m
  obtain ⟨sk, stb, snm, ⟨coa, con, coc⟩, ⟨taa, tan, tac⟩, ⟨vaa, van, vac⟩, ⟨ita, itn, itc⟩, sjn, ⟨ona, onn, onc⟩, ⟨wha, whn, whc⟩, ⟨oda, odn, odc⟩, sds, ⟨nna, nnn, nnc⟩⟩ := s
  obtain ⟨e0, e1, e2, rco, rta, rva, rit, e7, ron, rwh, rod, e11⟩ := hI
  dsimp only at *
  subst e0 e1 e2 e7 e11
  subst hk
  obtain ⟨S1, E1⟩ : ∃ S, S = wosS [⟨#[100, 101, 108, 101, 116, 101]⟩, ⟨#[102, 114, 111, 109]⟩, stb] s0 := ⟨_, rfl⟩
  obtain ⟨S2, E2⟩ : ∃ S, S = behS exS mwh [⟨#[119, 104, 101, 114, 101]⟩] S1 := ⟨_, rfl⟩
  have EF : stS ⟨8, stb, snm, mco, mta, mva, mit, sjn, mon, mwh, mod, sds⟩ s0 = S2 := by rw [E2, E1]; rfl
  rw [EF] at hz ⊢
  have z2 : S1.1.length ≤ S2.1.length := by rw [E2]; exact behS_mo exS_mo _ _ _
  have z1 : s0.1.length ≤ S1.1.length := by rw [E1]; exact wosS_mo _ _
  replace E1 : Hid _ := hid E1
  replace E2 : Hid _ := hid E2
  clear EF
  have K0 : Wk g v (w.alloc (.cells #[.int .i64 8, .string stb, .string snm, .slice coa con coc, .slice taa tan tac, .slice vaa van vac, .slice ita itn itc, .string sjn, .slice ona onn onc, .slice wha whn whc, .slice oda odn odc, .bool sds, .slice nna nnn nnc] 48)) w.heap.size (⟨8, stb, snm, (coa, con, coc), (taa, tan, tac), (vaa, van, vac), (ita, itn, itc), sjn, (ona, onn, onc), (wha, whn, whc), (oda, odn, odc), sds, (nna, nnn, nnc)⟩ : Sv) (w.alloc (.cells #[.int .i64 8, .string stb, .string snm, .slice coa con coc, .slice taa tan tac, .slice vaa van vac, .slice ita itn itc, .string sjn, .slice ona onn onc, .slice wha whn whc, .slice oda odn odc, .bool sds, .slice nna nnn nnc] 48)) v s0 := Wk.begin h (⟨8, stb, snm, (coa, con, coc), (taa, tan, tac), (vaa, van, vac), (ita, itn, itc), sjn, (ona, onn, onc), (wha, whn, whc), (oda, odn, odc), sds, (nna, nnn, nnc)⟩ : Sv)
  have HB : Hid (∀ {w' v' S}, Wk g v (w.alloc (.cells #[.int .i64 8, .string stb, .string snm, .slice coa con coc, .slice taa tan tac, .slice vaa van vac, .slice ita itn itc, .string sjn, .slice ona onn onc, .slice wha whn whc, .slice oda odn odc, .bool sds, .slice nna nnn nnc] 48)) w.heap.size (⟨8, stb, snm, (coa, con, coc), (taa, tan, tac), (vaa, van, vac), (ita, itn, itc), sjn, (ona, onn, onc), (wha, whn, whc), (oda, odn, odc), sds, (nna, nnn, nnc)⟩ : Sv) w' v' S → Below g w w') := hid fun k => k.below h
  have HB2 : Hid (∀ {w' v' S}, Wk g v (w.alloc (.cells #[.int .i64 8, .string stb, .string snm, .slice coa con coc, .slice taa tan tac, .slice vaa van vac, .slice ita itn itc, .string sjn, .slice ona onn onc, .slice wha whn whc, .slice oda odn odc, .bool sds, .slice nna nnn nnc] 48)) w.heap.size (⟨8, stb, snm, (coa, con, coc), (taa, tan, tac), (vaa, van, vac), (ita, itn, itc), sjn, (ona, onn, onc), (wha, whn, whc), (oda, odn, odc), sds, (nna, nnn, nnc)⟩ : Sv) w' v' S → ∀ w1, WUp g v' w' w1 → Below g w w1) := hid fun k w1 hu => (k.below h).trans (hu.below (Nat.le_of_lt k.wt.lt) fun b e => (k.wt.blk b e).1)
  have HF : Hid (∀ {w' v' S}, Wk g v (w.alloc (.cells #[.int .i64 8, .string stb, .string snm, .slice coa con coc, .slice taa tan tac, .slice vaa van vac, .slice ita itn itc, .string sjn, .slice ona onn onc, .slice wha whn whc, .slice oda odn odc, .bool sds, .slice nna nnn nnc] 48)) w.heap.size (⟨8, stb, snm, (coa, con, coc), (taa, tan, tac), (vaa, van, vac), (ita, itn, itc), sjn, (ona, onn, onc), (wha, whn, whc), (oda, odn, odc), sds, (nna, nnn, nnc)⟩ : Sv) w' v' S → TeS2 g v w S (.returned (.tuple #[])) w') := hid fun k => k.fin
  clear h
  unfold stV
  dsimp only
  go_enter Tryz.func32, Tryz.ntmps32
  go_upto_region 1 with fail
  generalize w.alloc (.cells #[.int .i64 8, .string stb, .string snm, .slice coa con coc, .slice taa tan tac, .slice vaa van vac, .slice ita itn itc, .string sjn, .slice ona onn onc, .slice wha whn whc, .slice oda odn odc, .bool sds, .slice nna nnn nnc] 48) = W at *
  generalize w.heap.size = q at *
  have c0 := K0.bx.c0
  have c1 := K0.bx.c1
  dsimp only at c0 c1
  have H := words_lit K0.wt [⟨#[100, 101, 108, 101, 116, 101]⟩, ⟨#[102, 114, 111, 109]⟩, stb] (n := 3) rfl (by decide) (by rw [← E1.out]; omega)
  rw [← E1.out] at H
  replace H : Hid _ := hid H
  go_wp2_with fail
  refine Calls.mono H.out ?_
  rintro e w1 T
  obtain ⟨v1, rfl, K1⟩ := K0.step T
  clear T H K0 c0 c1
  have c9 := K1.bx.c9
  dsimp only at c9
  have H := wBeh_any K1.wt exS_mo rwh.nc.1 [⟨#[119, 104, 101, 114, 101]⟩] rfl (by decide) (fun v1 s1 w1 hw hu hk hz => liEx he rwh hwh hw (HB2.out K1 w1 hu) hz) (by rw [← E2.out]; omega)
  rw [← E2.out] at H
  replace H : Hid _ := hid H
  go_wp2_with fail
  refine Calls.mono H.out ?_
  rintro e w2 T
  obtain ⟨v2, rfl, K2⟩ := K1.step T
  clear T H K1 c9
  go_wp2
  exact bodyPost_end (results_none rfl _ _ _) rfl (HF.out K2)
/-- A statement with none within it, as the writer writes it. -/
structure WsOK (m : Sm) : Prop where
  kind : m.kind = 5 ∨ m.kind = 6 ∨ m.kind = 7 ∨ m.kind = 8
  items : ∀ x ∈ m.items, x.1 = 0 ∨ x.1 = 1 ∨ x.1 = 2 ∨ x.1 = 3 ∨ x.1 = 4
  join : m.join = ⟨#[]⟩ ∨ ∃ a b, m.on = [a, b]
  values : ∀ t ∈ m.values, WfS t
  on : ∀ t ∈ m.on, WfS t
  wh : ∀ t ∈ m.wh, WfS t
  order : ∀ t ∈ m.order, WfS t
theorem wSt_any {g : Nat} {v : Sl} {s0 : Ws} {w : World} (h : Wt w g v s0.1 s0.2) (he : Ev g w) {m : Sm} {s : Sv} (hI : IsS (fun k => k < g) w m s) (hm : WsOK m) (hz : (stS m s0).1.length ≤ 700000) :
    Calls Tryz.prog 32 #[.pointer (some ⟨g, 0, none⟩), stV s] w (TeS2 g v w (stS m s0)) := by
  rcases hm.kind with hk | hk | hk | hk
  · exact wSt5_any h he hI hk hm.values hz
  · have e : stS m s0 = quS m s0 := by rw [stS, if_neg (by omega), if_pos hk]
    rw [e] at hz ⊢
    exact wSt6_any h he hI hk hm.items hm.join hm.on hm.wh hm.order hz
  · exact wSt7_any h he hI hk hm.values hm.wh hz
  · exact wSt8_any h he hI hk hm.wh hz

end Go.Proofs.YtnboooaockgoiaaGreatDoor
