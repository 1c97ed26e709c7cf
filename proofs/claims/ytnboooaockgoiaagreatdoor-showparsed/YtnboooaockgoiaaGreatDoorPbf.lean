import Derived.Test.YtnboooaockgoiaaGreatDoorPbe
import Derived.Test.YtnboooaockgoiaaGreatDoorPas
namespace Go.Proofs.YtnboooaockgoiaaGreatDoor
open Go.RowKit
set_option linter.unusedVariables false
set_option linter.unusedSimpArgs false

theorem liSt {g : Nat} {w : World} (he : Ev g w) {L : List Sm} {ao : Option Addr} {n c : Nat} (hr : RowIs eStmt (fun k => k < g) w (.slice ao n c) L) (hw : ∀ x ∈ L, WsOK x) {v1 : Sl} {s1 : Ws} {w1 : World} (h1 : Wt w1 g v1 s1.1 s1.2) (hb : Below g w w1) (hz : (liS stS L s1).1.length ≤ 700000) :
    Calls Tryz.prog 93 #[.pointer (some ⟨g, 0, none⟩), .slice ao n c, .func (.func 32) #[.pointer (some ⟨g, 0, none⟩)] #[]] w1 (TeS2 g v1 w1 (liS stS L s1)) :=
  wListStmt_any h1 stS_mo hmSt (hr.keep (by decide) fun k hk _ => hb.block k hk) (fun i hi v2 s2 w2 hw2 hb2 hz2 sk stb snm coa con coc taa tan tac vaa van vac ita itn itc sjn ona onn onc wha whn whc oda odn odc sds nna nnn nnc hx => wSt_any (s := (⟨sk, stb, snm, (coa, con, coc), (taa, tan, tac), (vaa, van, vac), (ita, itn, itc), sjn, (ona, onn, onc), (wha, whn, whc), (oda, odn, odc), sds, (nna, nnn, nnc)⟩ : Sv)) hw2 (he.on (hb.trans hb2)) hx.1 (hw _ (List.getElem_mem hi)) hz2) hz
set_option maxRecDepth 100000 in
set_option maxHeartbeats 4000000 in
theorem wDoor_any {g : Nat} {v : Sl} {s0 : Ws} {w : World} (h : Wt w g v s0.1 s0.2) (he : Ev g w) {m : Sm} {s : Sv} (hI : IsS (fun k => k < g) w m s) (kd : ByteArray) {l : List Sm} (hN : RowIs eStmt (fun k => k < g) w (slV s.inn) l) (ht : ∀ z ∈ m.tags, TaOK z) (hl : ∀ x ∈ l, WsOK x) (hz : (doS kd m l s0).1.length ≤ 700000) :
    Calls Tryz.prog 62 #[.pointer (some ⟨g, 0, none⟩), .string kd, stV s] w (TeS2 g v w (doS kd m l s0)) := by
  obtain ⟨mk, mtb, mnm, mco, mta, mva, mit, mjn, mon, mwh, mod, mds⟩ := m
  obtain ⟨sk, stb, snm, ⟨coa, con, coc⟩, ⟨taa, tan, tac⟩, ⟨vaa, van, vac⟩, ⟨ita, itn, itc⟩, sjn, ⟨ona, onn, onc⟩, ⟨wha, whn, whc⟩, ⟨oda, odn, odc⟩, sds, ⟨nna, nnn, nnc⟩⟩ := s
  obtain ⟨e0, e1, e2, rco, rta, rva, rit, e7, ron, rwh, rod, e11⟩ := hI
  dsimp only at *
  subst e0 e1 e2 e7 e11
  obtain ⟨S1, E1⟩ : ∃ S, S = wosS [⟨#[99, 114, 101, 97, 116, 101]⟩, kd, snm, ⟨#[115, 116, 114, 105, 112]⟩] s0 := ⟨_, rfl⟩
  obtain ⟨S2, E2⟩ : ∃ S, S = liS taS mta S1 := ⟨_, rfl⟩
  obtain ⟨S3, E3⟩ : ∃ S, S = woS ⟨#[97, 115]⟩ S2 := ⟨_, rfl⟩
  obtain ⟨S4, E4⟩ : ∃ S, S = liS stS l S3 := ⟨_, rfl⟩
  have EF : doS kd ⟨sk, stb, snm, mco, mta, mva, mit, sjn, mon, mwh, mod, sds⟩ l s0 = S4 := by rw [E4, E3, E2, E1]; rfl
  rw [EF] at hz ⊢
  have z4 : S3.1.length ≤ S4.1.length := by rw [E4]; exact liS_mo stS_mo _ _
  have z3 : S2.1.length ≤ S3.1.length := by rw [E3]; exact woS_mo _ _
  have z2 : S1.1.length ≤ S2.1.length := by rw [E2]; exact liS_mo taS_mo _ _
  have z1 : s0.1.length ≤ S1.1.length := by rw [E1]; exact wosS_mo _ _
  replace E1 : Hid _ := hid E1
  replace E2 : Hid _ := hid E2
  replace E3 : Hid _ := hid E3
  replace E4 : Hid _ := hid E4
  clear EF
  have K0 : Wk g v (w.alloc (.cells #[.int .i64 sk, .string stb, .string snm, .slice coa con coc, .slice taa tan tac, .slice vaa van vac, .slice ita itn itc, .string sjn, .slice ona onn onc, .slice wha whn whc, .slice oda odn odc, .bool sds, .slice nna nnn nnc] 48)) w.heap.size (⟨sk, stb, snm, (coa, con, coc), (taa, tan, tac), (vaa, van, vac), (ita, itn, itc), sjn, (ona, onn, onc), (wha, whn, whc), (oda, odn, odc), sds, (nna, nnn, nnc)⟩ : Sv) (w.alloc (.cells #[.int .i64 sk, .string stb, .string snm, .slice coa con coc, .slice taa tan tac, .slice vaa van vac, .slice ita itn itc, .string sjn, .slice ona onn onc, .slice wha whn whc, .slice oda odn odc, .bool sds, .slice nna nnn nnc] 48)) v s0 := Wk.begin h (⟨sk, stb, snm, (coa, con, coc), (taa, tan, tac), (vaa, van, vac), (ita, itn, itc), sjn, (ona, onn, onc), (wha, whn, whc), (oda, odn, odc), sds, (nna, nnn, nnc)⟩ : Sv)
  have HB : Hid (∀ {w' v' S}, Wk g v (w.alloc (.cells #[.int .i64 sk, .string stb, .string snm, .slice coa con coc, .slice taa tan tac, .slice vaa van vac, .slice ita itn itc, .string sjn, .slice ona onn onc, .slice wha whn whc, .slice oda odn odc, .bool sds, .slice nna nnn nnc] 48)) w.heap.size (⟨sk, stb, snm, (coa, con, coc), (taa, tan, tac), (vaa, van, vac), (ita, itn, itc), sjn, (ona, onn, onc), (wha, whn, whc), (oda, odn, odc), sds, (nna, nnn, nnc)⟩ : Sv) w' v' S → Below g w w') := hid fun k => k.below h
  have HB2 : Hid (∀ {w' v' S}, Wk g v (w.alloc (.cells #[.int .i64 sk, .string stb, .string snm, .slice coa con coc, .slice taa tan tac, .slice vaa van vac, .slice ita itn itc, .string sjn, .slice ona onn onc, .slice wha whn whc, .slice oda odn odc, .bool sds, .slice nna nnn nnc] 48)) w.heap.size (⟨sk, stb, snm, (coa, con, coc), (taa, tan, tac), (vaa, van, vac), (ita, itn, itc), sjn, (ona, onn, onc), (wha, whn, whc), (oda, odn, odc), sds, (nna, nnn, nnc)⟩ : Sv) w' v' S → ∀ w1, WUp g v' w' w1 → Below g w w1) := hid fun k w1 hu => (k.below h).trans (hu.below (Nat.le_of_lt k.wt.lt) fun b e => (k.wt.blk b e).1)
  have HF : Hid (∀ {w' v' S}, Wk g v (w.alloc (.cells #[.int .i64 sk, .string stb, .string snm, .slice coa con coc, .slice taa tan tac, .slice vaa van vac, .slice ita itn itc, .string sjn, .slice ona onn onc, .slice wha whn whc, .slice oda odn odc, .bool sds, .slice nna nnn nnc] 48)) w.heap.size (⟨sk, stb, snm, (coa, con, coc), (taa, tan, tac), (vaa, van, vac), (ita, itn, itc), sjn, (ona, onn, onc), (wha, whn, whc), (oda, odn, odc), sds, (nna, nnn, nnc)⟩ : Sv) w' v' S → TeS2 g v w S (.returned (.tuple #[])) w') := hid fun k => k.fin
  clear h
  unfold stV
  dsimp only
  go_enter Tryz.func62, Tryz.ntmps62
  go_upto_region 1 with fail
  generalize w.alloc (.cells #[.int .i64 sk, .string stb, .string snm, .slice coa con coc, .slice taa tan tac, .slice vaa van vac, .slice ita itn itc, .string sjn, .slice ona onn onc, .slice wha whn whc, .slice oda odn odc, .bool sds, .slice nna nnn nnc] 48) = W at *
  generalize w.heap.size = q at *
  have c2 := K0.bx.c2
  dsimp only at c2
  have H := words_lit K0.wt [⟨#[99, 114, 101, 97, 116, 101]⟩, kd, snm, ⟨#[115, 116, 114, 105, 112]⟩] (n := 4) rfl (by decide) (by rw [← E1.out]; omega)
  rw [← E1.out] at H
  replace H : Hid _ := hid H
  go_wp2_with fail
  refine Calls.mono H.out ?_
  rintro e w1 T
  obtain ⟨v1, rfl, K1⟩ := K0.step T
  clear T H K0 c2
  have c4 := K1.bx.c4
  dsimp only at c4
  have H := liTa he rta ht K1.wt (HB.out K1) (by rw [← E2.out]; omega)
  rw [← E2.out] at H
  replace H : Hid _ := hid H
  go_wp2_with fail
  refine Calls.mono H.out ?_
  rintro e w2 T
  obtain ⟨v2, rfl, K2⟩ := K1.step T
  clear T H K1 c4
  have H := wWord_any K2.wt ⟨#[97, 115]⟩ (by show _ + 2 ≤ _; omega)
  rw [← E3.out] at H
  replace H : Hid _ := hid H
  go_wp2_with fail
  refine Calls.mono H.out ?_
  rintro e w3 T
  obtain ⟨v3, rfl, K3⟩ := K2.step T
  clear T H K2 
  have c12 := K3.bx.c12
  dsimp only at c12
  have H := liSt he hN hl K3.wt (HB.out K3) (by rw [← E4.out]; omega)
  rw [← E4.out] at H
  replace H : Hid _ := hid H
  go_wp2_with fail
  refine Calls.mono H.out ?_
  rintro e w4 T
  obtain ⟨v4, rfl, K4⟩ := K3.step T
  clear T H K3 c12
  go_wp2
  exact bodyPost_end (results_none rfl _ _ _) rfl (HF.out K4)
set_option maxRecDepth 100000 in
set_option maxHeartbeats 4000000 in
theorem wSt1_any {g : Nat} {v : Sl} {s0 : Ws} {w : World} (h : Wt w g v s0.1 s0.2) (he : Ev g w) {m : Sm} {s : Sv} (hI : IsS (fun k => k < g) w m s) (hk : m.kind = 1) (hco : ∀ c ∈ m.cols, CoOK c) (hz : (sfS (m, []) s0).1.length ≤ 700000) :
    Calls Tryz.prog 32 #[.pointer (some ⟨g, 0, none⟩), stV s] w (TeS2 g v w (sfS (m, []) s0)) := by
  have HI : Hid (∀ w', Below g w w' → IsS (fun k => k < g) w' m s) := hid fun w' hb => hI.keep fun k hk _ => hb.block k hk
  obtain ⟨mk, mtb, mnm, mco, mta, mva, mit, mjn, mon, mwh, mod, mds⟩ := m
  obtain ⟨sk, stb, snm, ⟨coa, con, coc⟩, ⟨taa, tan, tac⟩, ⟨vaa, van, vac⟩, ⟨ita, itn, itc⟩, sjn, ⟨ona, onn, onc⟩, ⟨wha, whn, whc⟩, ⟨oda, odn, odc⟩, sds, ⟨nna, nnn, nnc⟩⟩ := s
  obtain ⟨e0, e1, e2, rco, rta, rva, rit, e7, ron, rwh, rod, e11⟩ := hI
  dsimp only at *
  subst e0 e1 e2 e7 e11
  subst hk
  obtain ⟨S1, E1⟩ : ∃ S, S = wosS [⟨#[99, 114, 101, 97, 116, 101]⟩, ⟨#[116, 97, 98, 108, 101]⟩, snm] s0 := ⟨_, rfl⟩
  obtain ⟨S2, E2⟩ : ∃ S, S = brS coS mco S1 := ⟨_, rfl⟩
  have EF : sfS (⟨1, stb, snm, mco, mta, mva, mit, sjn, mon, mwh, mod, sds⟩, []) s0 = S2 := by rw [E2, E1]; rfl
  rw [EF] at hz ⊢
  have z2 : S1.1.length ≤ S2.1.length := by rw [E2]; exact brS_mo coS_mo _ _
  have z1 : s0.1.length ≤ S1.1.length := by rw [E1]; exact wosS_mo _ _
  replace E1 : Hid _ := hid E1
  replace E2 : Hid _ := hid E2
  clear EF
  have K0 : Wk g v (w.alloc (.cells #[.int .i64 1, .string stb, .string snm, .slice coa con coc, .slice taa tan tac, .slice vaa van vac, .slice ita itn itc, .string sjn, .slice ona onn onc, .slice wha whn whc, .slice oda odn odc, .bool sds, .slice nna nnn nnc] 48)) w.heap.size (⟨1, stb, snm, (coa, con, coc), (taa, tan, tac), (vaa, van, vac), (ita, itn, itc), sjn, (ona, onn, onc), (wha, whn, whc), (oda, odn, odc), sds, (nna, nnn, nnc)⟩ : Sv) (w.alloc (.cells #[.int .i64 1, .string stb, .string snm, .slice coa con coc, .slice taa tan tac, .slice vaa van vac, .slice ita itn itc, .string sjn, .slice ona onn onc, .slice wha whn whc, .slice oda odn odc, .bool sds, .slice nna nnn nnc] 48)) v s0 := Wk.begin h (⟨1, stb, snm, (coa, con, coc), (taa, tan, tac), (vaa, van, vac), (ita, itn, itc), sjn, (ona, onn, onc), (wha, whn, whc), (oda, odn, odc), sds, (nna, nnn, nnc)⟩ : Sv)
  have HB : Hid (∀ {w' v' S}, Wk g v (w.alloc (.cells #[.int .i64 1, .string stb, .string snm, .slice coa con coc, .slice taa tan tac, .slice vaa van vac, .slice ita itn itc, .string sjn, .slice ona onn onc, .slice wha whn whc, .slice oda odn odc, .bool sds, .slice nna nnn nnc] 48)) w.heap.size (⟨1, stb, snm, (coa, con, coc), (taa, tan, tac), (vaa, van, vac), (ita, itn, itc), sjn, (ona, onn, onc), (wha, whn, whc), (oda, odn, odc), sds, (nna, nnn, nnc)⟩ : Sv) w' v' S → Below g w w') := hid fun k => k.below h
  have HB2 : Hid (∀ {w' v' S}, Wk g v (w.alloc (.cells #[.int .i64 1, .string stb, .string snm, .slice coa con coc, .slice taa tan tac, .slice vaa van vac, .slice ita itn itc, .string sjn, .slice ona onn onc, .slice wha whn whc, .slice oda odn odc, .bool sds, .slice nna nnn nnc] 48)) w.heap.size (⟨1, stb, snm, (coa, con, coc), (taa, tan, tac), (vaa, van, vac), (ita, itn, itc), sjn, (ona, onn, onc), (wha, whn, whc), (oda, odn, odc), sds, (nna, nnn, nnc)⟩ : Sv) w' v' S → ∀ w1, WUp g v' w' w1 → Below g w w1) := hid fun k w1 hu => (k.below h).trans (hu.below (Nat.le_of_lt k.wt.lt) fun b e => (k.wt.blk b e).1)
  have HF : Hid (∀ {w' v' S}, Wk g v (w.alloc (.cells #[.int .i64 1, .string stb, .string snm, .slice coa con coc, .slice taa tan tac, .slice vaa van vac, .slice ita itn itc, .string sjn, .slice ona onn onc, .slice wha whn whc, .slice oda odn odc, .bool sds, .slice nna nnn nnc] 48)) w.heap.size (⟨1, stb, snm, (coa, con, coc), (taa, tan, tac), (vaa, van, vac), (ita, itn, itc), sjn, (ona, onn, onc), (wha, whn, whc), (oda, odn, odc), sds, (nna, nnn, nnc)⟩ : Sv) w' v' S → TeS2 g v w S (.returned (.tuple #[])) w') := hid fun k => k.fin
  clear h
  unfold stV
  dsimp only
  go_enter Tryz.func32, Tryz.ntmps32
  go_upto_region 1 with fail
  generalize w.alloc (.cells #[.int .i64 1, .string stb, .string snm, .slice coa con coc, .slice taa tan tac, .slice vaa van vac, .slice ita itn itc, .string sjn, .slice ona onn onc, .slice wha whn whc, .slice oda odn odc, .bool sds, .slice nna nnn nnc] 48) = W at *
  generalize w.heap.size = q at *
  have c0 := K0.bx.c0
  have c2 := K0.bx.c2
  dsimp only at c0 c2
  have H := words_lit K0.wt [⟨#[99, 114, 101, 97, 116, 101]⟩, ⟨#[116, 97, 98, 108, 101]⟩, snm] (n := 3) rfl (by decide) (by rw [← E1.out]; omega)
  rw [← E1.out] at H
  replace H : Hid _ := hid H
  go_wp2_with fail
  refine Calls.mono H.out ?_
  rintro e w1 T
  obtain ⟨v1, rfl, K1⟩ := K0.step T
  clear T H K0 c0 c2
  have c3 := K1.bx.c3
  dsimp only at c3
  have H := wBrCol_any (M := 59) K1.wt coS_mo (fun v1 s1 w1 hw hu hk hz => liCo rco hco hw (HB2.out K1 w1 hu) hz) (by rw [← E2.out]; omega)
  rw [← E2.out] at H
  replace H : Hid _ := hid H
  go_wp2_with fail
  refine Calls.mono H.out ?_
  rintro e w2 T
  obtain ⟨v2, rfl, K2⟩ := K1.step T
  clear T H K1 c3
  go_wp2
  exact bodyPost_end (results_none rfl _ _ _) rfl (HF.out K2)
set_option maxRecDepth 100000 in
set_option maxHeartbeats 4000000 in
theorem wSt2_any {g : Nat} {v : Sl} {s0 : Ws} {w : World} (h : Wt w g v s0.1 s0.2) (he : Ev g w) {m : Sm} {s : Sv} (hI : IsS (fun k => k < g) w m s) (hk : m.kind = 2)  (hz : (sfS (m, []) s0).1.length ≤ 700000) :
    Calls Tryz.prog 32 #[.pointer (some ⟨g, 0, none⟩), stV s] w (TeS2 g v w (sfS (m, []) s0)) := by
  have HI : Hid (∀ w', Below g w w' → IsS (fun k => k < g) w' m s) := hid fun w' hb => hI.keep fun k hk _ => hb.block k hk
  obtain ⟨mk, mtb, mnm, mco, mta, mva, mit, mjn, mon, mwh, mod, mds⟩ := m
  obtain ⟨sk, stb, snm, ⟨coa, con, coc⟩, ⟨taa, tan, tac⟩, ⟨vaa, van, vac⟩, ⟨ita, itn, itc⟩, sjn, ⟨ona, onn, onc⟩, ⟨wha, whn, whc⟩, ⟨oda, odn, odc⟩, sds, ⟨nna, nnn, nnc⟩⟩ := s
  obtain ⟨e0, e1, e2, rco, rta, rva, rit, e7, ron, rwh, rod, e11⟩ := hI
  dsimp only at *
  subst e0 e1 e2 e7 e11
  subst hk
  obtain ⟨S1, E1⟩ : ∃ S, S = wosS [⟨#[99, 114, 101, 97, 116, 101]⟩, ⟨#[105, 110, 100, 101, 120]⟩, ⟨#[111, 110]⟩, stb] s0 := ⟨_, rfl⟩
  obtain ⟨S2, E2⟩ : ∃ S, S = brS woS [snm] S1 := ⟨_, rfl⟩
  have EF : sfS (⟨2, stb, snm, mco, mta, mva, mit, sjn, mon, mwh, mod, sds⟩, []) s0 = S2 := by rw [E2, E1]; rfl
  rw [EF] at hz ⊢
  have z2 : S1.1.length ≤ S2.1.length := by rw [E2]; exact brS_mo woS_mo _ _
  have z1 : s0.1.length ≤ S1.1.length := by rw [E1]; exact wosS_mo _ _
  replace E1 : Hid _ := hid E1
  replace E2 : Hid _ := hid E2
  clear EF
  have K0 : Wk g v (w.alloc (.cells #[.int .i64 2, .string stb, .string snm, .slice coa con coc, .slice taa tan tac, .slice vaa van vac, .slice ita itn itc, .string sjn, .slice ona onn onc, .slice wha whn whc, .slice oda odn odc, .bool sds, .slice nna nnn nnc] 48)) w.heap.size (⟨2, stb, snm, (coa, con, coc), (taa, tan, tac), (vaa, van, vac), (ita, itn, itc), sjn, (ona, onn, onc), (wha, whn, whc), (oda, odn, odc), sds, (nna, nnn, nnc)⟩ : Sv) (w.alloc (.cells #[.int .i64 2, .string stb, .string snm, .slice coa con coc, .slice taa tan tac, .slice vaa van vac, .slice ita itn itc, .string sjn, .slice ona onn onc, .slice wha whn whc, .slice oda odn odc, .bool sds, .slice nna nnn nnc] 48)) v s0 := Wk.begin h (⟨2, stb, snm, (coa, con, coc), (taa, tan, tac), (vaa, van, vac), (ita, itn, itc), sjn, (ona, onn, onc), (wha, whn, whc), (oda, odn, odc), sds, (nna, nnn, nnc)⟩ : Sv)
  have HB : Hid (∀ {w' v' S}, Wk g v (w.alloc (.cells #[.int .i64 2, .string stb, .string snm, .slice coa con coc, .slice taa tan tac, .slice vaa van vac, .slice ita itn itc, .string sjn, .slice ona onn onc, .slice wha whn whc, .slice oda odn odc, .bool sds, .slice nna nnn nnc] 48)) w.heap.size (⟨2, stb, snm, (coa, con, coc), (taa, tan, tac), (vaa, van, vac), (ita, itn, itc), sjn, (ona, onn, onc), (wha, whn, whc), (oda, odn, odc), sds, (nna, nnn, nnc)⟩ : Sv) w' v' S → Below g w w') := hid fun k => k.below h
  have HB2 : Hid (∀ {w' v' S}, Wk g v (w.alloc (.cells #[.int .i64 2, .string stb, .string snm, .slice coa con coc, .slice taa tan tac, .slice vaa van vac, .slice ita itn itc, .string sjn, .slice ona onn onc, .slice wha whn whc, .slice oda odn odc, .bool sds, .slice nna nnn nnc] 48)) w.heap.size (⟨2, stb, snm, (coa, con, coc), (taa, tan, tac), (vaa, van, vac), (ita, itn, itc), sjn, (ona, onn, onc), (wha, whn, whc), (oda, odn, odc), sds, (nna, nnn, nnc)⟩ : Sv) w' v' S → ∀ w1, WUp g v' w' w1 → Below g w w1) := hid fun k w1 hu => (k.below h).trans (hu.below (Nat.le_of_lt k.wt.lt) fun b e => (k.wt.blk b e).1)
  have HF : Hid (∀ {w' v' S}, Wk g v (w.alloc (.cells #[.int .i64 2, .string stb, .string snm, .slice coa con coc, .slice taa tan tac, .slice vaa van vac, .slice ita itn itc, .string sjn, .slice ona onn onc, .slice wha whn whc, .slice oda odn odc, .bool sds, .slice nna nnn nnc] 48)) w.heap.size (⟨2, stb, snm, (coa, con, coc), (taa, tan, tac), (vaa, van, vac), (ita, itn, itc), sjn, (ona, onn, onc), (wha, whn, whc), (oda, odn, odc), sds, (nna, nnn, nnc)⟩ : Sv) w' v' S → TeS2 g v w S (.returned (.tuple #[])) w') := hid fun k => k.fin
  clear h
  unfold stV
  dsimp only
  go_enter Tryz.func32, Tryz.ntmps32
  go_upto_region 1 with fail
  generalize w.alloc (.cells #[.int .i64 2, .string stb, .string snm, .slice coa con coc, .slice taa tan tac, .slice vaa van vac, .slice ita itn itc, .string sjn, .slice ona onn onc, .slice wha whn whc, .slice oda odn odc, .bool sds, .slice nna nnn nnc] 48) = W at *
  generalize w.heap.size = q at *
  have c0 := K0.bx.c0
  have c1 := K0.bx.c1
  dsimp only at c0 c1
  have H := words_lit K0.wt [⟨#[99, 114, 101, 97, 116, 101]⟩, ⟨#[105, 110, 100, 101, 120]⟩, ⟨#[111, 110]⟩, stb] (n := 4) rfl (by decide) (by rw [← E1.out]; omega)
  rw [← E1.out] at H
  replace H : Hid _ := hid H
  go_wp2_with fail
  refine Calls.mono H.out ?_
  rintro e w1 T
  obtain ⟨v1, rfl, K1⟩ := K0.step T
  clear T H K0 c0 c1
  have c2 := K1.bx.c2
  dsimp only at c2
  have H := (wBrTxt_any (M := 61) (f := woS) (L := [snm]) (K1.wt.later (bal (Below.refl _ w1) (.cells #[.string snm] 9))) woS_mo (fun v1 s1 w1 hw hu hk hz => liTx1 K1.wt snm hw hu hk hz) (by rw [← E2.out]; omega)).mono fun _ _ h => TeW.up h
  rw [← E2.out] at H
  replace H : Hid _ := hid H
  go_wp2_with fail
  refine Calls.mono H.out ?_
  rintro e w2 T
  obtain ⟨v2, rfl, K2⟩ := K1.step T
  clear T H K1 c2
  go_wp2
  exact bodyPost_end (results_none rfl _ _ _) rfl (HF.out K2)
set_option maxRecDepth 100000 in
set_option maxHeartbeats 4000000 in
theorem wSt3_any {g : Nat} {v : Sl} {s0 : Ws} {w : World} (h : Wt w g v s0.1 s0.2) (he : Ev g w) {m : Sm} {s : Sv} (hI : IsS (fun k => k < g) w m s) (hk : m.kind = 3) {l : List Sm} (hN : RowIs eStmt (fun k => k < g) w (slV s.inn) l) (ht : ∀ z ∈ m.tags, TaOK z) (hl : ∀ x ∈ l, WsOK x) (hz : (doS ⟨#[118, 105, 101, 119]⟩ m l s0).1.length ≤ 700000) :
    Calls Tryz.prog 32 #[.pointer (some ⟨g, 0, none⟩), stV s] w (TeS2 g v w (doS ⟨#[118, 105, 101, 119]⟩ m l s0)) := by
  have HI : Hid (∀ w', Below g w w' → IsS (fun k => k < g) w' m s) := hid fun w' hb => hI.keep fun k hk _ => hb.block k hk
  obtain ⟨mk, mtb, mnm, mco, mta, mva, mit, mjn, mon, mwh, mod, mds⟩ := m
  obtain ⟨sk, stb, snm, ⟨coa, con, coc⟩, ⟨taa, tan, tac⟩, ⟨vaa, van, vac⟩, ⟨ita, itn, itc⟩, sjn, ⟨ona, onn, onc⟩, ⟨wha, whn, whc⟩, ⟨oda, odn, odc⟩, sds, ⟨nna, nnn, nnc⟩⟩ := s
  obtain ⟨e0, e1, e2, rco, rta, rva, rit, e7, ron, rwh, rod, e11⟩ := hI
  dsimp only at *
  subst e0 e1 e2 e7 e11
  subst hk
  have K0 : Wk g v (w.alloc (.cells #[.int .i64 3, .string stb, .string snm, .slice coa con coc, .slice taa tan tac, .slice vaa van vac, .slice ita itn itc, .string sjn, .slice ona onn onc, .slice wha whn whc, .slice oda odn odc, .bool sds, .slice nna nnn nnc] 48)) w.heap.size (⟨3, stb, snm, (coa, con, coc), (taa, tan, tac), (vaa, van, vac), (ita, itn, itc), sjn, (ona, onn, onc), (wha, whn, whc), (oda, odn, odc), sds, (nna, nnn, nnc)⟩ : Sv) (w.alloc (.cells #[.int .i64 3, .string stb, .string snm, .slice coa con coc, .slice taa tan tac, .slice vaa van vac, .slice ita itn itc, .string sjn, .slice ona onn onc, .slice wha whn whc, .slice oda odn odc, .bool sds, .slice nna nnn nnc] 48)) v s0 := Wk.begin h (⟨3, stb, snm, (coa, con, coc), (taa, tan, tac), (vaa, van, vac), (ita, itn, itc), sjn, (ona, onn, onc), (wha, whn, whc), (oda, odn, odc), sds, (nna, nnn, nnc)⟩ : Sv)
  have HB : Hid (∀ {w' v' S}, Wk g v (w.alloc (.cells #[.int .i64 3, .string stb, .string snm, .slice coa con coc, .slice taa tan tac, .slice vaa van vac, .slice ita itn itc, .string sjn, .slice ona onn onc, .slice wha whn whc, .slice oda odn odc, .bool sds, .slice nna nnn nnc] 48)) w.heap.size (⟨3, stb, snm, (coa, con, coc), (taa, tan, tac), (vaa, van, vac), (ita, itn, itc), sjn, (ona, onn, onc), (wha, whn, whc), (oda, odn, odc), sds, (nna, nnn, nnc)⟩ : Sv) w' v' S → Below g w w') := hid fun k => k.below h
  have HB2 : Hid (∀ {w' v' S}, Wk g v (w.alloc (.cells #[.int .i64 3, .string stb, .string snm, .slice coa con coc, .slice taa tan tac, .slice vaa van vac, .slice ita itn itc, .string sjn, .slice ona onn onc, .slice wha whn whc, .slice oda odn odc, .bool sds, .slice nna nnn nnc] 48)) w.heap.size (⟨3, stb, snm, (coa, con, coc), (taa, tan, tac), (vaa, van, vac), (ita, itn, itc), sjn, (ona, onn, onc), (wha, whn, whc), (oda, odn, odc), sds, (nna, nnn, nnc)⟩ : Sv) w' v' S → ∀ w1, WUp g v' w' w1 → Below g w w1) := hid fun k w1 hu => (k.below h).trans (hu.below (Nat.le_of_lt k.wt.lt) fun b e => (k.wt.blk b e).1)
  have HF : Hid (∀ {w' v' S}, Wk g v (w.alloc (.cells #[.int .i64 3, .string stb, .string snm, .slice coa con coc, .slice taa tan tac, .slice vaa van vac, .slice ita itn itc, .string sjn, .slice ona onn onc, .slice wha whn whc, .slice oda odn odc, .bool sds, .slice nna nnn nnc] 48)) w.heap.size (⟨3, stb, snm, (coa, con, coc), (taa, tan, tac), (vaa, van, vac), (ita, itn, itc), sjn, (ona, onn, onc), (wha, whn, whc), (oda, odn, odc), sds, (nna, nnn, nnc)⟩ : Sv) w' v' S → TeS2 g v w S (.returned (.tuple #[])) w') := hid fun k => k.fin
  clear h
  unfold stV
  dsimp only
  go_enter Tryz.func32, Tryz.ntmps32
  go_upto_region 1 with fail
  generalize w.alloc (.cells #[.int .i64 3, .string stb, .string snm, .slice coa con coc, .slice taa tan tac, .slice vaa van vac, .slice ita itn itc, .string sjn, .slice ona onn onc, .slice wha whn whc, .slice oda odn odc, .bool sds, .slice nna nnn nnc] 48) = W at *
  generalize w.heap.size = q at *
  have c0 := K0.bx.c0
  have c1 := K0.bx.c1
  have c2 := K0.bx.c2
  have c3 := K0.bx.c3
  have c4 := K0.bx.c4
  have c5 := K0.bx.c5
  have c6 := K0.bx.c6
  have c7 := K0.bx.c7
  have c8 := K0.bx.c8
  have c9 := K0.bx.c9
  have c10 := K0.bx.c10
  have c11 := K0.bx.c11
  have c12 := K0.bx.c12
  dsimp only at c0 c1 c2 c3 c4 c5 c6 c7 c8 c9 c10 c11 c12
  have H := wDoor_any K0.wt (he.on (HB.out K0)) (HI.out _ (HB.out K0)) ⟨#[118, 105, 101, 119]⟩ (hN.keep (by decide) fun k hk _ => (HB.out K0).block k hk) ht hl hz
  unfold stV at H
  dsimp only at H
  replace H : Hid _ := hid H
  go_wp2_with fail
  refine Calls.mono H.out ?_
  rintro e w1 T
  obtain ⟨v1, rfl, K1⟩ := K0.step T
  clear T H K0 c0 c1 c2 c3 c4 c5 c6 c7 c8 c9 c10 c11 c12
  go_wp2
  exact bodyPost_end (results_none rfl _ _ _) rfl (HF.out K1)
set_option maxRecDepth 100000 in
set_option maxHeartbeats 4000000 in
theorem wSt4_any {g : Nat} {v : Sl} {s0 : Ws} {w : World} (h : Wt w g v s0.1 s0.2) (he : Ev g w) {m : Sm} {s : Sv} (hI : IsS (fun k => k < g) w m s) (hk : m.kind = 4) {l : List Sm} (hN : RowIs eStmt (fun k => k < g) w (slV s.inn) l) (ht : ∀ z ∈ m.tags, TaOK z) (hl : ∀ x ∈ l, WsOK x) (hz : (doS ⟨#[99, 108, 111, 115, 117, 114, 101]⟩ m l s0).1.length ≤ 700000) :
    Calls Tryz.prog 32 #[.pointer (some ⟨g, 0, none⟩), stV s] w (TeS2 g v w (doS ⟨#[99, 108, 111, 115, 117, 114, 101]⟩ m l s0)) := by
  have HI : Hid (∀ w', Below g w w' → IsS (fun k => k < g) w' m s) := hid fun w' hb => hI.keep fun k hk _ => hb.block k hk
  obtain ⟨mk, mtb, mnm, mco, mta, mva, mit, mjn, mon, mwh, mod, mds⟩ := m
  obtain ⟨sk, stb, snm, ⟨coa, con, coc⟩, ⟨taa, tan, tac⟩, ⟨vaa, van, vac⟩, ⟨ita, itn, itc⟩, sjn, ⟨ona, onn, onc⟩, ⟨wha, whn, whc⟩, ⟨oda, odn, odc⟩, sds, ⟨nna, nnn, nnc⟩⟩ := s
  obtain ⟨e0, e1, e2, rco, rta, rva, rit, e7, ron, rwh, rod, e11⟩ := hI
  dsimp only at *
  subst e0 e1 e2 e7 e11
  subst hk
  have K0 : Wk g v (w.alloc (.cells #[.int .i64 4, .string stb, .string snm, .slice coa con coc, .slice taa tan tac, .slice vaa van vac, .slice ita itn itc, .string sjn, .slice ona onn onc, .slice wha whn whc, .slice oda odn odc, .bool sds, .slice nna nnn nnc] 48)) w.heap.size (⟨4, stb, snm, (coa, con, coc), (taa, tan, tac), (vaa, van, vac), (ita, itn, itc), sjn, (ona, onn, onc), (wha, whn, whc), (oda, odn, odc), sds, (nna, nnn, nnc)⟩ : Sv) (w.alloc (.cells #[.int .i64 4, .string stb, .string snm, .slice coa con coc, .slice taa tan tac, .slice vaa van vac, .slice ita itn itc, .string sjn, .slice ona onn onc, .slice wha whn whc, .slice oda odn odc, .bool sds, .slice nna nnn nnc] 48)) v s0 := Wk.begin h (⟨4, stb, snm, (coa, con, coc), (taa, tan, tac), (vaa, van, vac), (ita, itn, itc), sjn, (ona, onn, onc), (wha, whn, whc), (oda, odn, odc), sds, (nna, nnn, nnc)⟩ : Sv)
  have HB : Hid (∀ {w' v' S}, Wk g v (w.alloc (.cells #[.int .i64 4, .string stb, .string snm, .slice coa con coc, .slice taa tan tac, .slice vaa van vac, .slice ita itn itc, .string sjn, .slice ona onn onc, .slice wha whn whc, .slice oda odn odc, .bool sds, .slice nna nnn nnc] 48)) w.heap.size (⟨4, stb, snm, (coa, con, coc), (taa, tan, tac), (vaa, van, vac), (ita, itn, itc), sjn, (ona, onn, onc), (wha, whn, whc), (oda, odn, odc), sds, (nna, nnn, nnc)⟩ : Sv) w' v' S → Below g w w') := hid fun k => k.below h
  have HB2 : Hid (∀ {w' v' S}, Wk g v (w.alloc (.cells #[.int .i64 4, .string stb, .string snm, .slice coa con coc, .slice taa tan tac, .slice vaa van vac, .slice ita itn itc, .string sjn, .slice ona onn onc, .slice wha whn whc, .slice oda odn odc, .bool sds, .slice nna nnn nnc] 48)) w.heap.size (⟨4, stb, snm, (coa, con, coc), (taa, tan, tac), (vaa, van, vac), (ita, itn, itc), sjn, (ona, onn, onc), (wha, whn, whc), (oda, odn, odc), sds, (nna, nnn, nnc)⟩ : Sv) w' v' S → ∀ w1, WUp g v' w' w1 → Below g w w1) := hid fun k w1 hu => (k.below h).trans (hu.below (Nat.le_of_lt k.wt.lt) fun b e => (k.wt.blk b e).1)
  have HF : Hid (∀ {w' v' S}, Wk g v (w.alloc (.cells #[.int .i64 4, .string stb, .string snm, .slice coa con coc, .slice taa tan tac, .slice vaa van vac, .slice ita itn itc, .string sjn, .slice ona onn onc, .slice wha whn whc, .slice oda odn odc, .bool sds, .slice nna nnn nnc] 48)) w.heap.size (⟨4, stb, snm, (coa, con, coc), (taa, tan, tac), (vaa, van, vac), (ita, itn, itc), sjn, (ona, onn, onc), (wha, whn, whc), (oda, odn, odc), sds, (nna, nnn, nnc)⟩ : Sv) w' v' S → TeS2 g v w S (.returned (.tuple #[])) w') := hid fun k => k.fin
  clear h
  unfold stV
  dsimp only
  go_enter Tryz.func32, Tryz.ntmps32
  go_upto_region 1 with fail
  generalize w.alloc (.cells #[.int .i64 4, .string stb, .string snm, .slice coa con coc, .slice taa tan tac, .slice vaa van vac, .slice ita itn itc, .string sjn, .slice ona onn onc, .slice wha whn whc, .slice oda odn odc, .bool sds, .slice nna nnn nnc] 48) = W at *
  generalize w.heap.size = q at *
  have c0 := K0.bx.c0
  have c1 := K0.bx.c1
  have c2 := K0.bx.c2
  have c3 := K0.bx.c3
  have c4 := K0.bx.c4
  have c5 := K0.bx.c5
  have c6 := K0.bx.c6
  have c7 := K0.bx.c7
  have c8 := K0.bx.c8
  have c9 := K0.bx.c9
  have c10 := K0.bx.c10
  have c11 := K0.bx.c11
  have c12 := K0.bx.c12
  dsimp only at c0 c1 c2 c3 c4 c5 c6 c7 c8 c9 c10 c11 c12
  have H := wDoor_any K0.wt (he.on (HB.out K0)) (HI.out _ (HB.out K0)) ⟨#[99, 108, 111, 115, 117, 114, 101]⟩ (hN.keep (by decide) fun k hk _ => (HB.out K0).block k hk) ht hl hz
  unfold stV at H
  dsimp only at H
  replace H : Hid _ := hid H
  go_wp2_with fail
  refine Calls.mono H.out ?_
  rintro e w1 T
  obtain ⟨v1, rfl, K1⟩ := K0.step T
  clear T H K0 c0 c1 c2 c3 c4 c5 c6 c7 c8 c9 c10 c11 c12
  go_wp2
  exact bodyPost_end (results_none rfl _ _ _) rfl (HF.out K1)
set_option maxRecDepth 100000 in
set_option maxHeartbeats 4000000 in
theorem wSt9_any {g : Nat} {v : Sl} {s0 : Ws} {w : World} (h : Wt w g v s0.1 s0.2) (he : Ev g w) {m : Sm} {s : Sv} (hI : IsS (fun k => k < g) w m s) (hk : m.kind = 9)  (hz : (sfS (m, []) s0).1.length ≤ 700000) :
    Calls Tryz.prog 32 #[.pointer (some ⟨g, 0, none⟩), stV s] w (TeS2 g v w (sfS (m, []) s0)) := by
  have HI : Hid (∀ w', Below g w w' → IsS (fun k => k < g) w' m s) := hid fun w' hb => hI.keep fun k hk _ => hb.block k hk
  obtain ⟨mk, mtb, mnm, mco, mta, mva, mit, mjn, mon, mwh, mod, mds⟩ := m
  obtain ⟨sk, stb, snm, ⟨coa, con, coc⟩, ⟨taa, tan, tac⟩, ⟨vaa, van, vac⟩, ⟨ita, itn, itc⟩, sjn, ⟨ona, onn, onc⟩, ⟨wha, whn, whc⟩, ⟨oda, odn, odc⟩, sds, ⟨nna, nnn, nnc⟩⟩ := s
  obtain ⟨e0, e1, e2, rco, rta, rva, rit, e7, ron, rwh, rod, e11⟩ := hI
  dsimp only at *
  subst e0 e1 e2 e7 e11
  subst hk
  obtain ⟨S1, E1⟩ : ∃ S, S = woS ⟨#[98, 101, 103, 105, 110]⟩ s0 := ⟨_, rfl⟩
  have EF : sfS (⟨9, stb, snm, mco, mta, mva, mit, sjn, mon, mwh, mod, sds⟩, []) s0 = S1 := by rw [E1]; rfl
  rw [EF] at hz ⊢
  have z1 : s0.1.length ≤ S1.1.length := by rw [E1]; exact woS_mo _ _
  replace E1 : Hid _ := hid E1
  clear EF
  have K0 : Wk g v (w.alloc (.cells #[.int .i64 9, .string stb, .string snm, .slice coa con coc, .slice taa tan tac, .slice vaa van vac, .slice ita itn itc, .string sjn, .slice ona onn onc, .slice wha whn whc, .slice oda odn odc, .bool sds, .slice nna nnn nnc] 48)) w.heap.size (⟨9, stb, snm, (coa, con, coc), (taa, tan, tac), (vaa, van, vac), (ita, itn, itc), sjn, (ona, onn, onc), (wha, whn, whc), (oda, odn, odc), sds, (nna, nnn, nnc)⟩ : Sv) (w.alloc (.cells #[.int .i64 9, .string stb, .string snm, .slice coa con coc, .slice taa tan tac, .slice vaa van vac, .slice ita itn itc, .string sjn, .slice ona onn onc, .slice wha whn whc, .slice oda odn odc, .bool sds, .slice nna nnn nnc] 48)) v s0 := Wk.begin h (⟨9, stb, snm, (coa, con, coc), (taa, tan, tac), (vaa, van, vac), (ita, itn, itc), sjn, (ona, onn, onc), (wha, whn, whc), (oda, odn, odc), sds, (nna, nnn, nnc)⟩ : Sv)
  have HB : Hid (∀ {w' v' S}, Wk g v (w.alloc (.cells #[.int .i64 9, .string stb, .string snm, .slice coa con coc, .slice taa tan tac, .slice vaa van vac, .slice ita itn itc, .string sjn, .slice ona onn onc, .slice wha whn whc, .slice oda odn odc, .bool sds, .slice nna nnn nnc] 48)) w.heap.size (⟨9, stb, snm, (coa, con, coc), (taa, tan, tac), (vaa, van, vac), (ita, itn, itc), sjn, (ona, onn, onc), (wha, whn, whc), (oda, odn, odc), sds, (nna, nnn, nnc)⟩ : Sv) w' v' S → Below g w w') := hid fun k => k.below h
  have HB2 : Hid (∀ {w' v' S}, Wk g v (w.alloc (.cells #[.int .i64 9, .string stb, .string snm, .slice coa con coc, .slice taa tan tac, .slice vaa van vac, .slice ita itn itc, .string sjn, .slice ona onn onc, .slice wha whn whc, .slice oda odn odc, .bool sds, .slice nna nnn nnc] 48)) w.heap.size (⟨9, stb, snm, (coa, con, coc), (taa, tan, tac), (vaa, van, vac), (ita, itn, itc), sjn, (ona, onn, onc), (wha, whn, whc), (oda, odn, odc), sds, (nna, nnn, nnc)⟩ : Sv) w' v' S → ∀ w1, WUp g v' w' w1 → Below g w w1) := hid fun k w1 hu => (k.below h).trans (hu.below (Nat.le_of_lt k.wt.lt) fun b e => (k.wt.blk b e).1)
  have HF : Hid (∀ {w' v' S}, Wk g v (w.alloc (.cells #[.int .i64 9, .string stb, .string snm, .slice coa con coc, .slice taa tan tac, .slice vaa van vac, .slice ita itn itc, .string sjn, .slice ona onn onc, .slice wha whn whc, .slice oda odn odc, .bool sds, .slice nna nnn nnc] 48)) w.heap.size (⟨9, stb, snm, (coa, con, coc), (taa, tan, tac), (vaa, van, vac), (ita, itn, itc), sjn, (ona, onn, onc), (wha, whn, whc), (oda, odn, odc), sds, (nna, nnn, nnc)⟩ : Sv) w' v' S → TeS2 g v w S (.returned (.tuple #[])) w') := hid fun k => k.fin
  clear h
  unfold stV
  dsimp only
  go_enter Tryz.func32, Tryz.ntmps32
  go_upto_region 1 with fail
  generalize w.alloc (.cells #[.int .i64 9, .string stb, .string snm, .slice coa con coc, .slice taa tan tac, .slice vaa van vac, .slice ita itn itc, .string sjn, .slice ona onn onc, .slice wha whn whc, .slice oda odn odc, .bool sds, .slice nna nnn nnc] 48) = W at *
  generalize w.heap.size = q at *
  have c0 := K0.bx.c0
  dsimp only at c0
  have H := wWord_any K0.wt ⟨#[98, 101, 103, 105, 110]⟩ (by show _ + 5 ≤ _; omega)
  rw [← E1.out] at H
  replace H : Hid _ := hid H
  go_wp2_with fail
  refine Calls.mono H.out ?_
  rintro e w1 T
  obtain ⟨v1, rfl, K1⟩ := K0.step T
  clear T H K0 c0
  go_wp2
  exact bodyPost_end (results_none rfl _ _ _) rfl (HF.out K1)
set_option maxRecDepth 100000 in
set_option maxHeartbeats 4000000 in
theorem wSt10_any {g : Nat} {v : Sl} {s0 : Ws} {w : World} (h : Wt w g v s0.1 s0.2) (he : Ev g w) {m : Sm} {s : Sv} (hI : IsS (fun k => k < g) w m s) (hk : m.kind = 10)  (hz : (sfS (m, []) s0).1.length ≤ 700000) :
    Calls Tryz.prog 32 #[.pointer (some ⟨g, 0, none⟩), stV s] w (TeS2 g v w (sfS (m, []) s0)) := by
  have HI : Hid (∀ w', Below g w w' → IsS (fun k => k < g) w' m s) := hid fun w' hb => hI.keep fun k hk _ => hb.block k hk
  obtain ⟨mk, mtb, mnm, mco, mta, mva, mit, mjn, mon, mwh, mod, mds⟩ := m
  obtain ⟨sk, stb, snm, ⟨coa, con, coc⟩, ⟨taa, tan, tac⟩, ⟨vaa, van, vac⟩, ⟨ita, itn, itc⟩, sjn, ⟨ona, onn, onc⟩, ⟨wha, whn, whc⟩, ⟨oda, odn, odc⟩, sds, ⟨nna, nnn, nnc⟩⟩ := s
  obtain ⟨e0, e1, e2, rco, rta, rva, rit, e7, ron, rwh, rod, e11⟩ := hI
  dsimp only at *
  subst e0 e1 e2 e7 e11
  subst hk
  obtain ⟨S1, E1⟩ : ∃ S, S = woS ⟨#[99, 111, 109, 109, 105, 116]⟩ s0 := ⟨_, rfl⟩
  have EF : sfS (⟨10, stb, snm, mco, mta, mva, mit, sjn, mon, mwh, mod, sds⟩, []) s0 = S1 := by rw [E1]; rfl
  rw [EF] at hz ⊢
  have z1 : s0.1.length ≤ S1.1.length := by rw [E1]; exact woS_mo _ _
  replace E1 : Hid _ := hid E1
  clear EF
  have K0 : Wk g v (w.alloc (.cells #[.int .i64 10, .string stb, .string snm, .slice coa con coc, .slice taa tan tac, .slice vaa van vac, .slice ita itn itc, .string sjn, .slice ona onn onc, .slice wha whn whc, .slice oda odn odc, .bool sds, .slice nna nnn nnc] 48)) w.heap.size (⟨10, stb, snm, (coa, con, coc), (taa, tan, tac), (vaa, van, vac), (ita, itn, itc), sjn, (ona, onn, onc), (wha, whn, whc), (oda, odn, odc), sds, (nna, nnn, nnc)⟩ : Sv) (w.alloc (.cells #[.int .i64 10, .string stb, .string snm, .slice coa con coc, .slice taa tan tac, .slice vaa van vac, .slice ita itn itc, .string sjn, .slice ona onn onc, .slice wha whn whc, .slice oda odn odc, .bool sds, .slice nna nnn nnc] 48)) v s0 := Wk.begin h (⟨10, stb, snm, (coa, con, coc), (taa, tan, tac), (vaa, van, vac), (ita, itn, itc), sjn, (ona, onn, onc), (wha, whn, whc), (oda, odn, odc), sds, (nna, nnn, nnc)⟩ : Sv)
  have HB : Hid (∀ {w' v' S}, Wk g v (w.alloc (.cells #[.int .i64 10, .string stb, .string snm, .slice coa con coc, .slice taa tan tac, .slice vaa van vac, .slice ita itn itc, .string sjn, .slice ona onn onc, .slice wha whn whc, .slice oda odn odc, .bool sds, .slice nna nnn nnc] 48)) w.heap.size (⟨10, stb, snm, (coa, con, coc), (taa, tan, tac), (vaa, van, vac), (ita, itn, itc), sjn, (ona, onn, onc), (wha, whn, whc), (oda, odn, odc), sds, (nna, nnn, nnc)⟩ : Sv) w' v' S → Below g w w') := hid fun k => k.below h
  have HB2 : Hid (∀ {w' v' S}, Wk g v (w.alloc (.cells #[.int .i64 10, .string stb, .string snm, .slice coa con coc, .slice taa tan tac, .slice vaa van vac, .slice ita itn itc, .string sjn, .slice ona onn onc, .slice wha whn whc, .slice oda odn odc, .bool sds, .slice nna nnn nnc] 48)) w.heap.size (⟨10, stb, snm, (coa, con, coc), (taa, tan, tac), (vaa, van, vac), (ita, itn, itc), sjn, (ona, onn, onc), (wha, whn, whc), (oda, odn, odc), sds, (nna, nnn, nnc)⟩ : Sv) w' v' S → ∀ w1, WUp g v' w' w1 → Below g w w1) := hid fun k w1 hu => (k.below h).trans (hu.below (Nat.le_of_lt k.wt.lt) fun b e => (k.wt.blk b e).1)
  have HF : Hid (∀ {w' v' S}, Wk g v (w.alloc (.cells #[.int .i64 10, .string stb, .string snm, .slice coa con coc, .slice taa tan tac, .slice vaa van vac, .slice ita itn itc, .string sjn, .slice ona onn onc, .slice wha whn whc, .slice oda odn odc, .bool sds, .slice nna nnn nnc] 48)) w.heap.size (⟨10, stb, snm, (coa, con, coc), (taa, tan, tac), (vaa, van, vac), (ita, itn, itc), sjn, (ona, onn, onc), (wha, whn, whc), (oda, odn, odc), sds, (nna, nnn, nnc)⟩ : Sv) w' v' S → TeS2 g v w S (.returned (.tuple #[])) w') := hid fun k => k.fin
  clear h
  unfold stV
  dsimp only
  go_enter Tryz.func32, Tryz.ntmps32
  go_upto_region 1 with fail
  generalize w.alloc (.cells #[.int .i64 10, .string stb, .string snm, .slice coa con coc, .slice taa tan tac, .slice vaa van vac, .slice ita itn itc, .string sjn, .slice ona onn onc, .slice wha whn whc, .slice oda odn odc, .bool sds, .slice nna nnn nnc] 48) = W at *
  generalize w.heap.size = q at *
  have c0 := K0.bx.c0
  dsimp only at c0
  have H := wWord_any K0.wt ⟨#[99, 111, 109, 109, 105, 116]⟩ (by show _ + 6 ≤ _; omega)
  rw [← E1.out] at H
  replace H : Hid _ := hid H
  go_wp2_with fail
  refine Calls.mono H.out ?_
  rintro e w1 T
  obtain ⟨v1, rfl, K1⟩ := K0.step T
  clear T H K0 c0
  go_wp2
  exact bodyPost_end (results_none rfl _ _ _) rfl (HF.out K1)
set_option maxRecDepth 100000 in
set_option maxHeartbeats 4000000 in
theorem wSt11_any {g : Nat} {v : Sl} {s0 : Ws} {w : World} (h : Wt w g v s0.1 s0.2) (he : Ev g w) {m : Sm} {s : Sv} (hI : IsS (fun k => k < g) w m s) (hk : m.kind = 11)  (hz : (sfS (m, []) s0).1.length ≤ 700000) :
    Calls Tryz.prog 32 #[.pointer (some ⟨g, 0, none⟩), stV s] w (TeS2 g v w (sfS (m, []) s0)) := by
  have HI : Hid (∀ w', Below g w w' → IsS (fun k => k < g) w' m s) := hid fun w' hb => hI.keep fun k hk _ => hb.block k hk
  obtain ⟨mk, mtb, mnm, mco, mta, mva, mit, mjn, mon, mwh, mod, mds⟩ := m
  obtain ⟨sk, stb, snm, ⟨coa, con, coc⟩, ⟨taa, tan, tac⟩, ⟨vaa, van, vac⟩, ⟨ita, itn, itc⟩, sjn, ⟨ona, onn, onc⟩, ⟨wha, whn, whc⟩, ⟨oda, odn, odc⟩, sds, ⟨nna, nnn, nnc⟩⟩ := s
  obtain ⟨e0, e1, e2, rco, rta, rva, rit, e7, ron, rwh, rod, e11⟩ := hI
  dsimp only at *
  subst e0 e1 e2 e7 e11
  subst hk
  obtain ⟨S1, E1⟩ : ∃ S, S = woS ⟨#[114, 111, 108, 108, 98, 97, 99, 107]⟩ s0 := ⟨_, rfl⟩
  have EF : sfS (⟨11, stb, snm, mco, mta, mva, mit, sjn, mon, mwh, mod, sds⟩, []) s0 = S1 := by rw [E1]; rfl
  rw [EF] at hz ⊢
  have z1 : s0.1.length ≤ S1.1.length := by rw [E1]; exact woS_mo _ _
  replace E1 : Hid _ := hid E1
  clear EF
  have K0 : Wk g v (w.alloc (.cells #[.int .i64 11, .string stb, .string snm, .slice coa con coc, .slice taa tan tac, .slice vaa van vac, .slice ita itn itc, .string sjn, .slice ona onn onc, .slice wha whn whc, .slice oda odn odc, .bool sds, .slice nna nnn nnc] 48)) w.heap.size (⟨11, stb, snm, (coa, con, coc), (taa, tan, tac), (vaa, van, vac), (ita, itn, itc), sjn, (ona, onn, onc), (wha, whn, whc), (oda, odn, odc), sds, (nna, nnn, nnc)⟩ : Sv) (w.alloc (.cells #[.int .i64 11, .string stb, .string snm, .slice coa con coc, .slice taa tan tac, .slice vaa van vac, .slice ita itn itc, .string sjn, .slice ona onn onc, .slice wha whn whc, .slice oda odn odc, .bool sds, .slice nna nnn nnc] 48)) v s0 := Wk.begin h (⟨11, stb, snm, (coa, con, coc), (taa, tan, tac), (vaa, van, vac), (ita, itn, itc), sjn, (ona, onn, onc), (wha, whn, whc), (oda, odn, odc), sds, (nna, nnn, nnc)⟩ : Sv)
  have HB : Hid (∀ {w' v' S}, Wk g v (w.alloc (.cells #[.int .i64 11, .string stb, .string snm, .slice coa con coc, .slice taa tan tac, .slice vaa van vac, .slice ita itn itc, .string sjn, .slice ona onn onc, .slice wha whn whc, .slice oda odn odc, .bool sds, .slice nna nnn nnc] 48)) w.heap.size (⟨11, stb, snm, (coa, con, coc), (taa, tan, tac), (vaa, van, vac), (ita, itn, itc), sjn, (ona, onn, onc), (wha, whn, whc), (oda, odn, odc), sds, (nna, nnn, nnc)⟩ : Sv) w' v' S → Below g w w') := hid fun k => k.below h
  have HB2 : Hid (∀ {w' v' S}, Wk g v (w.alloc (.cells #[.int .i64 11, .string stb, .string snm, .slice coa con coc, .slice taa tan tac, .slice vaa van vac, .slice ita itn itc, .string sjn, .slice ona onn onc, .slice wha whn whc, .slice oda odn odc, .bool sds, .slice nna nnn nnc] 48)) w.heap.size (⟨11, stb, snm, (coa, con, coc), (taa, tan, tac), (vaa, van, vac), (ita, itn, itc), sjn, (ona, onn, onc), (wha, whn, whc), (oda, odn, odc), sds, (nna, nnn, nnc)⟩ : Sv) w' v' S → ∀ w1, WUp g v' w' w1 → Below g w w1) := hid fun k w1 hu => (k.below h).trans (hu.below (Nat.le_of_lt k.wt.lt) fun b e => (k.wt.blk b e).1)
  have HF : Hid (∀ {w' v' S}, Wk g v (w.alloc (.cells #[.int .i64 11, .string stb, .string snm, .slice coa con coc, .slice taa tan tac, .slice vaa van vac, .slice ita itn itc, .string sjn, .slice ona onn onc, .slice wha whn whc, .slice oda odn odc, .bool sds, .slice nna nnn nnc] 48)) w.heap.size (⟨11, stb, snm, (coa, con, coc), (taa, tan, tac), (vaa, van, vac), (ita, itn, itc), sjn, (ona, onn, onc), (wha, whn, whc), (oda, odn, odc), sds, (nna, nnn, nnc)⟩ : Sv) w' v' S → TeS2 g v w S (.returned (.tuple #[])) w') := hid fun k => k.fin
  clear h
  unfold stV
  dsimp only
  go_enter Tryz.func32, Tryz.ntmps32
  go_upto_region 1 with fail
  generalize w.alloc (.cells #[.int .i64 11, .string stb, .string snm, .slice coa con coc, .slice taa tan tac, .slice vaa van vac, .slice ita itn itc, .string sjn, .slice ona onn onc, .slice wha whn whc, .slice oda odn odc, .bool sds, .slice nna nnn nnc] 48) = W at *
  generalize w.heap.size = q at *
  have c0 := K0.bx.c0
  dsimp only at c0
  have H := wWord_any K0.wt ⟨#[114, 111, 108, 108, 98, 97, 99, 107]⟩ (by show _ + 8 ≤ _; omega)
  rw [← E1.out] at H
  replace H : Hid _ := hid H
  go_wp2_with fail
  refine Calls.mono H.out ?_
  rintro e w1 T
  obtain ⟨v1, rfl, K1⟩ := K0.step T
  clear T H K0 c0
  go_wp2
  exact bodyPost_end (results_none rfl _ _ _) rfl (HF.out K1)
set_option maxRecDepth 100000 in
set_option maxHeartbeats 4000000 in
theorem wSt12_any {g : Nat} {v : Sl} {s0 : Ws} {w : World} (h : Wt w g v s0.1 s0.2) (he : Ev g w) {m : Sm} {s : Sv} (hI : IsS (fun k => k < g) w m s) (hk : m.kind = 12) (ht : ∀ z ∈ m.tags, TaOK z) (hz : (sfS (m, []) s0).1.length ≤ 700000) :
    Calls Tryz.prog 32 #[.pointer (some ⟨g, 0, none⟩), stV s] w (TeS2 g v w (sfS (m, []) s0)) := by
  have HI : Hid (∀ w', Below g w w' → IsS (fun k => k < g) w' m s) := hid fun w' hb => hI.keep fun k hk _ => hb.block k hk
  obtain ⟨mk, mtb, mnm, mco, mta, mva, mit, mjn, mon, mwh, mod, mds⟩ := m
  obtain ⟨sk, stb, snm, ⟨coa, con, coc⟩, ⟨taa, tan, tac⟩, ⟨vaa, van, vac⟩, ⟨ita, itn, itc⟩, sjn, ⟨ona, onn, onc⟩, ⟨wha, whn, whc⟩, ⟨oda, odn, odc⟩, sds, ⟨nna, nnn, nnc⟩⟩ := s
  obtain ⟨e0, e1, e2, rco, rta, rva, rit, e7, ron, rwh, rod, e11⟩ := hI
  dsimp only at *
  subst e0 e1 e2 e7 e11
  subst hk
  obtain ⟨S1, E1⟩ : ∃ S, S = woS ⟨#[114, 97, 105, 115, 101]⟩ s0 := ⟨_, rfl⟩
  obtain ⟨S2, E2⟩ : ∃ S, S = liS taS mta S1 := ⟨_, rfl⟩
  have EF : sfS (⟨12, stb, snm, mco, mta, mva, mit, sjn, mon, mwh, mod, sds⟩, []) s0 = S2 := by rw [E2, E1]; rfl
  rw [EF] at hz ⊢
  have z2 : S1.1.length ≤ S2.1.length := by rw [E2]; exact liS_mo taS_mo _ _
  have z1 : s0.1.length ≤ S1.1.length := by rw [E1]; exact woS_mo _ _
  replace E1 : Hid _ := hid E1
  replace E2 : Hid _ := hid E2
  clear EF
  have K0 : Wk g v (w.alloc (.cells #[.int .i64 12, .string stb, .string snm, .slice coa con coc, .slice taa tan tac, .slice vaa van vac, .slice ita itn itc, .string sjn, .slice ona onn onc, .slice wha whn whc, .slice oda odn odc, .bool sds, .slice nna nnn nnc] 48)) w.heap.size (⟨12, stb, snm, (coa, con, coc), (taa, tan, tac), (vaa, van, vac), (ita, itn, itc), sjn, (ona, onn, onc), (wha, whn, whc), (oda, odn, odc), sds, (nna, nnn, nnc)⟩ : Sv) (w.alloc (.cells #[.int .i64 12, .string stb, .string snm, .slice coa con coc, .slice taa tan tac, .slice vaa van vac, .slice ita itn itc, .string sjn, .slice ona onn onc, .slice wha whn whc, .slice oda odn odc, .bool sds, .slice nna nnn nnc] 48)) v s0 := Wk.begin h (⟨12, stb, snm, (coa, con, coc), (taa, tan, tac), (vaa, van, vac), (ita, itn, itc), sjn, (ona, onn, onc), (wha, whn, whc), (oda, odn, odc), sds, (nna, nnn, nnc)⟩ : Sv)
  have HB : Hid (∀ {w' v' S}, Wk g v (w.alloc (.cells #[.int .i64 12, .string stb, .string snm, .slice coa con coc, .slice taa tan tac, .slice vaa van vac, .slice ita itn itc, .string sjn, .slice ona onn onc, .slice wha whn whc, .slice oda odn odc, .bool sds, .slice nna nnn nnc] 48)) w.heap.size (⟨12, stb, snm, (coa, con, coc), (taa, tan, tac), (vaa, van, vac), (ita, itn, itc), sjn, (ona, onn, onc), (wha, whn, whc), (oda, odn, odc), sds, (nna, nnn, nnc)⟩ : Sv) w' v' S → Below g w w') := hid fun k => k.below h
  have HB2 : Hid (∀ {w' v' S}, Wk g v (w.alloc (.cells #[.int .i64 12, .string stb, .string snm, .slice coa con coc, .slice taa tan tac, .slice vaa van vac, .slice ita itn itc, .string sjn, .slice ona onn onc, .slice wha whn whc, .slice oda odn odc, .bool sds, .slice nna nnn nnc] 48)) w.heap.size (⟨12, stb, snm, (coa, con, coc), (taa, tan, tac), (vaa, van, vac), (ita, itn, itc), sjn, (ona, onn, onc), (wha, whn, whc), (oda, odn, odc), sds, (nna, nnn, nnc)⟩ : Sv) w' v' S → ∀ w1, WUp g v' w' w1 → Below g w w1) := hid fun k w1 hu => (k.below h).trans (hu.below (Nat.le_of_lt k.wt.lt) fun b e => (k.wt.blk b e).1)
  have HF : Hid (∀ {w' v' S}, Wk g v (w.alloc (.cells #[.int .i64 12, .string stb, .string snm, .slice coa con coc, .slice taa tan tac, .slice vaa van vac, .slice ita itn itc, .string sjn, .slice ona onn onc, .slice wha whn whc, .slice oda odn odc, .bool sds, .slice nna nnn nnc] 48)) w.heap.size (⟨12, stb, snm, (coa, con, coc), (taa, tan, tac), (vaa, van, vac), (ita, itn, itc), sjn, (ona, onn, onc), (wha, whn, whc), (oda, odn, odc), sds, (nna, nnn, nnc)⟩ : Sv) w' v' S → TeS2 g v w S (.returned (.tuple #[])) w') := hid fun k => k.fin
  clear h
  unfold stV
  dsimp only
  go_enter Tryz.func32, Tryz.ntmps32
  go_upto_region 1 with fail
  generalize w.alloc (.cells #[.int .i64 12, .string stb, .string snm, .slice coa con coc, .slice taa tan tac, .slice vaa van vac, .slice ita itn itc, .string sjn, .slice ona onn onc, .slice wha whn whc, .slice oda odn odc, .bool sds, .slice nna nnn nnc] 48) = W at *
  generalize w.heap.size = q at *
  have c0 := K0.bx.c0
  dsimp only at c0
  have H := wWord_any K0.wt ⟨#[114, 97, 105, 115, 101]⟩ (by show _ + 5 ≤ _; omega)
  rw [← E1.out] at H
  replace H : Hid _ := hid H
  go_wp2_with fail
  refine Calls.mono H.out ?_
  rintro e w1 T
  obtain ⟨v1, rfl, K1⟩ := K0.step T
  clear T H K0 c0
  have c4 := K1.bx.c4
  dsimp only at c4
  have H := liTa he rta ht K1.wt (HB.out K1) (by rw [← E2.out]; omega)
  rw [← E2.out] at H
  replace H : Hid _ := hid H
  go_wp2_with fail
  refine Calls.mono H.out ?_
  rintro e w2 T
  obtain ⟨v2, rfl, K2⟩ := K1.step T
  clear T H K1 c4
  go_wp2
  exact bodyPost_end (results_none rfl _ _ _) rfl (HF.out K2)
set_option maxRecDepth 100000 in
set_option maxHeartbeats 4000000 in
theorem wSt13_any {g : Nat} {v : Sl} {s0 : Ws} {w : World} (h : Wt w g v s0.1 s0.2) (he : Ev g w) {m : Sm} {s : Sv} (hI : IsS (fun k => k < g) w m s) (hk : m.kind = 13)  (hz : (sfS (m, []) s0).1.length ≤ 700000) :
    Calls Tryz.prog 32 #[.pointer (some ⟨g, 0, none⟩), stV s] w (TeS2 g v w (sfS (m, []) s0)) := by
  have HI : Hid (∀ w', Below g w w' → IsS (fun k => k < g) w' m s) := hid fun w' hb => hI.keep fun k hk _ => hb.block k hk
  obtain ⟨mk, mtb, mnm, mco, mta, mva, mit, mjn, mon, mwh, mod, mds⟩ := m
  obtain ⟨sk, stb, snm, ⟨coa, con, coc⟩, ⟨taa, tan, tac⟩, ⟨vaa, van, vac⟩, ⟨ita, itn, itc⟩, sjn, ⟨ona, onn, onc⟩, ⟨wha, whn, whc⟩, ⟨oda, odn, odc⟩, sds, ⟨nna, nnn, nnc⟩⟩ := s
  obtain ⟨e0, e1, e2, rco, rta, rva, rit, e7, ron, rwh, rod, e11⟩ := hI
  dsimp only at *
  subst e0 e1 e2 e7 e11
  subst hk
  obtain ⟨S1, E1⟩ : ∃ S, S = wosS [⟨#[99, 97, 108, 108]⟩, snm] s0 := ⟨_, rfl⟩
  have EF : sfS (⟨13, stb, snm, mco, mta, mva, mit, sjn, mon, mwh, mod, sds⟩, []) s0 = S1 := by rw [E1]; rfl
  rw [EF] at hz ⊢
  have z1 : s0.1.length ≤ S1.1.length := by rw [E1]; exact wosS_mo _ _
  replace E1 : Hid _ := hid E1
  clear EF
  have K0 : Wk g v (w.alloc (.cells #[.int .i64 13, .string stb, .string snm, .slice coa con coc, .slice taa tan tac, .slice vaa van vac, .slice ita itn itc, .string sjn, .slice ona onn onc, .slice wha whn whc, .slice oda odn odc, .bool sds, .slice nna nnn nnc] 48)) w.heap.size (⟨13, stb, snm, (coa, con, coc), (taa, tan, tac), (vaa, van, vac), (ita, itn, itc), sjn, (ona, onn, onc), (wha, whn, whc), (oda, odn, odc), sds, (nna, nnn, nnc)⟩ : Sv) (w.alloc (.cells #[.int .i64 13, .string stb, .string snm, .slice coa con coc, .slice taa tan tac, .slice vaa van vac, .slice ita itn itc, .string sjn, .slice ona onn onc, .slice wha whn whc, .slice oda odn odc, .bool sds, .slice nna nnn nnc] 48)) v s0 := Wk.begin h (⟨13, stb, snm, (coa, con, coc), (taa, tan, tac), (vaa, van, vac), (ita, itn, itc), sjn, (ona, onn, onc), (wha, whn, whc), (oda, odn, odc), sds, (nna, nnn, nnc)⟩ : Sv)
  have HB : Hid (∀ {w' v' S}, Wk g v (w.alloc (.cells #[.int .i64 13, .string stb, .string snm, .slice coa con coc, .slice taa tan tac, .slice vaa van vac, .slice ita itn itc, .string sjn, .slice ona onn onc, .slice wha whn whc, .slice oda odn odc, .bool sds, .slice nna nnn nnc] 48)) w.heap.size (⟨13, stb, snm, (coa, con, coc), (taa, tan, tac), (vaa, van, vac), (ita, itn, itc), sjn, (ona, onn, onc), (wha, whn, whc), (oda, odn, odc), sds, (nna, nnn, nnc)⟩ : Sv) w' v' S → Below g w w') := hid fun k => k.below h
  have HB2 : Hid (∀ {w' v' S}, Wk g v (w.alloc (.cells #[.int .i64 13, .string stb, .string snm, .slice coa con coc, .slice taa tan tac, .slice vaa van vac, .slice ita itn itc, .string sjn, .slice ona onn onc, .slice wha whn whc, .slice oda odn odc, .bool sds, .slice nna nnn nnc] 48)) w.heap.size (⟨13, stb, snm, (coa, con, coc), (taa, tan, tac), (vaa, van, vac), (ita, itn, itc), sjn, (ona, onn, onc), (wha, whn, whc), (oda, odn, odc), sds, (nna, nnn, nnc)⟩ : Sv) w' v' S → ∀ w1, WUp g v' w' w1 → Below g w w1) := hid fun k w1 hu => (k.below h).trans (hu.below (Nat.le_of_lt k.wt.lt) fun b e => (k.wt.blk b e).1)
  have HF : Hid (∀ {w' v' S}, Wk g v (w.alloc (.cells #[.int .i64 13, .string stb, .string snm, .slice coa con coc, .slice taa tan tac, .slice vaa van vac, .slice ita itn itc, .string sjn, .slice ona onn onc, .slice wha whn whc, .slice oda odn odc, .bool sds, .slice nna nnn nnc] 48)) w.heap.size (⟨13, stb, snm, (coa, con, coc), (taa, tan, tac), (vaa, van, vac), (ita, itn, itc), sjn, (ona, onn, onc), (wha, whn, whc), (oda, odn, odc), sds, (nna, nnn, nnc)⟩ : Sv) w' v' S → TeS2 g v w S (.returned (.tuple #[])) w') := hid fun k => k.fin
  clear h
  unfold stV
  dsimp only
  go_enter Tryz.func32, Tryz.ntmps32
  go_upto_region 1 with fail
  generalize w.alloc (.cells #[.int .i64 13, .string stb, .string snm, .slice coa con coc, .slice taa tan tac, .slice vaa van vac, .slice ita itn itc, .string sjn, .slice ona onn onc, .slice wha whn whc, .slice oda odn odc, .bool sds, .slice nna nnn nnc] 48) = W at *
  generalize w.heap.size = q at *
  have c0 := K0.bx.c0
  have c2 := K0.bx.c2
  dsimp only at c0 c2
  have H := words_lit K0.wt [⟨#[99, 97, 108, 108]⟩, snm] (n := 2) rfl (by decide) (by rw [← E1.out]; omega)
  rw [← E1.out] at H
  replace H : Hid _ := hid H
  go_wp2_with fail
  refine Calls.mono H.out ?_
  rintro e w1 T
  obtain ⟨v1, rfl, K1⟩ := K0.step T
  clear T H K0 c0 c2
  go_wp2
  exact bodyPost_end (results_none rfl _ _ _) rfl (HF.out K1)
/-- A statement that the writer writes. -/
structure WfOK (m : Sf) : Prop where
  plain : (m.1.kind = 5 ∨ m.1.kind = 6 ∨ m.1.kind = 7 ∨ m.1.kind = 8) → WsOK m.1
  kinds : 1 ≤ m.1.kind ∧ m.1.kind ≤ 13
  none : m.1.kind ≠ 3 → m.1.kind ≠ 4 → m.2 = []
  cols : ∀ c ∈ m.1.cols, CoOK c
  tags : ∀ z ∈ m.1.tags, TaOK z
  inner : ∀ x ∈ m.2, WsOK x
theorem wSf_any {g : Nat} {v : Sl} {s0 : Ws} {w : World} (h : Wt w g v s0.1 s0.2) (he : Ev g w) {m : Sf} {s : Sv} (hI : IsS (fun k => k < g) w m.1 s) (hN : RowIs eStmt (fun k => k < g) w (slV s.inn) m.2) (hm : WfOK m) (hz : (sfS m s0).1.length ≤ 700000) :
    Calls Tryz.prog 32 #[.pointer (some ⟨g, 0, none⟩), stV s] w (TeS2 g v w (sfS m s0)) := by
  obtain ⟨m, l⟩ := m
  by_cases h3 : m.kind = 3
  · have e : sfS (m, l) s0 = doS ⟨#[118, 105, 101, 119]⟩ m l s0 := by
      show (if m.kind = 1 then _ else if m.kind = 2 then _ else if m.kind = 3 then _ else _) = _
      rw [if_neg (by omega), if_neg (by omega), if_pos h3]
    rw [e] at hz ⊢
    exact wSt3_any h he hI h3 hN hm.tags hm.inner hz
  by_cases h4 : m.kind = 4
  · have e : sfS (m, l) s0 = doS ⟨#[99, 108, 111, 115, 117, 114, 101]⟩ m l s0 := by
      show (if m.kind = 1 then _ else if m.kind = 2 then _ else if m.kind = 3 then _ else if m.kind = 4 then _ else _) = _
      rw [if_neg (by omega), if_neg (by omega), if_neg (by omega), if_pos h4]
    rw [e] at hz ⊢
    exact wSt4_any h he hI h4 hN hm.tags hm.inner hz
  obtain rfl : l = [] := hm.none h3 h4
  by_cases hp : m.kind = 5 ∨ m.kind = 6 ∨ m.kind = 7 ∨ m.kind = 8
  · have e : sfS (m, []) s0 = stS m s0 := by
      show (if m.kind = 1 then _ else if m.kind = 2 then _ else if m.kind = 3 then _ else if m.kind = 4 then _ else if m.kind = 9 then _ else if m.kind = 10 then _ else if m.kind = 11 then _ else if m.kind = 12 then _ else if m.kind = 13 then _ else _) = _
      rw [if_neg (by omega), if_neg (by omega), if_neg (by omega), if_neg (by omega), if_neg (by omega), if_neg (by omega), if_neg (by omega), if_neg (by omega), if_neg (by omega)]
    rw [e] at hz ⊢
    exact wSt_any h he hI (hm.plain hp) hz
  have hk := hm.kinds
  have hk' : m.kind = 1 ∨ m.kind = 2 ∨ m.kind = 9 ∨ m.kind = 10 ∨ m.kind = 11 ∨ m.kind = 12 ∨ m.kind = 13 := by
    have h5 : 1 ≤ m.kind ∧ m.kind ≤ 13 := hk
    omega
  rcases hk' with hk | hk | hk | hk | hk | hk | hk
  · exact wSt1_any h he hI hk hm.cols hz
  · exact wSt2_any h he hI hk hz
  · exact wSt9_any h he hI hk hz
  · exact wSt10_any h he hI hk hz
  · exact wSt11_any h he hI hk hz
  · exact wSt12_any h he hI hk hm.tags hz
  · exact wSt13_any h he hI hk hz

end Go.Proofs.YtnboooaockgoiaaGreatDoor
