import Derived.Test.YtnboooaockgoiaaGreatDoorPay
import Derived.Test.YtnboooaockgoiaaGreatDoorPat
import Derived.Test.YtnboooaockgoiaaGreatDoorPbb
import Derived.Test.YtnboooaockgoiaaGreatDoorPas
import Derived.Test.YtnboooaockgoiaaGreatDoorPaw
namespace Go.Proofs.YtnboooaockgoiaaGreatDoor
open Go.RowKit
set_option linter.unusedVariables false
set_option linter.unusedSimpArgs false

set_option maxRecDepth 100000 in
set_option maxHeartbeats 4000000 in
theorem wListStmt_any {g : Nat} {v : Sl} {s : Ws} {w : World} (h : Wt w g v s.1 s.2) {f : Sm → Ws → Ws} (hf : ∀ x s, s.1.length ≤ (f x s).1.length) {M : Nat} (hM : ∀ args w', (callFunc M args).run Tryz.prog w' = .ok (.enter M args) w') {L : List Sm} {ao : Option Addr} {n c : Nat} (hr : RowIs eStmt (fun k => k < g) w (.slice ao n c) L)
    (hone : ∀ (i : Nat) (hi : i < L.length) (v1 : Sl) (s1 : Ws) (w1 : World), Wt w1 g v1 s1.1 s1.2 → Below g w w1 → (f L[i] s1).1.length ≤ 700000 → ∀ (sk : Int) (stb : ByteArray) (snm : ByteArray) (coa : Option Addr) (con : Nat) (coc : Nat) (taa : Option Addr) (tan : Nat) (tac : Nat) (vaa : Option Addr) (van : Nat) (vac : Nat) (ita : Option Addr) (itn : Nat) (itc : Nat) (sjn : ByteArray) (ona : Option Addr) (onn : Nat) (onc : Nat) (wha : Option Addr) (whn : Nat) (whc : Nat) (oda : Option Addr) (odn : Nat) (odc : Nat) (sds : Bool) (nna : Option Addr) (nnn : Nat) (nnc : Nat), IsS (fun k => k < g) w1 L[i] (⟨sk, stb, snm, (coa, con, coc), (taa, tan, tac), (vaa, van, vac), (ita, itn, itc), sjn, (ona, onn, onc), (wha, whn, whc), (oda, odn, odc), sds, (nna, nnn, nnc)⟩ : Sv) ∧ (nna, nnn, nnc) = ((none, 0, 0) : Sl) → Calls Tryz.prog M #[.pointer (some ⟨g, 0, none⟩), .agg #[.int .i64 sk, .string stb, .string snm, .slice coa con coc, .slice taa tan tac, .slice vaa van vac, .slice ita itn itc, .string sjn, .slice ona onn onc, .slice wha whn whc, .slice oda odn odc, .bool sds, .slice nna nnn nnc]] w1 (TeS2 g v1 w1 (f L[i] s1))) (hz : (liS f L s).1.length ≤ 700000) :
    Calls Tryz.prog 93 #[.pointer (some ⟨g, 0, none⟩), .slice ao n c, .func (.func M) #[.pointer (some ⟨g, 0, none⟩)] #[]] w (TeS2 g v w (liS f L s)) := by
  obtain ⟨_, _, _, e, hn, hnc, hc, hrow⟩ := hr
  cases e
  subst hn
  have HB : Hid (∀ w', WUp g v w w' → Below g w w') := hid fun w' hu => hu.below (Nat.le_of_lt h.lt) fun b e => (h.blk b e).1
  by_cases hL : 0 < L.length
  · obtain ⟨b, o, rfl, hb, hrow⟩ := hrow hL
    have HR : Hid (∀ w', WUp g v w w' → ∀ i (hi : i < L.length), ∃ (sk : Int) (stb : ByteArray) (snm : ByteArray) (coa : Option Addr) (con : Nat) (coc : Nat) (taa : Option Addr) (tan : Nat) (tac : Nat) (vaa : Option Addr) (van : Nat) (vac : Nat) (ita : Option Addr) (itn : Nat) (itc : Nat) (sjn : ByteArray) (ona : Option Addr) (onn : Nat) (onc : Nat) (wha : Option Addr) (whn : Nat) (whc : Nat) (oda : Option Addr) (odn : Nat) (odc : Nat) (sds : Bool) (nna : Option Addr) (nnn : Nat) (nnc : Nat), (w'.cell? ⟨b, o + i * 13, none⟩ = some (.int .i64 sk) ∧ w'.cell? ⟨b, o + i * 13 + 1, none⟩ = some (.string stb) ∧ w'.cell? ⟨b, o + i * 13 + 2, none⟩ = some (.string snm) ∧ w'.cell? ⟨b, o + i * 13 + 3, none⟩ = some (.slice coa con coc) ∧ w'.cell? ⟨b, o + i * 13 + 4, none⟩ = some (.slice taa tan tac) ∧ w'.cell? ⟨b, o + i * 13 + 5, none⟩ = some (.slice vaa van vac) ∧ w'.cell? ⟨b, o + i * 13 + 6, none⟩ = some (.slice ita itn itc) ∧ w'.cell? ⟨b, o + i * 13 + 7, none⟩ = some (.string sjn) ∧ w'.cell? ⟨b, o + i * 13 + 8, none⟩ = some (.slice ona onn onc) ∧ w'.cell? ⟨b, o + i * 13 + 9, none⟩ = some (.slice wha whn whc) ∧ w'.cell? ⟨b, o + i * 13 + 10, none⟩ = some (.slice oda odn odc) ∧ w'.cell? ⟨b, o + i * 13 + 11, none⟩ = some (.bool sds) ∧ w'.cell? ⟨b, o + i * 13 + 12, none⟩ = some (.slice nna nnn nnc)) ∧ ∀ (v1 : Sl) (s1 : Ws) (w1 : World), Wt w1 g v1 s1.1 s1.2 → Below g w w1 → (f L[i] s1).1.length ≤ 700000 → Calls Tryz.prog M #[.pointer (some ⟨g, 0, none⟩), .agg #[.int .i64 sk, .string stb, .string snm, .slice coa con coc, .slice taa tan tac, .slice vaa van vac, .slice ita itn itc, .string sjn, .slice ona onn onc, .slice wha whn whc, .slice oda odn odc, .bool sds, .slice nna nnn nnc]] w1 (TeS2 g v1 w1 (f L[i] s1))) := hid fun w' hu i hi => by
      obtain ⟨cs, he, hl, hcs⟩ := hrow i hi
      obtain ⟨sv, rfl, his, hin⟩ := he
      obtain ⟨sk, stb, snm, ⟨coa, con, coc⟩, ⟨taa, tan, tac⟩, ⟨vaa, van, vac⟩, ⟨ita, itn, itc⟩, sjn, ⟨ona, onn, onc⟩, ⟨wha, whn, whc⟩, ⟨oda, odn, odc⟩, sds, ⟨nna, nnn, nnc⟩⟩ := sv
      have hk := (HB.out w' hu).block b hb
      exact ⟨sk, stb, snm, coa, con, coc, taa, tan, tac, vaa, van, vac, ita, itn, itc, sjn, ona, onn, onc, wha, whn, whc, oda, odn, odc, sds, nna, nnn, nnc, ⟨(World.cell?_of_block (a := ⟨b, _, none⟩) hk).trans (hcs 0 (by simp [exC, svC])), (World.cell?_of_block (a := ⟨b, _, none⟩) hk).trans (hcs 1 (by simp [exC, svC])), (World.cell?_of_block (a := ⟨b, _, none⟩) hk).trans (hcs 2 (by simp [exC, svC])), (World.cell?_of_block (a := ⟨b, _, none⟩) hk).trans (hcs 3 (by simp [exC, svC])), (World.cell?_of_block (a := ⟨b, _, none⟩) hk).trans (hcs 4 (by simp [exC, svC])), (World.cell?_of_block (a := ⟨b, _, none⟩) hk).trans (hcs 5 (by simp [exC, svC])), (World.cell?_of_block (a := ⟨b, _, none⟩) hk).trans (hcs 6 (by simp [exC, svC])), (World.cell?_of_block (a := ⟨b, _, none⟩) hk).trans (hcs 7 (by simp [exC, svC])), (World.cell?_of_block (a := ⟨b, _, none⟩) hk).trans (hcs 8 (by simp [exC, svC])), (World.cell?_of_block (a := ⟨b, _, none⟩) hk).trans (hcs 9 (by simp [exC, svC])), (World.cell?_of_block (a := ⟨b, _, none⟩) hk).trans (hcs 10 (by simp [exC, svC])), (World.cell?_of_block (a := ⟨b, _, none⟩) hk).trans (hcs 11 (by simp [exC, svC])), (World.cell?_of_block (a := ⟨b, _, none⟩) hk).trans (hcs 12 (by simp [exC, svC]))⟩, fun v1 s1 w1 hw1 hb1 hz1 => hone i hi v1 s1 w1 hw1 hb1 hz1 _ _ _ _ _ _ _ _ _ _ _ _ _ _ _ _ _ _ _ _ _ _ _ _ _ _ _ _ _ ⟨his.keep fun k hk _ => hb1.block k hk, hin⟩⟩
    clear hrow hone
    go_enter Tryz.func93, Tryz.ntmps93
    go_wp2
    go_loopw [10] (fun v10 wr => ∃ (k : Nat) (v2 : Sl), k ≤ L.length ∧ v10 = .int .i64 k ∧ Wt wr g v2 (liS f (L.take k) s).1 (liS f (L.take k) s).2 ∧ WUp g v w wr ∧ WKp v v2 w.heap.size) (fun i _ => L.length - (intOf i).toNat)
    case atStart => exact ⟨0, v, Nat.zero_le _, rfl, h, WUp.refl _ _ _, WKp.refl _ _⟩
    case round =>
      clear h
      obtain ⟨k, v2, hk, rfl, hW, hU, hK⟩ := hrel
      by_cases hlt : k < L.length
      · obtain ⟨sk, stb, snm, coa, con, coc, taa, tan, tac, vaa, van, vac, ita, itn, itc, sjn, ona, onn, onc, wha, whn, whc, oda, odn, odc, sds, nna, nnn, nnc, ⟨x0, x1, x2, x3, x4, x5, x6, x7, x8, x9, x10, x11, x12⟩, HO⟩ := HR.out wr hU k hlt
        have hkI : (k : Int) < (L.length : Int) := by omega
        have h1 := liS_le hf L k s
        have h2 := liS_le hf L (k + 1) s
        have hlq := hW.lt
        have hbq : ∀ q, (slV v2).ownBlock = some q → q < wr.heap.size := fun q e => (hW.blk q e).2
        have hbx := bal (Below.refl _ wr) (.cells #[.int .i64 sk, .string stb, .string snm, .slice coa con coc, .slice taa tan tac, .slice vaa van vac, .slice ita itn itc, .string sjn, .slice ona onn onc, .slice wha whn whc, .slice oda odn odc, .bool sds, .slice nna nnn nnc] 48)
        have hbk : Blk (wr.alloc (.cells #[.int .i64 sk, .string stb, .string snm, .slice coa con coc, .slice taa tan tac, .slice vaa van vac, .slice ita itn itc, .string sjn, .slice ona onn onc, .slice wha whn whc, .slice oda odn odc, .bool sds, .slice nna nnn nnc] 48)) wr.heap.size (.cells #[.int .i64 sk, .string stb, .string snm, .slice coa con coc, .slice taa tan tac, .slice vaa van vac, .slice ita itn itc, .string sjn, .slice ona onn onc, .slice wha whn whc, .slice oda odn odc, .bool sds, .slice nna nnn nnc] 48) := Blk.new wr _
        have hWx := hW.later hbx
        have hUx : WUp g v w (wr.alloc (.cells #[.int .i64 sk, .string stb, .string snm, .slice coa con coc, .slice taa tan tac, .slice vaa van vac, .slice ita itn itc, .string sjn, .slice ona onn onc, .slice wha whn whc, .slice oda odn odc, .bool sds, .slice nna nnn nnc] 48)) := hU.trans (WUp.of hbx) hK
        have hKx : WKp v v2 w.heap.size := hK
        have hsz : w.heap.size ≤ wr.heap.size := hU.size
        replace HO : Hid _ := hid HO
        clear hW
        by_cases hk0 : k = 0
        · subst hk0
          simp only [Nat.zero_mul, Nat.add_zero] at x0 x1 x2 x3 x4 x5 x6 x7 x8 x9 x10 x11 x12
          have hkI0 : (0 : Int) < (L.length : Int) := by omega
          have HH := HO.out v2 s _ hWx (HB.out _ hUx) (by rw [← liS_zero f hlt s]; exact Nat.le_trans h2 hz)
          rw [← liS_zero f hlt s] at HH
          replace HH : Hid _ := hid HH
          clear h1 h2 hWx HO HR hf
          go_upto_region 5 with fail
          generalize wr.alloc (.cells #[.int .i64 sk, .string stb, .string snm, .slice coa con coc, .slice taa tan tac, .slice vaa van vac, .slice ita itn itc, .string sjn, .slice ona onn onc, .slice wha whn whc, .slice oda odn odc, .bool sds, .slice nna nnn nnc] 48) = W at *
          clear x0 x1 x2 x3 x4 x5 x6 x7 x8 x9 x10 x11 x12
          generalize wr.heap.size = q at *
          have y0 := hbk.cell 0
          have y1 := hbk.cell 1
          have y2 := hbk.cell 2
          have y3 := hbk.cell 3
          have y4 := hbk.cell 4
          have y5 := hbk.cell 5
          have y6 := hbk.cell 6
          have y7 := hbk.cell 7
          have y8 := hbk.cell 8
          have y9 := hbk.cell 9
          have y10 := hbk.cell 10
          have y11 := hbk.cell 11
          have y12 := hbk.cell 12
          simp at y0 y1 y2 y3 y4 y5 y6 y7 y8 y9 y10 y11 y12
          clear hbk hbx
          go_wp2_with fail
          refine Calls.mono HH.out ?_
          rintro e w1 ⟨v1, rfl, hW1, hU1, hK1⟩
          have hU2 := hUx.trans hU1 hKx
          have hK2 := hKx.trans hK1 hUx.size
          clear HH hU1 hK1 y0 y1 y2 y3 y4 y5 y6 y7 y8 y9 y10 y11 y12
          replace hW1 : Hid _ := hid hW1
          go_wp2
          go_roundw
          case rel => exact ⟨1, v1, hlt, by go_num, hW1.out, hU2, hK2⟩
          case measure => simp only [intOf]; omega
        · have hkp : 0 < k := by omega
          have hkpI : (0 : Int) < (k : Int) := by omega
          have H : Hid _ := hid (put1 hWx ⟨#[44]⟩ (by have : (catN [⟨#[44]⟩]).length = 1 := rfl; omega))
          have HN : Hid (∀ v1 w1, Wt w1 g v1 (puS [⟨#[44]⟩] (liS f (L.take k) s)).1 (puS [⟨#[44]⟩] (liS f (L.take k) s)).2 → WUp g v w w1 → _) := hid fun v1 w1 hw1 hu1 => HO.out v1 _ w1 hw1 (HB.out w1 hu1) (by rw [← liS_take f hkp hlt s]; exact Nat.le_trans h2 hz)
          rw [← liS_take f hkp hlt s] at HN
          clear h1 h2 hWx HO HR hf
          go_upto_region 4 with fail
          generalize wr.alloc (.cells #[.int .i64 sk, .string stb, .string snm, .slice coa con coc, .slice taa tan tac, .slice vaa van vac, .slice ita itn itc, .string sjn, .slice ona onn onc, .slice wha whn whc, .slice oda odn odc, .bool sds, .slice nna nnn nnc] 48) = W at *
          clear x0 x1 x2 x3 x4 x5 x6 x7 x8 x9 x10 x11 x12
          have hbl := hbk.lt
          generalize wr.heap.size = q at *
          go_wp2_with fail
          refine Calls.mono H.out ?_
          rintro e w1 ⟨v1, rfl, hW1, hU1, hK1⟩
          have hU2 := hUx.trans hU1 hKx
          have hK2 := hKx.trans hK1 hUx.size
          replace hbk := hbk.keep (hU1.block q hbl (by omega) (fun e => by have := hbq q e.symm; omega))
          have y0 := hbk.cell 0
          have y1 := hbk.cell 1
          have y2 := hbk.cell 2
          have y3 := hbk.cell 3
          have y4 := hbk.cell 4
          have y5 := hbk.cell 5
          have y6 := hbk.cell 6
          have y7 := hbk.cell 7
          have y8 := hbk.cell 8
          have y9 := hbk.cell 9
          have y10 := hbk.cell 10
          have y11 := hbk.cell 11
          have y12 := hbk.cell 12
          simp at y0 y1 y2 y3 y4 y5 y6 y7 y8 y9 y10 y11 y12
          have H2 : Hid _ := hid (HN.out v1 w1 hW1 hU2)
          clear H hU1 hK1 hW1 HN hbk hbx
          go_wp2_with fail
          refine Calls.mono H2.out ?_
          rintro e w2 ⟨v3, rfl, hW3, hU3, hK3⟩
          have hU4 := hU2.trans hU3 hK2
          have hK4 := hK2.trans hK3 hU2.size
          clear H2 hU3 hK3 y0 y1 y2 y3 y4 y5 y6 y7 y8 y9 y10 y11 y12
          replace hW3 : Hid _ := hid hW3
          go_wp2
          go_roundw
          case rel => exact ⟨k + 1, v3, hlt, by go_num, hW3.out, hU4, hK4⟩
          case measure => simp only [intOf]; omega
      · obtain rfl : k = L.length := by omega
        rw [List.take_length] at hW
        go_wp2
        exact bodyPost_end (results_none rfl _ _ _) rfl ⟨_, rfl, hW, hU, hK⟩
  · obtain rfl : L = [] := List.eq_nil_of_length_eq_zero (by omega)
    go_enter Tryz.func93, Tryz.ntmps93
    go_wp2
    go_loopw [10] (fun v10 wr => v10 = .int .i64 0 ∧ wr = w) (fun i _ => 0)
    case atStart => exact ⟨rfl, rfl⟩
    case round =>
      obtain ⟨rfl, rfl⟩ := hrel
      go_wp2
      exact bodyPost_end (results_none rfl _ _ _) rfl ⟨_, rfl, h, WUp.refl _ _ _, WKp.refl _ _⟩

end Go.Proofs.YtnboooaockgoiaaGreatDoor
namespace Go.Proofs.YtnboooaockgoiaaGreatDoor
open Go.RowKit
set_option linter.unusedVariables false
set_option linter.unusedSimpArgs false

theorem Bs.c0 {w : World} {b : Nat} {s : Sv} (h : Bs w b s) : w.cell? ⟨b, 0, none⟩ = some (.int .i64 s.k) := by unfold World.cell?; rw [h.row]; rfl
theorem Bs.c1 {w : World} {b : Nat} {s : Sv} (h : Bs w b s) : w.cell? ⟨b, 1, none⟩ = some (.string s.tb) := by unfold World.cell?; rw [h.row]; rfl
theorem Bs.c2 {w : World} {b : Nat} {s : Sv} (h : Bs w b s) : w.cell? ⟨b, 2, none⟩ = some (.string s.nm) := by unfold World.cell?; rw [h.row]; rfl
theorem Bs.c3 {w : World} {b : Nat} {s : Sv} (h : Bs w b s) : w.cell? ⟨b, 3, none⟩ = some (.slice s.co.1 s.co.2.1 s.co.2.2) := by unfold World.cell?; rw [h.row]; rfl
theorem Bs.c4 {w : World} {b : Nat} {s : Sv} (h : Bs w b s) : w.cell? ⟨b, 4, none⟩ = some (.slice s.ta.1 s.ta.2.1 s.ta.2.2) := by unfold World.cell?; rw [h.row]; rfl
theorem Bs.c5 {w : World} {b : Nat} {s : Sv} (h : Bs w b s) : w.cell? ⟨b, 5, none⟩ = some (.slice s.va.1 s.va.2.1 s.va.2.2) := by unfold World.cell?; rw [h.row]; rfl
theorem Bs.c6 {w : World} {b : Nat} {s : Sv} (h : Bs w b s) : w.cell? ⟨b, 6, none⟩ = some (.slice s.it.1 s.it.2.1 s.it.2.2) := by unfold World.cell?; rw [h.row]; rfl
theorem Bs.c7 {w : World} {b : Nat} {s : Sv} (h : Bs w b s) : w.cell? ⟨b, 7, none⟩ = some (.string s.jn) := by unfold World.cell?; rw [h.row]; rfl
theorem Bs.c8 {w : World} {b : Nat} {s : Sv} (h : Bs w b s) : w.cell? ⟨b, 8, none⟩ = some (.slice s.on.1 s.on.2.1 s.on.2.2) := by unfold World.cell?; rw [h.row]; rfl
theorem Bs.c9 {w : World} {b : Nat} {s : Sv} (h : Bs w b s) : w.cell? ⟨b, 9, none⟩ = some (.slice s.wh.1 s.wh.2.1 s.wh.2.2) := by unfold World.cell?; rw [h.row]; rfl
theorem Bs.c10 {w : World} {b : Nat} {s : Sv} (h : Bs w b s) : w.cell? ⟨b, 10, none⟩ = some (.slice s.od.1 s.od.2.1 s.od.2.2) := by unfold World.cell?; rw [h.row]; rfl
theorem Bs.c11 {w : World} {b : Nat} {s : Sv} (h : Bs w b s) : w.cell? ⟨b, 11, none⟩ = some (.bool s.ds) := by unfold World.cell?; rw [h.row]; rfl
theorem Bs.c12 {w : World} {b : Nat} {s : Sv} (h : Bs w b s) : w.cell? ⟨b, 12, none⟩ = some (.slice s.inn.1 s.inn.2.1 s.inn.2.2) := by unfold World.cell?; rw [h.row]; rfl
abbrev svB (s : Sv) : Obj := .cells #[.int .i64 s.k, .string s.tb, .string s.nm, .slice s.co.1 s.co.2.1 s.co.2.2, .slice s.ta.1 s.ta.2.1 s.ta.2.2, .slice s.va.1 s.va.2.1 s.va.2.2, .slice s.it.1 s.it.2.1 s.it.2.2, .string s.jn, .slice s.on.1 s.on.2.1 s.on.2.2, .slice s.wh.1 s.wh.2.1 s.wh.2.2, .slice s.od.1 s.od.2.1 s.od.2.2, .bool s.ds, .slice s.inn.1 s.inn.2.1 s.inn.2.2] 48 (0, 0)
/-- The writer is in state S, the statement's box is as it was, what lay there is kept. -/
structure Wk (g : Nat) (v : Sl) (W : World) (q : Nat) (s : Sv) (w' : World) (v' : Sl) (S : Ws) : Prop where
  wt : Wt w' g v' S.1 S.2
  up : WUp g v W w'
  kp : WKp v v' W.heap.size
  bx : Bs w' q s
  hq : q < W.heap.size
  hg : q ≠ g
  hv : some q ≠ (slV v).ownBlock
theorem Wk.begin {g : Nat} {v : Sl} {w : World} {S : Ws} (h : Wt w g v S.1 S.2) (s : Sv) : Wk g v (w.alloc (svB s)) w.heap.size s (w.alloc (svB s)) v S :=
  ⟨h.later (bal (Below.refl _ w) _), WUp.refl _ _ _, WKp.refl _ _, Bs.new w s, by simp, by have := h.lt; omega, fun e => by have := (h.blk _ e.symm).2; omega⟩
theorem Wk.step {g : Nat} {v : Sl} {W : World} {q : Nat} {s : Sv} {w1 : World} {v1 : Sl} {S1 S2 : Ws} (h : Wk g v W q s w1 v1 S1) {e : Ending} {w2 : World} (t : TeS2 g v1 w1 S2 e w2) : ∃ v2, e = .returned (.tuple #[]) ∧ Wk g v W q s w2 v2 S2 := by
  obtain ⟨v2, he, hW, hU, hK⟩ := t
  refine ⟨v2, he, hW, h.up.trans hU h.kp, h.kp.trans hK h.up.size, h.bx.keep (hU.block q (Nat.lt_of_lt_of_le h.hq h.up.size) h.hg ?_), h.hq, h.hg, h.hv⟩
  rcases h.kp with e | ⟨b, e, hb⟩
  · rw [e]; exact h.hv
  · rw [e]; intro k; cases k; have := h.hq; omega
theorem Wk.fin {g : Nat} {v : Sl} {w : World} {o : Obj} {q : Nat} {s : Sv} {w' : World} {v' : Sl} {S : Ws} (h : Wk g v (w.alloc o) q s w' v' S) : TeS2 g v w S (.returned (.tuple #[])) w' := ⟨v', rfl, h.wt, h.up.box, h.kp.box⟩
theorem Wk.below {g : Nat} {v : Sl} {w : World} {o : Obj} {q : Nat} {s : Sv} {w' : World} {v' : Sl} {S S0 : Ws} (h : Wk g v (w.alloc o) q s w' v' S) (h0 : Wt w g v S0.1 S0.2) : Below g w w' := h.up.box.below (Nat.le_of_lt h0.lt) fun b e => (h0.blk b e).1
theorem hmEx : ∀ args w', (callFunc 28 args).run Tryz.prog w' = .ok (.enter 28 args) w' := fun _ _ => by kernel_rfl
theorem hmTa : ∀ args w', (callFunc 68 args).run Tryz.prog w' = .ok (.enter 68 args) w' := fun _ _ => by kernel_rfl
theorem hmIt : ∀ args w', (callFunc 95 args).run Tryz.prog w' = .ok (.enter 95 args) w' := fun _ _ => by kernel_rfl
theorem hmCo : ∀ args w', (callFunc 59 args).run Tryz.prog w' = .ok (.enter 59 args) w' := fun _ _ => by kernel_rfl
theorem hmWo : ∀ args w', (callFunc 61 args).run Tryz.prog w' = .ok (.enter 61 args) w' := fun _ _ => by kernel_rfl
theorem hmSt : ∀ args w', (callFunc 32 args).run Tryz.prog w' = .ok (.enter 32 args) w' := fun _ _ => by kernel_rfl
theorem liEx {g : Nat} {w : World} (he : Ev g w) {L : List Tr} {ao : Option Addr} {n c : Nat} (hr : RowIs eExpr (fun k => k < g) w (.slice ao n c) L) (hw : ∀ t ∈ L, WfS t) {v1 : Sl} {s1 : Ws} {w1 : World} (h1 : Wt w1 g v1 s1.1 s1.2) (hb : Below g w w1) (hz : (liS exS L s1).1.length ≤ 700000) :
    Calls Tryz.prog 65 #[.pointer (some ⟨g, 0, none⟩), .slice ao n c, .func (.func 28) #[.pointer (some ⟨g, 0, none⟩)] #[]] w1 (TeS2 g v1 w1 (liS exS L s1)) :=
  wListExpr_any h1 exS_mo hmEx (hr.keep (by decide) fun k hk _ => hb.block k hk) (fun i hi v2 s2 w2 hw2 hb2 hz2 xo xk xi xt xb xn xa xl xc hex => wExpr_any (o := xo) (p := (xk, xi, xt, xb, xn)) (ao := xa) (n := xl) (c := xc) (hw _ (List.getElem_mem hi)) hw2 (he.on (hb.trans hb2)) (by have := woS_le (shE L[i]) s2; unfold exS at hz2; omega) hex) hz
theorem liTa {g : Nat} {w : World} (he : Ev g w) {L : List Int} {ao : Option Addr} {n c : Nat} (hr : RowIs eTag (fun k => k < g) w (.slice ao n c) L) (hw : ∀ z ∈ L, TaOK z) {v1 : Sl} {s1 : Ws} {w1 : World} (h1 : Wt w1 g v1 s1.1 s1.2) (hb : Below g w w1) (hz : (liS taS L s1).1.length ≤ 700000) :
    Calls Tryz.prog 67 #[.pointer (some ⟨g, 0, none⟩), .slice ao n c, .func (.func 68) #[.pointer (some ⟨g, 0, none⟩)] #[]] w1 (TeS2 g v1 w1 (liS taS L s1)) :=
  wListTag_any h1 taS_mo hmTa (hr.keep (by decide) fun k hk _ => hb.block k hk) (fun i hi v2 s2 w2 hw2 hb2 hz2 => wTag_any hw2 (he.on (hb.trans hb2)) (hw _ (List.getElem_mem hi)) hz2) hz
theorem liCo {g : Nat} {w : World} {L : List Co} {ao : Option Addr} {n c : Nat} (hr : RowIs eCol (fun k => k < g) w (.slice ao n c) L) (hw : ∀ z ∈ L, CoOK z) {v1 : Sl} {s1 : Ws} {w1 : World} (h1 : Wt w1 g v1 s1.1 s1.2) (hb : Below g w w1) (hz : (liS coS L s1).1.length ≤ 700000) :
    Calls Tryz.prog 90 #[.pointer (some ⟨g, 0, none⟩), .slice ao n c, .func (.func 59) #[.pointer (some ⟨g, 0, none⟩)] #[]] w1 (TeS2 g v1 w1 (liS coS L s1)) :=
  wListCol_any h1 coS_mo hmCo (hr.keep (by decide) fun k hk _ => hb.block k hk) (fun i hi v2 s2 w2 hw2 hb2 hz2 tn tk tr e => wCol_any hw2 (hw _ (List.getElem_mem hi)) hz2 e) hz
theorem liIt {g : Nat} {w : World} {L : List It} {ao : Option Addr} {n c : Nat} (hr : RowIs eItem (fun k => k < g) w (.slice ao n c) L) (hw : ∀ x ∈ L, x.1 = 0 ∨ x.1 = 1 ∨ x.1 = 2 ∨ x.1 = 3 ∨ x.1 = 4) {v1 : Sl} {s1 : Ws} {w1 : World} (h1 : Wt w1 g v1 s1.1 s1.2) (hb : Below g w w1) (hz : (liS itS L s1).1.length ≤ 700000) :
    Calls Tryz.prog 94 #[.pointer (some ⟨g, 0, none⟩), .slice ao n c, .func (.func 95) #[.pointer (some ⟨g, 0, none⟩)] #[]] w1 (TeS2 g v1 w1 (liS itS L s1)) :=
  wListItem_any h1 itS_mo hmIt (hr.keep (by decide) fun k hk _ => hb.block k hk) (fun i hi v2 s2 w2 hw2 hb2 hz2 ta tt tn e => wItem_any hw2 (hw _ (List.getElem_mem hi)) hz2 e) hz
theorem RowIs.nc {α : Type} {e : Ek α} {Q : Nat → Prop} {w : World} {ao : Option Addr} {n c : Nat} {L : List α} (h : RowIs e Q w (.slice ao n c) L) : L.length = n ∧ n ≤ c ∧ c ≤ 9223372036854775807 := by
  obtain ⟨_, _, _, e, h1, h2, h3, _⟩ := h
  cases e
  exact ⟨h1, h2, h3⟩
theorem RowIs.ex1 {Q : Nat → Prop} {w : World} {ao : Option Addr} {n c : Nat} {L : List Tr} (h : RowIs eExpr Q w (.slice ao n c) L) {k : Nat} (hk : k < L.length) : ∃ b o op p a1 n1 c1, ao = some ⟨b, o, none⟩ ∧ Q b ∧ Ce w b (o + k * 7) op p (.slice a1 n1 c1) ∧ Ex Q w L[k] (exV op p (.slice a1 n1 c1)) := by
  obtain ⟨_, _, _, e, h1, h2, h3, hr⟩ := h
  cases e
  obtain ⟨b, o, rfl, hq, hr⟩ := hr (by omega)
  obtain ⟨cs, ⟨op, p, a1, n1, c1, rfl, hex⟩, hl, hc⟩ := hr k hk
  exact ⟨b, o, op, p, a1, n1, c1, rfl, hq, ⟨hc 0 (by simp [exC]), hc 1 (by simp [exC]), hc 2 (by simp [exC]), hc 3 (by simp [exC]), hc 4 (by simp [exC]), hc 5 (by simp [exC]), hc 6 (by simp [exC])⟩, hex⟩

end Go.Proofs.YtnboooaockgoiaaGreatDoor
namespace Go.Proofs.YtnboooaockgoiaaGreatDoor
open Go.RowKit
set_option linter.unusedVariables false

/-- A word of letters and digits, short. -/
def chkL (s : ByteArray) : Bool := match bs s with | [] => false | c :: n => isL c && n.all isN && decide (n.length < 16)
theorem chkL_of {s : ByteArray} (h : chkL s = true) : ∃ c n, s = ⟨(c :: n).toArray⟩ ∧ isL c = true ∧ n.all isN = true ∧ n.length < 16 := by
  unfold chkL at h
  split at h
  · cases h
  · rename_i c n e
    rw [Bool.and_eq_true, Bool.and_eq_true, decide_eq_true_eq] at h
    exact ⟨c, n, bs_ext (by rw [e, bs_mk]), h.1.1, h.1.2, h.2⟩
theorem ok_kw {s : ByteArray} (h : chkL s = true) (hw : isW s = true) : WdOK (kw s) := by
  obtain ⟨c, n, rfl, h1, h2, h3⟩ := chkL_of h
  have := WdOK.name c n h1 h2 h3
  rwa [hw] at this
theorem ok_nm {s : ByteArray} (h : chkL s = true) (hw : isW s = false) : WdOK (nm s) := by
  obtain ⟨c, n, rfl, h1, h2, h3⟩ := chkL_of h
  have := WdOK.name c n h1 h2 h3
  rwa [hw] at this
theorem ok_op : ∀ j, j < 11 → WdOK (opW j) := by
  intro j hj
  match j, hj with
  | 0, _ => exact .sign 43 (by decide)
  | 1, _ => exact .sign 45 (by decide)
  | 2, _ => exact .sign 42 (by decide)
  | 3, _ => exact .sign 61 (by decide)
  | 4, _ => exact .ang 60 [62] (.inr (.inl ⟨rfl, .inr rfl⟩))
  | 5, _ => exact .ang 60 [] (.inl ⟨.inl rfl, rfl⟩)
  | 6, _ => exact .ang 60 [61] (.inr (.inl ⟨rfl, .inl rfl⟩))
  | 7, _ => exact .ang 62 [] (.inl ⟨.inr rfl, rfl⟩)
  | 8, _ => exact .ang 62 [61] (.inr (.inr ⟨rfl, rfl⟩))
  | 9, _ => exact ok_kw (s := ⟨#[97, 110, 100]⟩) (by decide +kernel) (by decide +kernel)
  | 10, _ => exact ok_kw (s := ⟨#[111, 114]⟩) (by decide +kernel) (by decide +kernel)
theorem col_words_ok {tb n : ByteArray} (h : tb = ⟨#[]⟩ ∨ WdOK (nm tb)) (k : WdOK (nm n)) : ∀ w ∈ wdE (tCol tb n), WdOK w := by
  intro w hw
  by_cases h0 : tb = ⟨#[]⟩
  · subst h0
    have hw' : w ∈ [nm n] := hw
    rw [List.mem_singleton] at hw'
    subst hw'
    exact k
  · have e : wdE (tCol tb n) = [nm tb, (5, ⟨#[46]⟩, 0), nm n] := by show (if tb = ⟨#[]⟩ then _ else _) = _; rw [if_neg h0]; rfl
    rw [e] at hw
    simp only [List.mem_cons, List.not_mem_nil, or_false] at hw
    rcases hw with rfl | rfl | rfl
    · exact h.resolve_left h0
    · exact .sign 46 (by decide)
    · exact k
theorem wdE_one3 (l : Tr) : wdE (tOne 3 l) = (5, ⟨#[40]⟩, 0) :: (5, ⟨#[45]⟩, 0) :: (wdE l ++ [(5, ⟨#[41]⟩, 0)]) := rfl
theorem wdE_one4 (l : Tr) : wdE (tOne 4 l) = (5, ⟨#[40]⟩, 0) :: (2, ⟨#[110, 111, 116]⟩, 0) :: (wdE l ++ [(5, ⟨#[41]⟩, 0)]) := rfl
end Go.Proofs.YtnboooaockgoiaaGreatDoor
namespace Go.Proofs.YtnboooaockgoiaaGreatDoor
open Go.RowKit
set_option linter.unusedVariables false
set_option linter.unusedSimpArgs false

/-- Pieces of good words. -/
def AllP (l : List Pc) : Prop := ∀ p ∈ l, WdOK p.2
theorem AllP.nil : AllP [] := fun p h => absurd h (by simp)
theorem AllP.cons {k : Nat} {v : Wd} {l : List Pc} (h : WdOK v) (t : AllP l) : AllP ((k, v) :: l) := fun p hp => by
  rcases List.mem_cons.1 hp with rfl | hp
  · exact h
  · exact t p hp
theorem AllP.app {l m : List Pc} (h : AllP l) (t : AllP m) : AllP (l ++ m) := fun p hp => (List.mem_append.1 hp).elim (h p) (t p)
theorem AllP.words {l : List Pc} (h : AllP l) : ∀ w ∈ l.map Prod.snd, WdOK w := fun w hw => by
  obtain ⟨p, hp, rfl⟩ := List.mem_map.1 hw
  exact h p hp
theorem AllP.expr {t : Tr} (h : ∀ w ∈ wdE t, WdOK w) (sp : Nat) : AllP (pcE sp t) := fun p hp => h p.2 (by rw [← pcE_words t sp]; exact List.mem_map_of_mem hp)
theorem AllP.jpT {α : Type} {g : Nat → α → List Pc} : ∀ {l : List α}, (∀ y ∈ l, ∀ k, AllP (g k y)) → AllP (jpT g l)
  | [], _ => .nil
  | y :: l, h => .cons (.sign 44 (by decide)) ((h y (by simp) 1).app (AllP.jpT fun x hx => h x (by simp [hx])))
theorem AllP.jp {α : Type} {g : Nat → α → List Pc} {k : Nat} : ∀ {l : List α}, (∀ y ∈ l, ∀ k, AllP (g k y)) → AllP (jp g k l)
  | [], _ => .nil
  | y :: l, h => (h y (by simp) k).app (AllP.jpT fun x hx => h x (by simp [hx]))
def kwL : List ByteArray := [⟨#[99, 114, 101, 97, 116, 101]⟩, ⟨#[116, 97, 98, 108, 101]⟩, ⟨#[105, 110, 100, 101, 120]⟩, ⟨#[118, 105, 101, 119]⟩, ⟨#[99, 108, 111, 115, 117, 114, 101]⟩, ⟨#[111, 110]⟩, ⟨#[105, 110, 115, 101, 114, 116]⟩, ⟨#[105, 110, 116, 111]⟩, ⟨#[118, 97, 108, 117, 101, 115]⟩, ⟨#[115, 101, 108, 101, 99, 116]⟩, ⟨#[102, 114, 111, 109]⟩, ⟨#[106, 111, 105, 110]⟩, ⟨#[119, 104, 101, 114, 101]⟩, ⟨#[111, 114, 100, 101, 114]⟩, ⟨#[98, 121]⟩, ⟨#[100, 101, 115, 99]⟩, ⟨#[117, 112, 100, 97, 116, 101]⟩, ⟨#[115, 101, 116]⟩, ⟨#[100, 101, 108, 101, 116, 101]⟩, ⟨#[115, 116, 114, 105, 112]⟩, ⟨#[97, 115]⟩, ⟨#[114, 97, 105, 115, 101]⟩, ⟨#[99, 97, 108, 108]⟩, ⟨#[98, 101, 103, 105, 110]⟩, ⟨#[99, 111, 109, 109, 105, 116]⟩, ⟨#[114, 111, 108, 108, 98, 97, 99, 107]⟩, ⟨#[105, 110, 116]⟩, ⟨#[116, 101, 120, 116]⟩, ⟨#[114, 101, 102]⟩, ⟨#[99, 111, 117, 110, 116]⟩, ⟨#[115, 117, 109]⟩, ⟨#[109, 105, 110]⟩, ⟨#[109, 97, 120]⟩]
theorem okK {s : ByteArray} (h : memB s kwL = true) : WdOK (kw s) := by
  have hs := mem_of h
  have tab : (kwL.all fun s => chkL s && isW s) = true := by decide +kernel
  have := List.all_eq_true.1 tab s hs
  rw [Bool.and_eq_true] at this
  exact ok_kw this.1 this.2
theorem okS (c : UInt8) (h : isO c = true) : WdOK (sg ⟨#[c]⟩) := .sign c h
end Go.Proofs.YtnboooaockgoiaaGreatDoor
