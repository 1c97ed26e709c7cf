import Derived.Test.YtnboooaockgoiaaGreatDoorPay
import Derived.Test.YtnboooaockgoiaaGreatDoorPat
import Derived.Test.YtnboooaockgoiaaGreatDoorPbf
import Derived.Test.YtnboooaockgoiaaGreatDoorPaz
namespace Go.Proofs.YtnboooaockgoiaaGreatDoor
open Go.RowKit
set_option linter.unusedVariables false
set_option linter.unusedSimpArgs false

set_option maxRecDepth 100000 in
set_option maxHeartbeats 4000000 in
theorem allCol_any {Q : Nat → Prop} {w : World} {M : Nat} (hM : ∀ args w', (callFunc M args).run Tryz.prog w' = .ok (.enter M args) w') {L : List Co} {ao : Option Addr} {n c : Nat} (hr : RowIs eCol Q w (.slice ao n c) L)
    (hone : ∀ (i : Nat) (hi : i < L.length) (w1 : World), Below w.heap.size w w1 → ∀ (tn : ByteArray) (tk : Int) (tr : ByteArray), L[i] = (tn, tk, tr) → Calls Tryz.prog M #[.agg #[.string tn, .int .i64 tk, .string tr]] w1 fun e w' => e = .returned (.bool true) ∧ Below w1.heap.size w1 w') :
    Calls Tryz.prog 48 #[.slice ao n c, .func (.func M) #[] #[]] w fun e w' => e = .returned (.bool true) ∧ Below w.heap.size w w' := by
  obtain ⟨_, _, _, e, hn, hnc, hc, hrow⟩ := hr
  cases e
  subst hn
  by_cases hL : 0 < L.length
  · obtain ⟨b, o, rfl, hb, hrow⟩ := hrow hL
    have HR : Hid (∀ w', Below w.heap.size w w' → ∀ i (hi : i < L.length), ∃ (tn : ByteArray) (tk : Int) (tr : ByteArray), (w'.cell? ⟨b, o + i * 3, none⟩ = some (.string tn) ∧ w'.cell? ⟨b, o + i * 3 + 1, none⟩ = some (.int .i64 tk) ∧ w'.cell? ⟨b, o + i * 3 + 2, none⟩ = some (.string tr)) ∧ ∀ (w1 : World), Below w.heap.size w w1 → Calls Tryz.prog M #[.agg #[.string tn, .int .i64 tk, .string tr]] w1 fun e w' => e = .returned (.bool true) ∧ Below w1.heap.size w1 w') := hid fun w' hu i hi => by
      obtain ⟨cs, he, hl, hcs⟩ := hrow i hi
      have he : cs = [.string L[i].1, .int .i64 L[i].2.1, .string L[i].2.2] := he
      subst he
      exact ⟨L[i].1, L[i].2.1, L[i].2.2, ⟨cell_later hu (hcs 0 (by simp [exC, svC])), cell_later hu (hcs 1 (by simp [exC, svC])), cell_later hu (hcs 2 (by simp [exC, svC]))⟩, fun w1 hb1 => hone i hi w1 hb1 _ _ _ rfl⟩
    clear hrow hone
    go_enter Tryz.func48, Tryz.ntmps48
    go_wp2
    go_loopw [9] (fun v9 wr => ∃ (k : Nat), k ≤ L.length ∧ v9 = .int .i64 k ∧ Below w.heap.size w wr) (fun i _ => L.length - (intOf i).toNat)
    case atStart => exact ⟨0, Nat.zero_le _, rfl, Below.refl _ _⟩
    case round =>
      obtain ⟨k, hk, rfl, hB⟩ := hrel
      by_cases hlt : k < L.length
      · obtain ⟨tn, tk, tr, ⟨x0, x1, x2⟩, HO⟩ := HR.out wr hB k hlt
        have hkI : (k : Int) < (L.length : Int) := by omega
        have hbx := bal (Below.refl _ wr) (.cells #[.string tn, .int .i64 tk, .string tr] 62)
        have hbk : Blk (wr.alloc (.cells #[.string tn, .int .i64 tk, .string tr] 62)) wr.heap.size (.cells #[.string tn, .int .i64 tk, .string tr] 62) := Blk.new wr _
        have hB2 := Below.on hB hbx
        have HH : Hid _ := hid (HO _ hB2)
        clear HO HR hbx
        go_upto_region 4 with fail
        generalize wr.alloc (.cells #[.string tn, .int .i64 tk, .string tr] 62) = W at *
        clear x0 x1 x2
        generalize wr.heap.size = q at *
        have y0 := hbk.cell 0
        have y1 := hbk.cell 1
        have y2 := hbk.cell 2
        simp at y0 y1 y2
        clear hbk
        go_wp2_with fail
        refine Calls.mono HH.out ?_
        rintro e w1 ⟨rfl, hb1⟩
        have hB3 := Below.on hB2 hb1
        clear HH hb1 y0 y1 y2 hB hB2
        go_wp2
        go_roundw
        case rel => exact ⟨k + 1, hlt, by go_num, hB3⟩
        case measure => simp only [intOf]; omega
      · obtain rfl : k = L.length := by omega
        clear HR
        go_wp2
        go_ret
        exact ⟨rfl, hB⟩
  · obtain rfl : L = [] := List.eq_nil_of_length_eq_zero (by omega)
    go_enter Tryz.func48, Tryz.ntmps48
    go_wp2
    go_loopw [9] (fun v9 wr => v9 = .int .i64 0 ∧ wr = w) (fun i _ => 0)
    case atStart => exact ⟨rfl, rfl⟩
    case round =>
      obtain ⟨rfl, rfl⟩ := hrel
      go_wp2
      go_ret
      exact ⟨rfl, Below.refl _ _⟩
set_option maxRecDepth 100000 in
set_option maxHeartbeats 4000000 in
theorem allItem_any {Q : Nat → Prop} {w : World} {M : Nat} (hM : ∀ args w', (callFunc M args).run Tryz.prog w' = .ok (.enter M args) w') {L : List It} {ao : Option Addr} {n c : Nat} (hr : RowIs eItem Q w (.slice ao n c) L)
    (hone : ∀ (i : Nat) (hi : i < L.length) (w1 : World), Below w.heap.size w w1 → ∀ (ta : Int) (tt : ByteArray) (tn : ByteArray), L[i] = (ta, tt, tn) → Calls Tryz.prog M #[.agg #[.int .i64 ta, .string tt, .string tn]] w1 fun e w' => e = .returned (.bool true) ∧ Below w1.heap.size w1 w') :
    Calls Tryz.prog 53 #[.slice ao n c, .func (.func M) #[] #[]] w fun e w' => e = .returned (.bool true) ∧ Below w.heap.size w w' := by
  obtain ⟨_, _, _, e, hn, hnc, hc, hrow⟩ := hr
  cases e
  subst hn
  by_cases hL : 0 < L.length
  · obtain ⟨b, o, rfl, hb, hrow⟩ := hrow hL
    have HR : Hid (∀ w', Below w.heap.size w w' → ∀ i (hi : i < L.length), ∃ (ta : Int) (tt : ByteArray) (tn : ByteArray), (w'.cell? ⟨b, o + i * 3, none⟩ = some (.int .i64 ta) ∧ w'.cell? ⟨b, o + i * 3 + 1, none⟩ = some (.string tt) ∧ w'.cell? ⟨b, o + i * 3 + 2, none⟩ = some (.string tn)) ∧ ∀ (w1 : World), Below w.heap.size w w1 → Calls Tryz.prog M #[.agg #[.int .i64 ta, .string tt, .string tn]] w1 fun e w' => e = .returned (.bool true) ∧ Below w1.heap.size w1 w') := hid fun w' hu i hi => by
      obtain ⟨cs, he, hl, hcs⟩ := hrow i hi
      have he : cs = [.int .i64 L[i].1, .string L[i].2.1, .string L[i].2.2] := he
      subst he
      exact ⟨L[i].1, L[i].2.1, L[i].2.2, ⟨cell_later hu (hcs 0 (by simp [exC, svC])), cell_later hu (hcs 1 (by simp [exC, svC])), cell_later hu (hcs 2 (by simp [exC, svC]))⟩, fun w1 hb1 => hone i hi w1 hb1 _ _ _ rfl⟩
    clear hrow hone
    go_enter Tryz.func53, Tryz.ntmps53
    go_wp2
    go_loopw [9] (fun v9 wr => ∃ (k : Nat), k ≤ L.length ∧ v9 = .int .i64 k ∧ Below w.heap.size w wr) (fun i _ => L.length - (intOf i).toNat)
    case atStart => exact ⟨0, Nat.zero_le _, rfl, Below.refl _ _⟩
    case round =>
      obtain ⟨k, hk, rfl, hB⟩ := hrel
      by_cases hlt : k < L.length
      · obtain ⟨ta, tt, tn, ⟨x0, x1, x2⟩, HO⟩ := HR.out wr hB k hlt
        have hkI : (k : Int) < (L.length : Int) := by omega
        have hbx := bal (Below.refl _ wr) (.cells #[.int .i64 ta, .string tt, .string tn] 64)
        have hbk : Blk (wr.alloc (.cells #[.int .i64 ta, .string tt, .string tn] 64)) wr.heap.size (.cells #[.int .i64 ta, .string tt, .string tn] 64) := Blk.new wr _
        have hB2 := Below.on hB hbx
        have HH : Hid _ := hid (HO _ hB2)
        clear HO HR hbx
        go_upto_region 4 with fail
        generalize wr.alloc (.cells #[.int .i64 ta, .string tt, .string tn] 64) = W at *
        clear x0 x1 x2
        generalize wr.heap.size = q at *
        have y0 := hbk.cell 0
        have y1 := hbk.cell 1
        have y2 := hbk.cell 2
        simp at y0 y1 y2
        clear hbk
        go_wp2_with fail
        refine Calls.mono HH.out ?_
        rintro e w1 ⟨rfl, hb1⟩
        have hB3 := Below.on hB2 hb1
        clear HH hb1 y0 y1 y2 hB hB2
        go_wp2
        go_roundw
        case rel => exact ⟨k + 1, hlt, by go_num, hB3⟩
        case measure => simp only [intOf]; omega
      · obtain rfl : k = L.length := by omega
        clear HR
        go_wp2
        go_ret
        exact ⟨rfl, hB⟩
  · obtain rfl : L = [] := List.eq_nil_of_length_eq_zero (by omega)
    go_enter Tryz.func53, Tryz.ntmps53
    go_wp2
    go_loopw [9] (fun v9 wr => v9 = .int .i64 0 ∧ wr = w) (fun i _ => 0)
    case atStart => exact ⟨rfl, rfl⟩
    case round =>
      obtain ⟨rfl, rfl⟩ := hrel
      go_wp2
      go_ret
      exact ⟨rfl, Below.refl _ _⟩
set_option maxRecDepth 100000 in
set_option maxHeartbeats 4000000 in
theorem allExpr_any {Q : Nat → Prop} {w : World} {M : Nat} (hM : ∀ args w', (callFunc M args).run Tryz.prog w' = .ok (.enter M args) w') {L : List Tr} {ao : Option Addr} {n c : Nat} (hr : RowIs eExpr Q w (.slice ao n c) L)
    (hone : ∀ (i : Nat) (hi : i < L.length) (w1 : World), Below w.heap.size w w1 → ∀ (xo : Int) (xk : Int) (xi : Int) (xt : ByteArray) (xb : ByteArray) (xn : ByteArray) (xa : Option Addr) (xl : Nat) (xc : Nat), Ex Q w1 L[i] (exV xo (xk, xi, xt, xb, xn) (.slice xa xl xc)) → Calls Tryz.prog M #[.agg #[.int .i64 xo, .int .i64 xk, .int .i64 xi, .string xt, .string xb, .string xn, .slice xa xl xc]] w1 fun e w' => e = .returned (.bool true) ∧ Below w1.heap.size w1 w') :
    Calls Tryz.prog 87 #[.slice ao n c, .func (.func M) #[] #[]] w fun e w' => e = .returned (.bool true) ∧ Below w.heap.size w w' := by
  obtain ⟨_, _, _, e, hn, hnc, hc, hrow⟩ := hr
  cases e
  subst hn
  by_cases hL : 0 < L.length
  · obtain ⟨b, o, rfl, hb, hrow⟩ := hrow hL
    have HR : Hid (∀ w', Below w.heap.size w w' → ∀ i (hi : i < L.length), ∃ (xo : Int) (xk : Int) (xi : Int) (xt : ByteArray) (xb : ByteArray) (xn : ByteArray) (xa : Option Addr) (xl : Nat) (xc : Nat), (w'.cell? ⟨b, o + i * 7, none⟩ = some (.int .i64 xo) ∧ w'.cell? ⟨b, o + i * 7 + 1, none⟩ = some (.int .i64 xk) ∧ w'.cell? ⟨b, o + i * 7 + 2, none⟩ = some (.int .i64 xi) ∧ w'.cell? ⟨b, o + i * 7 + 3, none⟩ = some (.string xt) ∧ w'.cell? ⟨b, o + i * 7 + 4, none⟩ = some (.string xb) ∧ w'.cell? ⟨b, o + i * 7 + 5, none⟩ = some (.string xn) ∧ w'.cell? ⟨b, o + i * 7 + 6, none⟩ = some (.slice xa xl xc)) ∧ ∀ (w1 : World), Below w.heap.size w w1 → Calls Tryz.prog M #[.agg #[.int .i64 xo, .int .i64 xk, .int .i64 xi, .string xt, .string xb, .string xn, .slice xa xl xc]] w1 fun e w' => e = .returned (.bool true) ∧ Below w1.heap.size w1 w') := hid fun w' hu i hi => by
      obtain ⟨cs, he, hl, hcs⟩ := hrow i hi
      obtain ⟨op, p, xa, xl, xc, rfl, hex⟩ := he
      obtain ⟨xk, xi, xt, xb, xn⟩ := p
      exact ⟨op, xk, xi, xt, xb, xn, xa, xl, xc, ⟨cell_later hu (hcs 0 (by simp [exC, svC])), cell_later hu (hcs 1 (by simp [exC, svC])), cell_later hu (hcs 2 (by simp [exC, svC])), cell_later hu (hcs 3 (by simp [exC, svC])), cell_later hu (hcs 4 (by simp [exC, svC])), cell_later hu (hcs 5 (by simp [exC, svC])), cell_later hu (hcs 6 (by simp [exC, svC]))⟩, fun w1 hb1 => hone i hi w1 hb1 _ _ _ _ _ _ _ _ _ (hex.keep fun k _ hk => hb1.block k hk)⟩
    clear hrow hone
    go_enter Tryz.func87, Tryz.ntmps87
    go_wp2
    go_loopw [9] (fun v9 wr => ∃ (k : Nat), k ≤ L.length ∧ v9 = .int .i64 k ∧ Below w.heap.size w wr) (fun i _ => L.length - (intOf i).toNat)
    case atStart => exact ⟨0, Nat.zero_le _, rfl, Below.refl _ _⟩
    case round =>
      obtain ⟨k, hk, rfl, hB⟩ := hrel
      by_cases hlt : k < L.length
      · obtain ⟨xo, xk, xi, xt, xb, xn, xa, xl, xc, ⟨x0, x1, x2, x3, x4, x5, x6⟩, HO⟩ := HR.out wr hB k hlt
        have hkI : (k : Int) < (L.length : Int) := by omega
        have hbx := bal (Below.refl _ wr) (.cells #[.int .i64 xo, .int .i64 xk, .int .i64 xi, .string xt, .string xb, .string xn, .slice xa xl xc] 43)
        have hbk : Blk (wr.alloc (.cells #[.int .i64 xo, .int .i64 xk, .int .i64 xi, .string xt, .string xb, .string xn, .slice xa xl xc] 43)) wr.heap.size (.cells #[.int .i64 xo, .int .i64 xk, .int .i64 xi, .string xt, .string xb, .string xn, .slice xa xl xc] 43) := Blk.new wr _
        have hB2 := Below.on hB hbx
        have HH : Hid _ := hid (HO _ hB2)
        clear HO HR hbx
        go_upto_region 4 with fail
        generalize wr.alloc (.cells #[.int .i64 xo, .int .i64 xk, .int .i64 xi, .string xt, .string xb, .string xn, .slice xa xl xc] 43) = W at *
        clear x0 x1 x2 x3 x4 x5 x6
        generalize wr.heap.size = q at *
        have y0 := hbk.cell 0
        have y1 := hbk.cell 1
        have y2 := hbk.cell 2
        have y3 := hbk.cell 3
        have y4 := hbk.cell 4
        have y5 := hbk.cell 5
        have y6 := hbk.cell 6
        simp at y0 y1 y2 y3 y4 y5 y6
        clear hbk
        go_wp2_with fail
        refine Calls.mono HH.out ?_
        rintro e w1 ⟨rfl, hb1⟩
        have hB3 := Below.on hB2 hb1
        clear HH hb1 y0 y1 y2 y3 y4 y5 y6 hB hB2
        go_wp2
        go_roundw
        case rel => exact ⟨k + 1, hlt, by go_num, hB3⟩
        case measure => simp only [intOf]; omega
      · obtain rfl : k = L.length := by omega
        clear HR
        go_wp2
        go_ret
        exact ⟨rfl, hB⟩
  · obtain rfl : L = [] := List.eq_nil_of_length_eq_zero (by omega)
    go_enter Tryz.func87, Tryz.ntmps87
    go_wp2
    go_loopw [9] (fun v9 wr => v9 = .int .i64 0 ∧ wr = w) (fun i _ => 0)
    case atStart => exact ⟨rfl, rfl⟩
    case round =>
      obtain ⟨rfl, rfl⟩ := hrel
      go_wp2
      go_ret
      exact ⟨rfl, Below.refl _ _⟩
set_option maxRecDepth 100000 in
set_option maxHeartbeats 4000000 in
theorem allStmt_any {Q : Nat → Prop} {w : World} {M : Nat} (hM : ∀ args w', (callFunc M args).run Tryz.prog w' = .ok (.enter M args) w') {L : List Sm} {ao : Option Addr} {n c : Nat} (hr : RowIs eStmt Q w (.slice ao n c) L)
    (hone : ∀ (i : Nat) (hi : i < L.length) (w1 : World), Below w.heap.size w w1 → ∀ (sk : Int) (stb : ByteArray) (snm : ByteArray) (coa : Option Addr) (con : Nat) (coc : Nat) (taa : Option Addr) (tan : Nat) (tac : Nat) (vaa : Option Addr) (van : Nat) (vac : Nat) (ita : Option Addr) (itn : Nat) (itc : Nat) (sjn : ByteArray) (ona : Option Addr) (onn : Nat) (onc : Nat) (wha : Option Addr) (whn : Nat) (whc : Nat) (oda : Option Addr) (odn : Nat) (odc : Nat) (sds : Bool) (nna : Option Addr) (nnn : Nat) (nnc : Nat), IsS Q w1 L[i] (⟨sk, stb, snm, (coa, con, coc), (taa, tan, tac), (vaa, van, vac), (ita, itn, itc), sjn, (ona, onn, onc), (wha, whn, whc), (oda, odn, odc), sds, (nna, nnn, nnc)⟩ : Sv) ∧ (nna, nnn, nnc) = ((none, 0, 0) : Sl) → Calls Tryz.prog M #[.agg #[.int .i64 sk, .string stb, .string snm, .slice coa con coc, .slice taa tan tac, .slice vaa van vac, .slice ita itn itc, .string sjn, .slice ona onn onc, .slice wha whn whc, .slice oda odn odc, .bool sds, .slice nna nnn nnc]] w1 fun e w' => e = .returned (.bool true) ∧ Below w1.heap.size w1 w') :
    Calls Tryz.prog 50 #[.slice ao n c, .func (.func M) #[] #[]] w fun e w' => e = .returned (.bool true) ∧ Below w.heap.size w w' := by
  obtain ⟨_, _, _, e, hn, hnc, hc, hrow⟩ := hr
  cases e
  subst hn
  by_cases hL : 0 < L.length
  · obtain ⟨b, o, rfl, hb, hrow⟩ := hrow hL
    have HR : Hid (∀ w', Below w.heap.size w w' → ∀ i (hi : i < L.length), ∃ (sk : Int) (stb : ByteArray) (snm : ByteArray) (coa : Option Addr) (con : Nat) (coc : Nat) (taa : Option Addr) (tan : Nat) (tac : Nat) (vaa : Option Addr) (van : Nat) (vac : Nat) (ita : Option Addr) (itn : Nat) (itc : Nat) (sjn : ByteArray) (ona : Option Addr) (onn : Nat) (onc : Nat) (wha : Option Addr) (whn : Nat) (whc : Nat) (oda : Option Addr) (odn : Nat) (odc : Nat) (sds : Bool) (nna : Option Addr) (nnn : Nat) (nnc : Nat), (w'.cell? ⟨b, o + i * 13, none⟩ = some (.int .i64 sk) ∧ w'.cell? ⟨b, o + i * 13 + 1, none⟩ = some (.string stb) ∧ w'.cell? ⟨b, o + i * 13 + 2, none⟩ = some (.string snm) ∧ w'.cell? ⟨b, o + i * 13 + 3, none⟩ = some (.slice coa con coc) ∧ w'.cell? ⟨b, o + i * 13 + 4, none⟩ = some (.slice taa tan tac) ∧ w'.cell? ⟨b, o + i * 13 + 5, none⟩ = some (.slice vaa van vac) ∧ w'.cell? ⟨b, o + i * 13 + 6, none⟩ = some (.slice ita itn itc) ∧ w'.cell? ⟨b, o + i * 13 + 7, none⟩ = some (.string sjn) ∧ w'.cell? ⟨b, o + i * 13 + 8, none⟩ = some (.slice ona onn onc) ∧ w'.cell? ⟨b, o + i * 13 + 9, none⟩ = some (.slice wha whn whc) ∧ w'.cell? ⟨b, o + i * 13 + 10, none⟩ = some (.slice oda odn odc) ∧ w'.cell? ⟨b, o + i * 13 + 11, none⟩ = some (.bool sds) ∧ w'.cell? ⟨b, o + i * 13 + 12, none⟩ = some (.slice nna nnn nnc)) ∧ ∀ (w1 : World), Below w.heap.size w w1 → Calls Tryz.prog M #[.agg #[.int .i64 sk, .string stb, .string snm, .slice coa con coc, .slice taa tan tac, .slice vaa van vac, .slice ita itn itc, .string sjn, .slice ona onn onc, .slice wha whn whc, .slice oda odn odc, .bool sds, .slice nna nnn nnc]] w1 fun e w' => e = .returned (.bool true) ∧ Below w1.heap.size w1 w') := hid fun w' hu i hi => by
      obtain ⟨cs, he, hl, hcs⟩ := hrow i hi
      obtain ⟨sv, rfl, his, hin⟩ := he
      obtain ⟨sk, stb, snm, ⟨coa, con, coc⟩, ⟨taa, tan, tac⟩, ⟨vaa, van, vac⟩, ⟨ita, itn, itc⟩, sjn, ⟨ona, onn, onc⟩, ⟨wha, whn, whc⟩, ⟨oda, odn, odc⟩, sds, ⟨nna, nnn, nnc⟩⟩ := sv
      exact ⟨sk, stb, snm, coa, con, coc, taa, tan, tac, vaa, van, vac, ita, itn, itc, sjn, ona, onn, onc, wha, whn, whc, oda, odn, odc, sds, nna, nnn, nnc, ⟨cell_later hu (hcs 0 (by simp [exC, svC])), cell_later hu (hcs 1 (by simp [exC, svC])), cell_later hu (hcs 2 (by simp [exC, svC])), cell_later hu (hcs 3 (by simp [exC, svC])), cell_later hu (hcs 4 (by simp [exC, svC])), cell_later hu (hcs 5 (by simp [exC, svC])), cell_later hu (hcs 6 (by simp [exC, svC])), cell_later hu (hcs 7 (by simp [exC, svC])), cell_later hu (hcs 8 (by simp [exC, svC])), cell_later hu (hcs 9 (by simp [exC, svC])), cell_later hu (hcs 10 (by simp [exC, svC])), cell_later hu (hcs 11 (by simp [exC, svC])), cell_later hu (hcs 12 (by simp [exC, svC]))⟩, fun w1 hb1 => hone i hi w1 hb1 _ _ _ _ _ _ _ _ _ _ _ _ _ _ _ _ _ _ _ _ _ _ _ _ _ _ _ _ _ ⟨his.keep fun k _ hk => hb1.block k hk, hin⟩⟩
    clear hrow hone
    go_enter Tryz.func50, Tryz.ntmps50
    go_wp2
    go_loopw [9] (fun v9 wr => ∃ (k : Nat), k ≤ L.length ∧ v9 = .int .i64 k ∧ Below w.heap.size w wr) (fun i _ => L.length - (intOf i).toNat)
    case atStart => exact ⟨0, Nat.zero_le _, rfl, Below.refl _ _⟩
    case round =>
      obtain ⟨k, hk, rfl, hB⟩ := hrel
      by_cases hlt : k < L.length
      · obtain ⟨sk, stb, snm, coa, con, coc, taa, tan, tac, vaa, van, vac, ita, itn, itc, sjn, ona, onn, onc, wha, whn, whc, oda, odn, odc, sds, nna, nnn, nnc, ⟨x0, x1, x2, x3, x4, x5, x6, x7, x8, x9, x10, x11, x12⟩, HO⟩ := HR.out wr hB k hlt
        have hkI : (k : Int) < (L.length : Int) := by omega
        have hbx := bal (Below.refl _ wr) (.cells #[.int .i64 sk, .string stb, .string snm, .slice coa con coc, .slice taa tan tac, .slice vaa van vac, .slice ita itn itc, .string sjn, .slice ona onn onc, .slice wha whn whc, .slice oda odn odc, .bool sds, .slice nna nnn nnc] 48)
        have hbk : Blk (wr.alloc (.cells #[.int .i64 sk, .string stb, .string snm, .slice coa con coc, .slice taa tan tac, .slice vaa van vac, .slice ita itn itc, .string sjn, .slice ona onn onc, .slice wha whn whc, .slice oda odn odc, .bool sds, .slice nna nnn nnc] 48)) wr.heap.size (.cells #[.int .i64 sk, .string stb, .string snm, .slice coa con coc, .slice taa tan tac, .slice vaa van vac, .slice ita itn itc, .string sjn, .slice ona onn onc, .slice wha whn whc, .slice oda odn odc, .bool sds, .slice nna nnn nnc] 48) := Blk.new wr _
        have hB2 := Below.on hB hbx
        have HH : Hid _ := hid (HO _ hB2)
        clear HO HR hbx
        go_upto_region 4 with fail
        generalize wr.alloc (.cells #[.int .i64 sk, .string stb, .string snm, .slice coa con coc, .slice taa tan tac, .slice vaa van vac, .slice ita itn itc, .string sjn, .slice ona onn onc, .slice wha whn whc, .slice oda odn odc, .bool sds, .slice nna nnn nnc] 48) = W at *
        clear x0 x1 x2 x3 x4 x5 x6 x7 x8 x9 x10 x11 x12
        generalize wr.heap.size = q at *
        have y0 := hbk.cell 0
        have y1 := hbk.cell 1
        have y2 := hbk.cell 2
        have y3 := hbk.cell 3
        have y4 := hbk.cell 4
        have y5 := hbk.cell 5
        have y6 := hbk.cell 6
        have y7 := hbk.cell 7
        have y8 := hbk.cell 8
        have y9 := hbk.cell 9
        have y10 := hbk.cell 10
        have y11 := hbk.cell 11
        have y12 := hbk.cell 12
        simp at y0 y1 y2 y3 y4 y5 y6 y7 y8 y9 y10 y11 y12
        clear hbk
        go_wp2_with fail
        refine Calls.mono HH.out ?_
        rintro e w1 ⟨rfl, hb1⟩
        have hB3 := Below.on hB2 hb1
        clear HH hb1 y0 y1 y2 y3 y4 y5 y6 y7 y8 y9 y10 y11 y12 hB hB2
        go_wp2
        go_roundw
        case rel => exact ⟨k + 1, hlt, by go_num, hB3⟩
        case measure => simp only [intOf]; omega
      · obtain rfl : k = L.length := by omega
        clear HR
        go_wp2
        go_ret
        exact ⟨rfl, hB⟩
  · obtain rfl : L = [] := List.eq_nil_of_length_eq_zero (by omega)
    go_enter Tryz.func50, Tryz.ntmps50
    go_wp2
    go_loopw [9] (fun v9 wr => v9 = .int .i64 0 ∧ wr = w) (fun i _ => 0)
    case atStart => exact ⟨rfl, rfl⟩
    case round =>
      obtain ⟨rfl, rfl⟩ := hrel
      go_wp2
      go_ret
      exact ⟨rfl, Below.refl _ _⟩

end Go.Proofs.YtnboooaockgoiaaGreatDoor
namespace Go.Proofs.YtnboooaockgoiaaGreatDoor
open Go.RowKit
set_option linter.unusedVariables false
set_option linter.unusedSimpArgs false

theorem hmWC : ∀ args w', (callFunc 49 args).run Tryz.prog w' = .ok (.enter 49 args) w' := fun _ _ => by kernel_rfl
theorem hmWI : ∀ args w', (callFunc 54 args).run Tryz.prog w' = .ok (.enter 54 args) w' := fun _ _ => by kernel_rfl
theorem hmIC : ∀ args w', (callFunc 88 args).run Tryz.prog w' = .ok (.enter 88 args) w' := fun _ _ => by kernel_rfl
theorem hmIQ : ∀ args w', (callFunc 51 args).run Tryz.prog w' = .ok (.enter 51 args) w' := fun _ _ => by kernel_rfl
theorem hmCh : ∀ args w', (callFunc 52 args).run Tryz.prog w' = .ok (.enter 52 args) w' := fun _ _ => by kernel_rfl
theorem hmWh : ∀ args w', (callFunc 31 args).run Tryz.prog w' = .ok (.enter 31 args) w' := fun _ _ => by kernel_rfl
theorem Ex.col {Q : Nat → Prop} {w : World} {t : Tr} (ht : IsCol t) {xo xk xi : Int} {xt xb xn : ByteArray} {xa : Option Addr} {xl xc : Nat} (h : Ex Q w t (exV xo (xk, xi, xt, xb, xn) (.slice xa xl xc))) : xo = 2 := by
  obtain ⟨a, b, rfl⟩ := ht
  obtain ⟨ao, n, c, e, _⟩ := h
  unfold exV at e
  simp at e
  exact e.1
theorem allCols {Q : Nat → Prop} {w : World} {L : List Tr} {ao : Option Addr} {n c : Nat} (hr : RowIs eExpr Q w (.slice ao n c) L) (hL : ∀ t ∈ L, IsCol t) : Calls Tryz.prog 87 #[.slice ao n c, .func (.func 88) #[] #[]] w fun e w' => e = .returned (.bool true) ∧ Below w.heap.size w w' :=
  allExpr_any hmIC hr fun i hi w1 hb xo xk xi xt xb xn xa xl xc hex => by
    obtain rfl := hex.col (hL _ (List.getElem_mem hi))
    exact isColumn_any w1 xk xi xt xb xn xa xl xc
set_option maxRecDepth 100000 in
set_option maxHeartbeats 4000000 in
theorem wholeJoin_any {Q : Nat → Prop} {w : World} {m : Sm} {s : Sv} (hI : IsS Q w m s) (hj : (m.join = ⟨#[]⟩ ∧ m.on = []) ∨ (m.join ≠ ⟨#[]⟩ ∧ ∃ a b, m.on = [a, b] ∧ IsCol a ∧ IsCol b)) :
    Calls Tryz.prog 55 #[stV s] w fun e w' => e = .returned (.bool true) ∧ Below w.heap.size w w' := by
  have HI : Hid (∀ w', Below w.heap.size w w' → IsS Q w' m s) := hid fun w' hb => hI.keep fun k _ hk => hb.block k hk
  obtain ⟨mk, mtb, mnm, mco, mta, mva, mit, mjn, mon, mwh, mod, mds⟩ := m
  obtain ⟨sk, stb, snm, ⟨coa, con, coc⟩, ⟨taa, tan, tac⟩, ⟨vaa, van, vac⟩, ⟨ita, itn, itc⟩, sjn, ⟨ona, onn, onc⟩, ⟨wha, whn, whc⟩, ⟨oda, odn, odc⟩, sds, ⟨nna, nnn, nnc⟩⟩ := s
  obtain ⟨e0, e1, e2, rco, rta, rva, rit, e7, ron, rwh, rod, e11⟩ := hI
  dsimp only at *
  subst e0 e1 e2 e7 e11
  clear HI rco rta rva rit rwh rod
  rcases hj with ⟨rfl, rfl⟩ | ⟨h0, a, b, rfl, ha, hb⟩
  · have hl : onn = 0 := ron.nc.1.symm
    subst hl
    have bB : Bs (w.alloc (.cells #[.int .i64 sk, .string stb, .string snm, .slice coa con coc, .slice taa tan tac, .slice vaa van vac, .slice ita itn itc, .string ⟨#[]⟩, .slice ona 0 onc, .slice wha whn whc, .slice oda odn odc, .bool sds, .slice nna nnn nnc] 48)) w.heap.size (⟨sk, stb, snm, (coa, con, coc), (taa, tan, tac), (vaa, van, vac), (ita, itn, itc), ⟨#[]⟩, (ona, 0, onc), (wha, whn, whc), (oda, odn, odc), sds, (nna, nnn, nnc)⟩ : Sv) := Bs.new w (⟨sk, stb, snm, (coa, con, coc), (taa, tan, tac), (vaa, van, vac), (ita, itn, itc), ⟨#[]⟩, (ona, 0, onc), (wha, whn, whc), (oda, odn, odc), sds, (nna, nnn, nnc)⟩ : Sv)
    have hB := bal (Below.refl _ w) (.cells #[.int .i64 sk, .string stb, .string snm, .slice coa con coc, .slice taa tan tac, .slice vaa van vac, .slice ita itn itc, .string ⟨#[]⟩, .slice ona 0 onc, .slice wha whn whc, .slice oda odn odc, .bool sds, .slice nna nnn nnc] 48)
    unfold stV
    dsimp only
    go_enter Tryz.func55, Tryz.ntmps55
    go_upto_region 1 with fail
    generalize w.alloc (.cells #[.int .i64 sk, .string stb, .string snm, .slice coa con coc, .slice taa tan tac, .slice vaa van vac, .slice ita itn itc, .string ⟨#[]⟩, .slice ona 0 onc, .slice wha whn whc, .slice oda odn odc, .bool sds, .slice nna nnn nnc] 48) = W at *
    generalize hq : w.heap.size = q at bB ⊢
    replace hq : Hid _ := hid hq
    have c7 := bB.c7
    have c8 := bB.c8
    dsimp only at c7 c8
    go_wp2
    go_ret
    exact ⟨rfl, by first | exact hB | (rw [← hq.out]; exact hB)⟩
  · have hl : onn = 2 := ron.nc.1.symm
    subst hl
    have hia := isEmpty_ne h0
    clear h0
    have bB : Bs (w.alloc (.cells #[.int .i64 sk, .string stb, .string snm, .slice coa con coc, .slice taa tan tac, .slice vaa van vac, .slice ita itn itc, .string sjn, .slice ona 2 onc, .slice wha whn whc, .slice oda odn odc, .bool sds, .slice nna nnn nnc] 48)) w.heap.size (⟨sk, stb, snm, (coa, con, coc), (taa, tan, tac), (vaa, van, vac), (ita, itn, itc), sjn, (ona, 2, onc), (wha, whn, whc), (oda, odn, odc), sds, (nna, nnn, nnc)⟩ : Sv) := Bs.new w (⟨sk, stb, snm, (coa, con, coc), (taa, tan, tac), (vaa, van, vac), (ita, itn, itc), sjn, (ona, 2, onc), (wha, whn, whc), (oda, odn, odc), sds, (nna, nnn, nnc)⟩ : Sv)
    have hB := bal (Below.refl _ w) (.cells #[.int .i64 sk, .string stb, .string snm, .slice coa con coc, .slice taa tan tac, .slice vaa van vac, .slice ita itn itc, .string sjn, .slice ona 2 onc, .slice wha whn whc, .slice oda odn odc, .bool sds, .slice nna nnn nnc] 48)
    unfold stV
    dsimp only
    go_enter Tryz.func55, Tryz.ntmps55
    go_upto_region 1 with fail
    generalize w.alloc (.cells #[.int .i64 sk, .string stb, .string snm, .slice coa con coc, .slice taa tan tac, .slice vaa van vac, .slice ita itn itc, .string sjn, .slice ona 2 onc, .slice wha whn whc, .slice oda odn odc, .bool sds, .slice nna nnn nnc] 48) = W at *
    generalize hq : w.heap.size = q at bB ⊢
    replace hq : Hid _ := hid hq
    have c7 := bB.c7
    have c8 := bB.c8
    dsimp only at c7 c8
    have g2 : Hid _ := hid (allCols (ron.keep (by decide) fun k _ hk => hB.block k hk) (fun t ht => by rcases List.mem_cons.1 ht with rfl | ht; exact ha; rcases List.mem_cons.1 ht with rfl | ht; exact hb; cases ht))
    clear ha hb ron
    go_wp2_with fail
    refine Calls.mono g2.out ?_
    rintro e w1 ⟨rfl, hb1⟩
    replace hB := Below.on hB hb1
    clear g2 hb1 c7 c8 bB
    go_wp2
    go_ret
    exact ⟨rfl, by first | exact hB | (rw [← hq.out]; exact hB)⟩
set_option maxRecDepth 100000 in
set_option maxHeartbeats 4000000 in
theorem wholeOrder_any {Q : Nat → Prop} {w : World} {m : Sm} {s : Sv} (hI : IsS Q w m s) (ho : (m.desc = false ∧ m.order = []) ∨ ∃ a, m.order = [a] ∧ IsCol a) :
    Calls Tryz.prog 56 #[stV s] w fun e w' => e = .returned (.bool true) ∧ Below w.heap.size w w' := by
  have HI : Hid (∀ w', Below w.heap.size w w' → IsS Q w' m s) := hid fun w' hb => hI.keep fun k _ hk => hb.block k hk
  obtain ⟨mk, mtb, mnm, mco, mta, mva, mit, mjn, mon, mwh, mod, mds⟩ := m
  obtain ⟨sk, stb, snm, ⟨coa, con, coc⟩, ⟨taa, tan, tac⟩, ⟨vaa, van, vac⟩, ⟨ita, itn, itc⟩, sjn, ⟨ona, onn, onc⟩, ⟨wha, whn, whc⟩, ⟨oda, odn, odc⟩, sds, ⟨nna, nnn, nnc⟩⟩ := s
  obtain ⟨e0, e1, e2, rco, rta, rva, rit, e7, ron, rwh, rod, e11⟩ := hI
  dsimp only at *
  subst e0 e1 e2 e7 e11
  clear HI rco rta rva rit rwh ron
  rcases ho with ⟨rfl, rfl⟩ | ⟨a, rfl, ha⟩
  · have hl : odn = 0 := rod.nc.1.symm
    subst hl
    have bB : Bs (w.alloc (.cells #[.int .i64 sk, .string stb, .string snm, .slice coa con coc, .slice taa tan tac, .slice vaa van vac, .slice ita itn itc, .string sjn, .slice ona onn onc, .slice wha whn whc, .slice oda 0 odc, .bool false, .slice nna nnn nnc] 48)) w.heap.size (⟨sk, stb, snm, (coa, con, coc), (taa, tan, tac), (vaa, van, vac), (ita, itn, itc), sjn, (ona, onn, onc), (wha, whn, whc), (oda, 0, odc), false, (nna, nnn, nnc)⟩ : Sv) := Bs.new w (⟨sk, stb, snm, (coa, con, coc), (taa, tan, tac), (vaa, van, vac), (ita, itn, itc), sjn, (ona, onn, onc), (wha, whn, whc), (oda, 0, odc), false, (nna, nnn, nnc)⟩ : Sv)
    have hB := bal (Below.refl _ w) (.cells #[.int .i64 sk, .string stb, .string snm, .slice coa con coc, .slice taa tan tac, .slice vaa van vac, .slice ita itn itc, .string sjn, .slice ona onn onc, .slice wha whn whc, .slice oda 0 odc, .bool false, .slice nna nnn nnc] 48)
    unfold stV
    dsimp only
    go_enter Tryz.func56, Tryz.ntmps56
    go_upto_region 1 with fail
    generalize w.alloc (.cells #[.int .i64 sk, .string stb, .string snm, .slice coa con coc, .slice taa tan tac, .slice vaa van vac, .slice ita itn itc, .string sjn, .slice ona onn onc, .slice wha whn whc, .slice oda 0 odc, .bool false, .slice nna nnn nnc] 48) = W at *
    generalize hq : w.heap.size = q at bB ⊢
    replace hq : Hid _ := hid hq
    have c10 := bB.c10
    have c11 := bB.c11
    dsimp only at c10 c11
    go_wp2
    go_ret
    exact ⟨rfl, by first | exact hB | (rw [← hq.out]; exact hB)⟩
  · have hl : odn = 1 := rod.nc.1.symm
    subst hl
    have bB : Bs (w.alloc (.cells #[.int .i64 sk, .string stb, .string snm, .slice coa con coc, .slice taa tan tac, .slice vaa van vac, .slice ita itn itc, .string sjn, .slice ona onn onc, .slice wha whn whc, .slice oda 1 odc, .bool sds, .slice nna nnn nnc] 48)) w.heap.size (⟨sk, stb, snm, (coa, con, coc), (taa, tan, tac), (vaa, van, vac), (ita, itn, itc), sjn, (ona, onn, onc), (wha, whn, whc), (oda, 1, odc), sds, (nna, nnn, nnc)⟩ : Sv) := Bs.new w (⟨sk, stb, snm, (coa, con, coc), (taa, tan, tac), (vaa, van, vac), (ita, itn, itc), sjn, (ona, onn, onc), (wha, whn, whc), (oda, 1, odc), sds, (nna, nnn, nnc)⟩ : Sv)
    have hB := bal (Below.refl _ w) (.cells #[.int .i64 sk, .string stb, .string snm, .slice coa con coc, .slice taa tan tac, .slice vaa van vac, .slice ita itn itc, .string sjn, .slice ona onn onc, .slice wha whn whc, .slice oda 1 odc, .bool sds, .slice nna nnn nnc] 48)
    unfold stV
    dsimp only
    go_enter Tryz.func56, Tryz.ntmps56
    go_upto_region 1 with fail
    generalize w.alloc (.cells #[.int .i64 sk, .string stb, .string snm, .slice coa con coc, .slice taa tan tac, .slice vaa van vac, .slice ita itn itc, .string sjn, .slice ona onn onc, .slice wha whn whc, .slice oda 1 odc, .bool sds, .slice nna nnn nnc] 48) = W at *
    generalize hq : w.heap.size = q at bB ⊢
    replace hq : Hid _ := hid hq
    have c10 := bB.c10
    dsimp only at c10
    have g2 : Hid _ := hid (allCols (rod.keep (by decide) fun k _ hk => hB.block k hk) (fun t ht => by rcases List.mem_cons.1 ht with rfl | ht; exact ha; cases ht))
    clear ha rod
    go_wp2_with fail
    refine Calls.mono g2.out ?_
    rintro e w1 ⟨rfl, hb1⟩
    replace hB := Below.on hB hb1
    clear g2 hb1 c10 bB
    go_wp2
    go_ret
    exact ⟨rfl, by first | exact hB | (rw [← hq.out]; exact hB)⟩

end Go.Proofs.YtnboooaockgoiaaGreatDoor
