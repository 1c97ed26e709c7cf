import Derived.Test.YtnboooaockgoiaaGreatDoorPay
import Derived.Test.YtnboooaockgoiaaGreatDoorPat
namespace Go.Proofs.YtnboooaockgoiaaGreatDoor
open Go.RowKit
set_option linter.unusedVariables false
set_option linter.unusedSimpArgs false

set_option maxRecDepth 100000 in
set_option maxHeartbeats 4000000 in
theorem wListCol_any {g : Nat} {v : Sl} {s : Ws} {w : World} (h : Wt w g v s.1 s.2) {f : Co → Ws → Ws} (hf : ∀ x s, s.1.length ≤ (f x s).1.length) {M : Nat} (hM : ∀ args w', (callFunc M args).run Tryz.prog w' = .ok (.enter M args) w') {L : List Co} {ao : Option Addr} {n c : Nat} (hr : RowIs eCol (fun k => k < g) w (.slice ao n c) L)
    (hone : ∀ (i : Nat) (hi : i < L.length) (v1 : Sl) (s1 : Ws) (w1 : World), Wt w1 g v1 s1.1 s1.2 → Below g w w1 → (f L[i] s1).1.length ≤ 700000 → ∀ (tn : ByteArray) (tk : Int) (tr : ByteArray), L[i] = (tn, tk, tr) → Calls Tryz.prog M #[.pointer (some ⟨g, 0, none⟩), .agg #[.string tn, .int .i64 tk, .string tr]] w1 (TeS2 g v1 w1 (f L[i] s1))) (hz : (liS f L s).1.length ≤ 700000) :
    Calls Tryz.prog 90 #[.pointer (some ⟨g, 0, none⟩), .slice ao n c, .func (.func M) #[.pointer (some ⟨g, 0, none⟩)] #[]] w (TeS2 g v w (liS f L s)) := by
  obtain ⟨_, _, _, e, hn, hnc, hc, hrow⟩ := hr
  cases e
  subst hn
  have HB : Hid (∀ w', WUp g v w w' → Below g w w') := hid fun w' hu => hu.below (Nat.le_of_lt h.lt) fun b e => (h.blk b e).1
  by_cases hL : 0 < L.length
  · obtain ⟨b, o, rfl, hb, hrow⟩ := hrow hL
    have HR : Hid (∀ w', WUp g v w w' → ∀ i (hi : i < L.length), ∃ (tn : ByteArray) (tk : Int) (tr : ByteArray), (w'.cell? ⟨b, o + i * 3, none⟩ = some (.string tn) ∧ w'.cell? ⟨b, o + i * 3 + 1, none⟩ = some (.int .i64 tk) ∧ w'.cell? ⟨b, o + i * 3 + 2, none⟩ = some (.string tr)) ∧ ∀ (v1 : Sl) (s1 : Ws) (w1 : World), Wt w1 g v1 s1.1 s1.2 → Below g w w1 → (f L[i] s1).1.length ≤ 700000 → Calls Tryz.prog M #[.pointer (some ⟨g, 0, none⟩), .agg #[.string tn, .int .i64 tk, .string tr]] w1 (TeS2 g v1 w1 (f L[i] s1))) := hid fun w' hu i hi => by
      obtain ⟨cs, he, hl, hcs⟩ := hrow i hi
      have he : cs = [.string L[i].1, .int .i64 L[i].2.1, .string L[i].2.2] := he
      subst he
      have hk := (HB.out w' hu).block b hb
      exact ⟨L[i].1, L[i].2.1, L[i].2.2, ⟨(World.cell?_of_block (a := ⟨b, _, none⟩) hk).trans (hcs 0 (by simp [exC, svC])), (World.cell?_of_block (a := ⟨b, _, none⟩) hk).trans (hcs 1 (by simp [exC, svC])), (World.cell?_of_block (a := ⟨b, _, none⟩) hk).trans (hcs 2 (by simp [exC, svC]))⟩, fun v1 s1 w1 hw1 hb1 hz1 => hone i hi v1 s1 w1 hw1 hb1 hz1 _ _ _ rfl⟩
    clear hrow hone
    go_enter Tryz.func90, Tryz.ntmps90
    go_wp2
    go_loopw [10] (fun v10 wr => ∃ (k : Nat) (v2 : Sl), k ≤ L.length ∧ v10 = .int .i64 k ∧ Wt wr g v2 (liS f (L.take k) s).1 (liS f (L.take k) s).2 ∧ WUp g v w wr ∧ WKp v v2 w.heap.size) (fun i _ => L.length - (intOf i).toNat)
    case atStart => exact ⟨0, v, Nat.zero_le _, rfl, h, WUp.refl _ _ _, WKp.refl _ _⟩
    case round =>
      clear h
      obtain ⟨k, v2, hk, rfl, hW, hU, hK⟩ := hrel
      by_cases hlt : k < L.length
      · obtain ⟨tn, tk, tr, ⟨x0, x1, x2⟩, HO⟩ := HR.out wr hU k hlt
        have hkI : (k : Int) < (L.length : Int) := by omega
        have h1 := liS_le hf L k s
        have h2 := liS_le hf L (k + 1) s
        have hlq := hW.lt
        have hbq : ∀ q, (slV v2).ownBlock = some q → q < wr.heap.size := fun q e => (hW.blk q e).2
        have hbx := bal (Below.refl _ wr) (.cells #[.string tn, .int .i64 tk, .string tr] 62)
        have hbk : Blk (wr.alloc (.cells #[.string tn, .int .i64 tk, .string tr] 62)) wr.heap.size (.cells #[.string tn, .int .i64 tk, .string tr] 62) := Blk.new wr _
        have hWx := hW.later hbx
        have hUx : WUp g v w (wr.alloc (.cells #[.string tn, .int .i64 tk, .string tr] 62)) := hU.trans (WUp.of hbx) hK
        have hKx : WKp v v2 w.heap.size := hK
        have hsz : w.heap.size ≤ wr.heap.size := hU.size
        replace HO : Hid _ := hid HO
        clear hW
        by_cases hk0 : k = 0
        · subst hk0
          simp only [Nat.zero_mul, Nat.add_zero] at x0 x1 x2
          have hkI0 : (0 : Int) < (L.length : Int) := by omega
          have HH := HO.out v2 s _ hWx (HB.out _ hUx) (by rw [← liS_zero f hlt s]; exact Nat.le_trans h2 hz)
          rw [← liS_zero f hlt s] at HH
          replace HH : Hid _ := hid HH
          clear h1 h2 hWx HO HR hf
          go_upto_region 5 with fail
          generalize wr.alloc (.cells #[.string tn, .int .i64 tk, .string tr] 62) = W at *
          clear x0 x1 x2
          generalize wr.heap.size = q at *
          have y0 := hbk.cell 0
          have y1 := hbk.cell 1
          have y2 := hbk.cell 2
          simp at y0 y1 y2
          clear hbk hbx
          go_wp2_with fail
          refine Calls.mono HH.out ?_
          rintro e w1 ⟨v1, rfl, hW1, hU1, hK1⟩
          have hU2 := hUx.trans hU1 hKx
          have hK2 := hKx.trans hK1 hUx.size
          clear HH hU1 hK1 y0 y1 y2
          replace hW1 : Hid _ := hid hW1
          go_wp2
          go_roundw
          case rel => exact ⟨1, v1, hlt, by go_num, hW1.out, hU2, hK2⟩
          case measure => simp only [intOf]; omega
        · have hkp : 0 < k := by omega
          have hkpI : (0 : Int) < (k : Int) := by omega
          have H : Hid _ := hid (put1 hWx ⟨#[44]⟩ (by have : (catN [⟨#[44]⟩]).length = 1 := rfl; omega))
          have HN : Hid (∀ v1 w1, Wt w1 g v1 (puS [⟨#[44]⟩] (liS f (L.take k) s)).1 (puS [⟨#[44]⟩] (liS f (L.take k) s)).2 → WUp g v w w1 → _) := hid fun v1 w1 hw1 hu1 => HO.out v1 _ w1 hw1 (HB.out w1 hu1) (by rw [← liS_take f hkp hlt s]; exact Nat.le_trans h2 hz)
          rw [← liS_take f hkp hlt s] at HN
          clear h1 h2 hWx HO HR hf
          go_upto_region 4 with fail
          generalize wr.alloc (.cells #[.string tn, .int .i64 tk, .string tr] 62) = W at *
          clear x0 x1 x2
          have hbl := hbk.lt
          generalize wr.heap.size = q at *
          go_wp2_with fail
          refine Calls.mono H.out ?_
          rintro e w1 ⟨v1, rfl, hW1, hU1, hK1⟩
          have hU2 := hUx.trans hU1 hKx
          have hK2 := hKx.trans hK1 hUx.size
          replace hbk := hbk.keep (hU1.block q hbl (by omega) (fun e => by have := hbq q e.symm; omega))
          have y0 := hbk.cell 0
          have y1 := hbk.cell 1
          have y2 := hbk.cell 2
          simp at y0 y1 y2
          have H2 : Hid _ := hid (HN.out v1 w1 hW1 hU2)
          clear H hU1 hK1 hW1 HN hbk hbx
          go_wp2_with fail
          refine Calls.mono H2.out ?_
          rintro e w2 ⟨v3, rfl, hW3, hU3, hK3⟩
          have hU4 := hU2.trans hU3 hK2
          have hK4 := hK2.trans hK3 hU2.size
          clear H2 hU3 hK3 y0 y1 y2
          replace hW3 : Hid _ := hid hW3
          go_wp2
          go_roundw
          case rel => exact ⟨k + 1, v3, hlt, by go_num, hW3.out, hU4, hK4⟩
          case measure => simp only [intOf]; omega
      · obtain rfl : k = L.length := by omega
        rw [List.take_length] at hW
        go_wp2
        exact bodyPost_end (results_none rfl _ _ _) rfl ⟨_, rfl, hW, hU, hK⟩
  · obtain rfl : L = [] := List.eq_nil_of_length_eq_zero (by omega)
    go_enter Tryz.func90, Tryz.ntmps90
    go_wp2
    go_loopw [10] (fun v10 wr => v10 = .int .i64 0 ∧ wr = w) (fun i _ => 0)
    case atStart => exact ⟨rfl, rfl⟩
    case round =>
      obtain ⟨rfl, rfl⟩ := hrel
      go_wp2
      exact bodyPost_end (results_none rfl _ _ _) rfl ⟨_, rfl, h, WUp.refl _ _ _, WKp.refl _ _⟩

end Go.Proofs.YtnboooaockgoiaaGreatDoor
namespace Go.Proofs.YtnboooaockgoiaaGreatDoor
open Go.RowKit
set_option linter.unusedVariables false
set_option linter.unusedSimpArgs false

set_option maxRecDepth 100000 in
set_option maxHeartbeats 4000000 in
theorem wListItem_any {g : Nat} {v : Sl} {s : Ws} {w : World} (h : Wt w g v s.1 s.2) {f : It → Ws → Ws} (hf : ∀ x s, s.1.length ≤ (f x s).1.length) {M : Nat} (hM : ∀ args w', (callFunc M args).run Tryz.prog w' = .ok (.enter M args) w') {L : List It} {ao : Option Addr} {n c : Nat} (hr : RowIs eItem (fun k => k < g) w (.slice ao n c) L)
    (hone : ∀ (i : Nat) (hi : i < L.length) (v1 : Sl) (s1 : Ws) (w1 : World), Wt w1 g v1 s1.1 s1.2 → Below g w w1 → (f L[i] s1).1.length ≤ 700000 → ∀ (ta : Int) (tt : ByteArray) (tn : ByteArray), L[i] = (ta, tt, tn) → Calls Tryz.prog M #[.pointer (some ⟨g, 0, none⟩), .agg #[.int .i64 ta, .string tt, .string tn]] w1 (TeS2 g v1 w1 (f L[i] s1))) (hz : (liS f L s).1.length ≤ 700000) :
    Calls Tryz.prog 94 #[.pointer (some ⟨g, 0, none⟩), .slice ao n c, .func (.func M) #[.pointer (some ⟨g, 0, none⟩)] #[]] w (TeS2 g v w (liS f L s)) := by
  obtain ⟨_, _, _, e, hn, hnc, hc, hrow⟩ := hr
  cases e
  subst hn
  have HB : Hid (∀ w', WUp g v w w' → Below g w w') := hid fun w' hu => hu.below (Nat.le_of_lt h.lt) fun b e => (h.blk b e).1
  by_cases hL : 0 < L.length
  · obtain ⟨b, o, rfl, hb, hrow⟩ := hrow hL
    have HR : Hid (∀ w', WUp g v w w' → ∀ i (hi : i < L.length), ∃ (ta : Int) (tt : ByteArray) (tn : ByteArray), (w'.cell? ⟨b, o + i * 3, none⟩ = some (.int .i64 ta) ∧ w'.cell? ⟨b, o + i * 3 + 1, none⟩ = some (.string tt) ∧ w'.cell? ⟨b, o + i * 3 + 2, none⟩ = some (.string tn)) ∧ ∀ (v1 : Sl) (s1 : Ws) (w1 : World), Wt w1 g v1 s1.1 s1.2 → Below g w w1 → (f L[i] s1).1.length ≤ 700000 → Calls Tryz.prog M #[.pointer (some ⟨g, 0, none⟩), .agg #[.int .i64 ta, .string tt, .string tn]] w1 (TeS2 g v1 w1 (f L[i] s1))) := hid fun w' hu i hi => by
      obtain ⟨cs, he, hl, hcs⟩ := hrow i hi
      have he : cs = [.int .i64 L[i].1, .string L[i].2.1, .string L[i].2.2] := he
      subst he
      have hk := (HB.out w' hu).block b hb
      exact ⟨L[i].1, L[i].2.1, L[i].2.2, ⟨(World.cell?_of_block (a := ⟨b, _, none⟩) hk).trans (hcs 0 (by simp [exC, svC])), (World.cell?_of_block (a := ⟨b, _, none⟩) hk).trans (hcs 1 (by simp [exC, svC])), (World.cell?_of_block (a := ⟨b, _, none⟩) hk).trans (hcs 2 (by simp [exC, svC]))⟩, fun v1 s1 w1 hw1 hb1 hz1 => hone i hi v1 s1 w1 hw1 hb1 hz1 _ _ _ rfl⟩
    clear hrow hone
    go_enter Tryz.func94, Tryz.ntmps94
    go_wp2
    go_loopw [10] (fun v10 wr => ∃ (k : Nat) (v2 : Sl), k ≤ L.length ∧ v10 = .int .i64 k ∧ Wt wr g v2 (liS f (L.take k) s).1 (liS f (L.take k) s).2 ∧ WUp g v w wr ∧ WKp v v2 w.heap.size) (fun i _ => L.length - (intOf i).toNat)
    case atStart => exact ⟨0, v, Nat.zero_le _, rfl, h, WUp.refl _ _ _, WKp.refl _ _⟩
    case round =>
      clear h
      obtain ⟨k, v2, hk, rfl, hW, hU, hK⟩ := hrel
      by_cases hlt : k < L.length
      · obtain ⟨ta, tt, tn, ⟨x0, x1, x2⟩, HO⟩ := HR.out wr hU k hlt
        have hkI : (k : Int) < (L.length : Int) := by omega
        have h1 := liS_le hf L k s
        have h2 := liS_le hf L (k + 1) s
        have hlq := hW.lt
        have hbq : ∀ q, (slV v2).ownBlock = some q → q < wr.heap.size := fun q e => (hW.blk q e).2
        have hbx := bal (Below.refl _ wr) (.cells #[.int .i64 ta, .string tt, .string tn] 64)
        have hbk : Blk (wr.alloc (.cells #[.int .i64 ta, .string tt, .string tn] 64)) wr.heap.size (.cells #[.int .i64 ta, .string tt, .string tn] 64) := Blk.new wr _
        have hWx := hW.later hbx
        have hUx : WUp g v w (wr.alloc (.cells #[.int .i64 ta, .string tt, .string tn] 64)) := hU.trans (WUp.of hbx) hK
        have hKx : WKp v v2 w.heap.size := hK
        have hsz : w.heap.size ≤ wr.heap.size := hU.size
        replace HO : Hid _ := hid HO
        clear hW
        by_cases hk0 : k = 0
        · subst hk0
          simp only [Nat.zero_mul, Nat.add_zero] at x0 x1 x2
          have hkI0 : (0 : Int) < (L.length : Int) := by omega
          have HH := HO.out v2 s _ hWx (HB.out _ hUx) (by rw [← liS_zero f hlt s]; exact Nat.le_trans h2 hz)
          rw [← liS_zero f hlt s] at HH
          replace HH : Hid _ := hid HH
          clear h1 h2 hWx HO HR hf
          go_upto_region 5 with fail
          generalize wr.alloc (.cells #[.int .i64 ta, .string tt, .string tn] 64) = W at *
          clear x0 x1 x2
          generalize wr.heap.size = q at *
          have y0 := hbk.cell 0
          have y1 := hbk.cell 1
          have y2 := hbk.cell 2
          simp at y0 y1 y2
          clear hbk hbx
          go_wp2_with fail
          refine Calls.mono HH.out ?_
          rintro e w1 ⟨v1, rfl, hW1, hU1, hK1⟩
          have hU2 := hUx.trans hU1 hKx
          have hK2 := hKx.trans hK1 hUx.size
          clear HH hU1 hK1 y0 y1 y2
          replace hW1 : Hid _ := hid hW1
          go_wp2
          go_roundw
          case rel => exact ⟨1, v1, hlt, by go_num, hW1.out, hU2, hK2⟩
          case measure => simp only [intOf]; omega
        · have hkp : 0 < k := by omega
          have hkpI : (0 : Int) < (k : Int) := by omega
          have H : Hid _ := hid (put1 hWx ⟨#[44]⟩ (by have : (catN [⟨#[44]⟩]).length = 1 := rfl; omega))
          have HN : Hid (∀ v1 w1, Wt w1 g v1 (puS [⟨#[44]⟩] (liS f (L.take k) s)).1 (puS [⟨#[44]⟩] (liS f (L.take k) s)).2 → WUp g v w w1 → _) := hid fun v1 w1 hw1 hu1 => HO.out v1 _ w1 hw1 (HB.out w1 hu1) (by rw [← liS_take f hkp hlt s]; exact Nat.le_trans h2 hz)
          rw [← liS_take f hkp hlt s] at HN
          clear h1 h2 hWx HO HR hf
          go_upto_region 4 with fail
          generalize wr.alloc (.cells #[.int .i64 ta, .string tt, .string tn] 64) = W at *
          clear x0 x1 x2
          have hbl := hbk.lt
          generalize wr.heap.size = q at *
          go_wp2_with fail
          refine Calls.mono H.out ?_
          rintro e w1 ⟨v1, rfl, hW1, hU1, hK1⟩
          have hU2 := hUx.trans hU1 hKx
          have hK2 := hKx.trans hK1 hUx.size
          replace hbk := hbk.keep (hU1.block q hbl (by omega) (fun e => by have := hbq q e.symm; omega))
          have y0 := hbk.cell 0
          have y1 := hbk.cell 1
          have y2 := hbk.cell 2
          simp at y0 y1 y2
          have H2 : Hid _ := hid (HN.out v1 w1 hW1 hU2)
          clear H hU1 hK1 hW1 HN hbk hbx
          go_wp2_with fail
          refine Calls.mono H2.out ?_
          rintro e w2 ⟨v3, rfl, hW3, hU3, hK3⟩
          have hU4 := hU2.trans hU3 hK2
          have hK4 := hK2.trans hK3 hU2.size
          clear H2 hU3 hK3 y0 y1 y2
          replace hW3 : Hid _ := hid hW3
          go_wp2
          go_roundw
          case rel => exact ⟨k + 1, v3, hlt, by go_num, hW3.out, hU4, hK4⟩
          case measure => simp only [intOf]; omega
      · obtain rfl : k = L.length := by omega
        rw [List.take_length] at hW
        go_wp2
        exact bodyPost_end (results_none rfl _ _ _) rfl ⟨_, rfl, hW, hU, hK⟩
  · obtain rfl : L = [] := List.eq_nil_of_length_eq_zero (by omega)
    go_enter Tryz.func94, Tryz.ntmps94
    go_wp2
    go_loopw [10] (fun v10 wr => v10 = .int .i64 0 ∧ wr = w) (fun i _ => 0)
    case atStart => exact ⟨rfl, rfl⟩
    case round =>
      obtain ⟨rfl, rfl⟩ := hrel
      go_wp2
      exact bodyPost_end (results_none rfl _ _ _) rfl ⟨_, rfl, h, WUp.refl _ _ _, WKp.refl _ _⟩

end Go.Proofs.YtnboooaockgoiaaGreatDoor
namespace Go.Proofs.YtnboooaockgoiaaGreatDoor
open Go.RowKit
set_option linter.unusedVariables false
set_option linter.unusedSimpArgs false

set_option maxRecDepth 100000 in
set_option maxHeartbeats 4000000 in
theorem wListExpr_any {g : Nat} {v : Sl} {s : Ws} {w : World} (h : Wt w g v s.1 s.2) {f : Tr → Ws → Ws} (hf : ∀ x s, s.1.length ≤ (f x s).1.length) {M : Nat} (hM : ∀ args w', (callFunc M args).run Tryz.prog w' = .ok (.enter M args) w') {L : List Tr} {ao : Option Addr} {n c : Nat} (hr : RowIs eExpr (fun k => k < g) w (.slice ao n c) L)
    (hone : ∀ (i : Nat) (hi : i < L.length) (v1 : Sl) (s1 : Ws) (w1 : World), Wt w1 g v1 s1.1 s1.2 → Below g w w1 → (f L[i] s1).1.length ≤ 700000 → ∀ (xo : Int) (xk : Int) (xi : Int) (xt : ByteArray) (xb : ByteArray) (xn : ByteArray) (xa : Option Addr) (xl : Nat) (xc : Nat), Ex (fun k => k < g) w1 L[i] (exV xo (xk, xi, xt, xb, xn) (.slice xa xl xc)) → Calls Tryz.prog M #[.pointer (some ⟨g, 0, none⟩), .agg #[.int .i64 xo, .int .i64 xk, .int .i64 xi, .string xt, .string xb, .string xn, .slice xa xl xc]] w1 (TeS2 g v1 w1 (f L[i] s1))) (hz : (liS f L s).1.length ≤ 700000) :
    Calls Tryz.prog 65 #[.pointer (some ⟨g, 0, none⟩), .slice ao n c, .func (.func M) #[.pointer (some ⟨g, 0, none⟩)] #[]] w (TeS2 g v w (liS f L s)) := by
  obtain ⟨_, _, _, e, hn, hnc, hc, hrow⟩ := hr
  cases e
  subst hn
  have HB : Hid (∀ w', WUp g v w w' → Below g w w') := hid fun w' hu => hu.below (Nat.le_of_lt h.lt) fun b e => (h.blk b e).1
  by_cases hL : 0 < L.length
  · obtain ⟨b, o, rfl, hb, hrow⟩ := hrow hL
    have HR : Hid (∀ w', WUp g v w w' → ∀ i (hi : i < L.length), ∃ (xo : Int) (xk : Int) (xi : Int) (xt : ByteArray) (xb : ByteArray) (xn : ByteArray) (xa : Option Addr) (xl : Nat) (xc : Nat), (w'.cell? ⟨b, o + i * 7, none⟩ = some (.int .i64 xo) ∧ w'.cell? ⟨b, o + i * 7 + 1, none⟩ = some (.int .i64 xk) ∧ w'.cell? ⟨b, o + i * 7 + 2, none⟩ = some (.int .i64 xi) ∧ w'.cell? ⟨b, o + i * 7 + 3, none⟩ = some (.string xt) ∧ w'.cell? ⟨b, o + i * 7 + 4, none⟩ = some (.string xb) ∧ w'.cell? ⟨b, o + i * 7 + 5, none⟩ = some (.string xn) ∧ w'.cell? ⟨b, o + i * 7 + 6, none⟩ = some (.slice xa xl xc)) ∧ ∀ (v1 : Sl) (s1 : Ws) (w1 : World), Wt w1 g v1 s1.1 s1.2 → Below g w w1 → (f L[i] s1).1.length ≤ 700000 → Calls Tryz.prog M #[.pointer (some ⟨g, 0, none⟩), .agg #[.int .i64 xo, .int .i64 xk, .int .i64 xi, .string xt, .string xb, .string xn, .slice xa xl xc]] w1 (TeS2 g v1 w1 (f L[i] s1))) := hid fun w' hu i hi => by
      obtain ⟨cs, he, hl, hcs⟩ := hrow i hi
      obtain ⟨op, p, xa, xl, xc, rfl, hex⟩ := he
      obtain ⟨xk, xi, xt, xb, xn⟩ := p
      have hk := (HB.out w' hu).block b hb
      exact ⟨op, xk, xi, xt, xb, xn, xa, xl, xc, ⟨(World.cell?_of_block (a := ⟨b, _, none⟩) hk).trans (hcs 0 (by simp [exC, svC])), (World.cell?_of_block (a := ⟨b, _, none⟩) hk).trans (hcs 1 (by simp [exC, svC])), (World.cell?_of_block (a := ⟨b, _, none⟩) hk).trans (hcs 2 (by simp [exC, svC])), (World.cell?_of_block (a := ⟨b, _, none⟩) hk).trans (hcs 3 (by simp [exC, svC])), (World.cell?_of_block (a := ⟨b, _, none⟩) hk).trans (hcs 4 (by simp [exC, svC])), (World.cell?_of_block (a := ⟨b, _, none⟩) hk).trans (hcs 5 (by simp [exC, svC])), (World.cell?_of_block (a := ⟨b, _, none⟩) hk).trans (hcs 6 (by simp [exC, svC]))⟩, fun v1 s1 w1 hw1 hb1 hz1 => hone i hi v1 s1 w1 hw1 hb1 hz1 _ _ _ _ _ _ _ _ _ (hex.keep fun k hk _ => hb1.block k hk)⟩
    clear hrow hone
    go_enter Tryz.func65, Tryz.ntmps65
    go_wp2
    go_loopw [10] (fun v10 wr => ∃ (k : Nat) (v2 : Sl), k ≤ L.length ∧ v10 = .int .i64 k ∧ Wt wr g v2 (liS f (L.take k) s).1 (liS f (L.take k) s).2 ∧ WUp g v w wr ∧ WKp v v2 w.heap.size) (fun i _ => L.length - (intOf i).toNat)
    case atStart => exact ⟨0, v, Nat.zero_le _, rfl, h, WUp.refl _ _ _, WKp.refl _ _⟩
    case round =>
      clear h
      obtain ⟨k, v2, hk, rfl, hW, hU, hK⟩ := hrel
      by_cases hlt : k < L.length
      · obtain ⟨xo, xk, xi, xt, xb, xn, xa, xl, xc, ⟨x0, x1, x2, x3, x4, x5, x6⟩, HO⟩ := HR.out wr hU k hlt
        have hkI : (k : Int) < (L.length : Int) := by omega
        have h1 := liS_le hf L k s
        have h2 := liS_le hf L (k + 1) s
        have hlq := hW.lt
        have hbq : ∀ q, (slV v2).ownBlock = some q → q < wr.heap.size := fun q e => (hW.blk q e).2
        have hbx := bal (Below.refl _ wr) (.cells #[.int .i64 xo, .int .i64 xk, .int .i64 xi, .string xt, .string xb, .string xn, .slice xa xl xc] 43)
        have hbk : Blk (wr.alloc (.cells #[.int .i64 xo, .int .i64 xk, .int .i64 xi, .string xt, .string xb, .string xn, .slice xa xl xc] 43)) wr.heap.size (.cells #[.int .i64 xo, .int .i64 xk, .int .i64 xi, .string xt, .string xb, .string xn, .slice xa xl xc] 43) := Blk.new wr _
        have hWx := hW.later hbx
        have hUx : WUp g v w (wr.alloc (.cells #[.int .i64 xo, .int .i64 xk, .int .i64 xi, .string xt, .string xb, .string xn, .slice xa xl xc] 43)) := hU.trans (WUp.of hbx) hK
        have hKx : WKp v v2 w.heap.size := hK
        have hsz : w.heap.size ≤ wr.heap.size := hU.size
        replace HO : Hid _ := hid HO
        clear hW
        by_cases hk0 : k = 0
        · subst hk0
          simp only [Nat.zero_mul, Nat.add_zero] at x0 x1 x2 x3 x4 x5 x6
          have hkI0 : (0 : Int) < (L.length : Int) := by omega
          have HH := HO.out v2 s _ hWx (HB.out _ hUx) (by rw [← liS_zero f hlt s]; exact Nat.le_trans h2 hz)
          rw [← liS_zero f hlt s] at HH
          replace HH : Hid _ := hid HH
          clear h1 h2 hWx HO HR hf
          go_upto_region 5 with fail
          generalize wr.alloc (.cells #[.int .i64 xo, .int .i64 xk, .int .i64 xi, .string xt, .string xb, .string xn, .slice xa xl xc] 43) = W at *
          clear x0 x1 x2 x3 x4 x5 x6
          generalize wr.heap.size = q at *
          have y0 := hbk.cell 0
          have y1 := hbk.cell 1
          have y2 := hbk.cell 2
          have y3 := hbk.cell 3
          have y4 := hbk.cell 4
          have y5 := hbk.cell 5
          have y6 := hbk.cell 6
          simp at y0 y1 y2 y3 y4 y5 y6
          clear hbk hbx
          go_wp2_with fail
          refine Calls.mono HH.out ?_
          rintro e w1 ⟨v1, rfl, hW1, hU1, hK1⟩
          have hU2 := hUx.trans hU1 hKx
          have hK2 := hKx.trans hK1 hUx.size
          clear HH hU1 hK1 y0 y1 y2 y3 y4 y5 y6
          replace hW1 : Hid _ := hid hW1
          go_wp2
          go_roundw
          case rel => exact ⟨1, v1, hlt, by go_num, hW1.out, hU2, hK2⟩
          case measure => simp only [intOf]; omega
        · have hkp : 0 < k := by omega
          have hkpI : (0 : Int) < (k : Int) := by omega
          have H : Hid _ := hid (put1 hWx ⟨#[44]⟩ (by have : (catN [⟨#[44]⟩]).length = 1 := rfl; omega))
          have HN : Hid (∀ v1 w1, Wt w1 g v1 (puS [⟨#[44]⟩] (liS f (L.take k) s)).1 (puS [⟨#[44]⟩] (liS f (L.take k) s)).2 → WUp g v w w1 → _) := hid fun v1 w1 hw1 hu1 => HO.out v1 _ w1 hw1 (HB.out w1 hu1) (by rw [← liS_take f hkp hlt s]; exact Nat.le_trans h2 hz)
          rw [← liS_take f hkp hlt s] at HN
          clear h1 h2 hWx HO HR hf
          go_upto_region 4 with fail
          generalize wr.alloc (.cells #[.int .i64 xo, .int .i64 xk, .int .i64 xi, .string xt, .string xb, .string xn, .slice xa xl xc] 43) = W at *
          clear x0 x1 x2 x3 x4 x5 x6
          have hbl := hbk.lt
          generalize wr.heap.size = q at *
          go_wp2_with fail
          refine Calls.mono H.out ?_
          rintro e w1 ⟨v1, rfl, hW1, hU1, hK1⟩
          have hU2 := hUx.trans hU1 hKx
          have hK2 := hKx.trans hK1 hUx.size
          replace hbk := hbk.keep (hU1.block q hbl (by omega) (fun e => by have := hbq q e.symm; omega))
          have y0 := hbk.cell 0
          have y1 := hbk.cell 1
          have y2 := hbk.cell 2
          have y3 := hbk.cell 3
          have y4 := hbk.cell 4
          have y5 := hbk.cell 5
          have y6 := hbk.cell 6
          simp at y0 y1 y2 y3 y4 y5 y6
          have H2 : Hid _ := hid (HN.out v1 w1 hW1 hU2)
          clear H hU1 hK1 hW1 HN hbk hbx
          go_wp2_with fail
          refine Calls.mono H2.out ?_
          rintro e w2 ⟨v3, rfl, hW3, hU3, hK3⟩
          have hU4 := hU2.trans hU3 hK2
          have hK4 := hK2.trans hK3 hU2.size
          clear H2 hU3 hK3 y0 y1 y2 y3 y4 y5 y6
          replace hW3 : Hid _ := hid hW3
          go_wp2
          go_roundw
          case rel => exact ⟨k + 1, v3, hlt, by go_num, hW3.out, hU4, hK4⟩
          case measure => simp only [intOf]; omega
      · obtain rfl : k = L.length := by omega
        rw [List.take_length] at hW
        go_wp2
        exact bodyPost_end (results_none rfl _ _ _) rfl ⟨_, rfl, hW, hU, hK⟩
  · obtain rfl : L = [] := List.eq_nil_of_length_eq_zero (by omega)
    go_enter Tryz.func65, Tryz.ntmps65
    go_wp2
    go_loopw [10] (fun v10 wr => v10 = .int .i64 0 ∧ wr = w) (fun i _ => 0)
    case atStart => exact ⟨rfl, rfl⟩
    case round =>
      obtain ⟨rfl, rfl⟩ := hrel
      go_wp2
      exact bodyPost_end (results_none rfl _ _ _) rfl ⟨_, rfl, h, WUp.refl _ _ _, WKp.refl _ _⟩

end Go.Proofs.YtnboooaockgoiaaGreatDoor
