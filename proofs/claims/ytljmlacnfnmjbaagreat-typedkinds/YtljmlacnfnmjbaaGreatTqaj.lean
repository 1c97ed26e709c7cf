import Derived.Test.YtljmlacnfnmjbaaGreatTqai
import Derived.Test.YtljmlacnfnmjbaaGreatTqaa
namespace Go.Proofs.YtljmlacnfnmjbaaGreat
open Go.RowKit
set_option linter.unusedVariables false
set_option linter.unusedSimpArgs false

set_option maxRecDepth 100000 in
set_option maxHeartbeats 4000000 in
theorem maySelect_any {T : List Tbl} {m : Sq} (hB : SqB m) {w : World} {ta : Option Addr} {tn tc : Nat} {vb : Option Addr} {vm vd : Nat} (hT : IsT w T ta tn tc) {s : Sv} (hm : IsQ w m s) (hC5 : (fromC T m).length ≤ 500) :
    Calls Tryz.prog 30 #[.agg #[.slice ta tn tc, .slice vb vm vd], .agg #[.int .i64 s.k, .string s.tb, .string s.nm, .slice s.co.1 s.co.2.1 s.co.2.2, .slice s.ta.1 s.ta.2.1 s.ta.2.2, .slice s.va.1 s.va.2.1 s.va.2.2, .slice s.it.1 s.it.2.1 s.it.2.2, .string s.jn, .slice s.on.1 s.on.2.1 s.on.2.2, .slice s.wh.1 s.wh.2.1 s.wh.2.2, .slice s.od.1 s.od.2.1 s.od.2.2, .bool s.ds, .slice s.inn.1 s.inn.2.1 s.inn.2.2]] w fun en w' => en = .returned (.int .i64 (selP T m)) ∧ Below w.heap.size w w' := by
  have hw := bal (bal (Below.refl w.heap.size w) (.cells #[.slice ta tn tc, .slice vb vm vd] 38)) (.cells #[.int .i64 s.k, .string s.tb, .string s.nm, .slice s.co.1 s.co.2.1 s.co.2.2, .slice s.ta.1 s.ta.2.1 s.ta.2.2, .slice s.va.1 s.va.2.1 s.va.2.2, .slice s.it.1 s.it.2.1 s.it.2.2, .string s.jn, .slice s.on.1 s.on.2.1 s.on.2.2, .slice s.wh.1 s.wh.2.1 s.wh.2.2, .slice s.od.1 s.od.2.1 s.od.2.2, .bool s.ds, .slice s.inn.1 s.inn.2.1 s.inn.2.2] 43)
  have bs := (Bk.new w (.cells #[.slice ta tn tc, .slice vb vm vd] 38)).later (bal (Below.refl _ _) (.cells #[.int .i64 s.k, .string s.tb, .string s.nm, .slice s.co.1 s.co.2.1 s.co.2.2, .slice s.ta.1 s.ta.2.1 s.ta.2.2, .slice s.va.1 s.va.2.1 s.va.2.2, .slice s.it.1 s.it.2.1 s.it.2.2, .string s.jn, .slice s.on.1 s.on.2.1 s.on.2.2, .slice s.wh.1 s.wh.2.1 s.wh.2.2, .slice s.od.1 s.od.2.1 s.od.2.2, .bool s.ds, .slice s.inn.1 s.inn.2.1 s.inn.2.2] 43))
  have bq := Bk.new (w.alloc (.cells #[.slice ta tn tc, .slice vb vm vd] 38)) (.cells #[.int .i64 s.k, .string s.tb, .string s.nm, .slice s.co.1 s.co.2.1 s.co.2.2, .slice s.ta.1 s.ta.2.1 s.ta.2.2, .slice s.va.1 s.va.2.1 s.va.2.2, .slice s.it.1 s.it.2.1 s.it.2.2, .string s.jn, .slice s.on.1 s.on.2.1 s.on.2.2, .slice s.wh.1 s.wh.2.1 s.wh.2.2, .slice s.od.1 s.od.2.1 s.od.2.2, .bool s.ds, .slice s.inn.1 s.inn.2.1 s.inn.2.2] 43)
  rw [World.size_alloc] at bq
  generalize hW : (w.alloc (.cells #[.slice ta tn tc, .slice vb vm vd] 38)).alloc (.cells #[.int .i64 s.k, .string s.tb, .string s.nm, .slice s.co.1 s.co.2.1 s.co.2.2, .slice s.ta.1 s.ta.2.1 s.ta.2.2, .slice s.va.1 s.va.2.1 s.va.2.2, .slice s.it.1 s.it.2.1 s.it.2.2, .string s.jn, .slice s.on.1 s.on.2.1 s.on.2.2, .slice s.wh.1 s.wh.2.1 s.wh.2.2, .slice s.od.1 s.od.2.1 s.od.2.2, .bool s.ds, .slice s.inn.1 s.inn.2.1 s.inn.2.2] 43) = W at hw bs bq
  replace hT := hT.later hw
  replace hm := hm.later hw
  have y0 := bs.cell 0
  have y1 := bs.cell 1
  have z0 := bq.cell 0
  have z1 := bq.cell 1
  have z2 := bq.cell 2
  have z3 := bq.cell 3
  have z4 := bq.cell 4
  have z5 := bq.cell 5
  have z6 := bq.cell 6
  have z7 := bq.cell 7
  have z8 := bq.cell 8
  have z9 := bq.cell 9
  have z10 := bq.cell 10
  have z11 := bq.cell 11
  have z12 := bq.cell 12
  simp only [List.getElem?_toArray, List.getElem?_cons_zero, List.getElem?_cons_succ] at y0 y1 z0 z1 z2 z3 z4 z5 z6 z7 z8 z9 z10 z11 z12
  have HFr := from_any hB hT hm (vb := vb) (vm := vm) (vd := vd)
  have HQ : Hid (∀ w', Below W.heap.size W w' → IsQ w' m s) := hid fun w' hb => hm.later hb
  have HF : Hid (selP T m = if fromE T m ≠ 0 then fromE T m else erL [onCP (fromC T m) m.on, itmsP (fromC T m) m.items m.order.length, whP (fromC T m) m.wh, orderKP (fromC T m) m.order]) := hid rfl
  obtain ⟨r1, r2, r3⟩ := hm.od.lens
  obtain ⟨l6a, l6b, l6c⟩ := hm.it.lens
  have l8 := hm.on.lens
  have l9 := hm.wh.lens
  rw [r1] at HF
  generalize selP T m = R at *
  generalize fromE T m = E at *
  generalize fromC T m = C at *
  clear hT bs bq
  have H1 : Hid (∀ (a : Option Addr) (n c : Nat) w', Below W.heap.size W w' → RowIs eClm (fun _ => True) w' (.slice a n c) C → _) := hid fun a n c w' hb hr => onK_any hC5 hB.on hr (hm.later hb).on
  have H2 : Hid (∀ (a : Option Addr) (n c : Nat) w', Below W.heap.size W w' → RowIs eClm (fun _ => True) w' (.slice a n c) C → _) := hid fun a n c w' hb hr => items_any hC5 hB.it hr (hm.later hb).it s.od.1 s.od.2.1 s.od.2.2 r2 r3
  have H3 : Hid (∀ (a : Option Addr) (n c : Nat) w', Below W.heap.size W w' → RowIs eClm (fun _ => True) w' (.slice a n c) C → _) := hid fun a n c w' hb hr => where_any hC5 hB.wh hr (hm.later hb).wh
  have H4 : Hid (∀ (a : Option Addr) (n c : Nat) w', Below W.heap.size W w' → RowIs eClm (fun _ => True) w' (.slice a n c) C → _) := hid fun a n c w' hb hr => order_any hC5 hB.od hr (hm.later hb).od
  replace HFr : Hid _ := hid HFr
  clear hm r1
  obtain ⟨sk, stb, snm, sco, sta, sva, ⟨it0, it1, it2⟩, sjn, ⟨on0, on1, on2⟩, ⟨wh0, wh1, wh2⟩, ⟨od0, od1, od2⟩, sds, sinn⟩ := s
  dsimp only at *
  generalize onCP C m.on = e1 at *
  generalize itmsP C m.items od1 = e2 at *
  generalize whP C m.wh = e3 at *
  generalize orderKP C m.order = e4 at *
  clear HQ
  go_enter Tryz.func30, Tryz.ntmps30
  go_upto_region 1 with fail
  go_wp2_with fail
  refine Calls.mono HFr.out ?_
  rintro e w4 ⟨a4, n4, c4, rfl, hb4, hr4⟩
  have HR4 : Hid _ := hid hr4
  have v6 := cell_later hb4 z6
  have v8 := cell_later hb4 z8
  have v9 := cell_later hb4 z9
  have v10 := cell_later hb4 z10
  clear HFr hr4 z0 z1 z2 z3 z4 z5 z6 z7 z8 z9 z10 z11 z12 y0 y1
  by_cases he : E = 0
  · subst he
    have hRe : erL [e1, e2, e3, e4] = R := by rw [HF.out, if_neg (by simp)]
    have hr := HR4.out (by first | rfl | trivial)
    have G1 : Hid (∀ w', Below w4.heap.size w4 w' → _) := hid fun w' hb => H1.out a4 n4 c4 w' (Below.on hb4 hb) (hr.keep (by decide) fun b _ hl => hb.block b hl)
    have G2 : Hid (∀ w', Below w4.heap.size w4 w' → _) := hid fun w' hb => H2.out a4 n4 c4 w' (Below.on hb4 hb) (hr.keep (by decide) fun b _ hl => hb.block b hl)
    have G3 : Hid (∀ w', Below w4.heap.size w4 w' → _) := hid fun w' hb => H3.out a4 n4 c4 w' (Below.on hb4 hb) (hr.keep (by decide) fun b _ hl => hb.block b hl)
    have G4 : Hid (∀ w', Below w4.heap.size w4 w' → _) := hid fun w' hb => H4.out a4 n4 c4 w' (Below.on hb4 hb) (hr.keep (by decide) fun b _ hl => hb.block b hl)
    have hB4 := Below.on hw hb4
    have HOr := fun (w' : World) => or_any (l := [e1, e2, e3, e4]) (by simp) (row4_int w'.heap.size (cell_new w' #[.int .i64 e1, .int .i64 e2, .int .i64 e3, .int .i64 e4] 31 (0, 0) 0) (cell_new w' #[.int .i64 e1, .int .i64 e2, .int .i64 e3, .int .i64 e4] 31 (0, 0) 1) (cell_new w' #[.int .i64 e1, .int .i64 e2, .int .i64 e3, .int .i64 e4] 31 (0, 0) 2) (cell_new w' #[.int .i64 e1, .int .i64 e2, .int .i64 e3, .int .i64 e4] 31 (0, 0) 3))
    simp only [hRe] at HOr
    replace HOr : Hid _ := hid HOr
    clear hRe
    have hC : Below w4.heap.size w4 w4.drew := (Below.refl _ w4).drew
    clear H1 H2 H3 H4 HF HR4 hr hb4 hw hW
    generalize w.heap.size + 1 = q at *
    go_upto_region 4 with fail
    go_region_held (fun w' => w'.cell? ⟨q, 6, none⟩ = some (.slice it0 it1 it2) ∧ w'.cell? ⟨q, 8, none⟩ = some (.slice on0 on1 on2) ∧ w'.cell? ⟨q, 9, none⟩ = some (.slice wh0 wh1 wh2) ∧ w'.cell? ⟨q, 10, none⟩ = some (.slice od0 od1 od2))
      (first | exact ⟨cell_later hC v6, cell_later hC v8, cell_later hC v9, cell_later hC v10⟩ | exact ⟨cell_later (bal hC _) v6, cell_later (bal hC _) v8, cell_later (bal hC _) v9, cell_later (bal hC _) v10⟩)
      (first
      | (go_at_call 64; with_reducible refine Calls.mono (G1.out _ hC) ?_; rintro e z1 ⟨rfl, hb1⟩; replace hC := Below.on hC hb1)
      | (go_at_call 65; with_reducible refine Calls.mono (G2.out _ hC) ?_; rintro e z1 ⟨rfl, hb1⟩; replace hC := Below.on hC hb1)
      | (go_at_call 66; with_reducible refine Calls.mono (G3.out _ hC) ?_; rintro e z1 ⟨rfl, hb1⟩; replace hC := Below.on hC hb1)
      | (go_at_call 67; with_reducible refine Calls.mono (G4.out _ hC) ?_; rintro e z1 ⟨rfl, hb1⟩; replace hC := Below.on hC hb1)
      | (go_at_call 63; with_reducible refine Calls.mono (HOr.out _) ?_; rintro e z1 ⟨rfl, hb1⟩; replace hC := Below.on (bal hC _) hb1))
    all_goals
      go_wp2
      go_ret
      exact ⟨rfl, Below.on hB4 hC⟩
  · obtain rfl : R = E := by rw [HF.out, if_pos he]
    have ge : decide (R = 0) = false := by simpa using he
    have gn : (R != 0) = true := by simpa using he
    clear H1 H2 H3 H4 HF HR4
    go_wp2
    go_ret
    exact ⟨rfl, Below.on hw hb4⟩

end Go.Proofs.YtljmlacnfnmjbaaGreat
namespace Go.Proofs.YtljmlacnfnmjbaaGreat
open Go.RowKit
set_option linter.unusedVariables false
set_option linter.unusedSimpArgs false

end Go.Proofs.YtljmlacnfnmjbaaGreat
namespace Go.Proofs.YtljmlacnfnmjbaaGreat
open Go.RowKit
set_option linter.unusedVariables false
set_option linter.unusedSimpArgs false

set_option maxRecDepth 100000 in
set_option maxHeartbeats 4000000 in
theorem check_sel {T : List Tbl} {m : Sq} (hB : SqB m) {w : World} {ta : Option Addr} {tn tc : Nat} {vb : Option Addr} {vm vd : Nat} (hT : IsT w T ta tn tc) {s : Sv} (hm : IsQ w m s) (hk : m.kind = 6) (hC5 : (fromC T m).length ≤ 500) :
    Calls Tryz.prog 15 #[.agg #[.slice ta tn tc, .slice vb vm vd], .agg #[.int .i64 s.k, .string s.tb, .string s.nm, .slice s.co.1 s.co.2.1 s.co.2.2, .slice s.ta.1 s.ta.2.1 s.ta.2.2, .slice s.va.1 s.va.2.1 s.va.2.2, .slice s.it.1 s.it.2.1 s.it.2.2, .string s.jn, .slice s.on.1 s.on.2.1 s.on.2.2, .slice s.wh.1 s.wh.2.1 s.wh.2.2, .slice s.od.1 s.od.2.1 s.od.2.2, .bool s.ds, .slice s.inn.1 s.inn.2.1 s.inn.2.2]] w fun en w' => en = .returned (.int .i64 (if formP m s.inn.2.1 then selP T m else 1)) ∧ Below w.heap.size w w' := by
  have hw := bal (bal (Below.refl w.heap.size w) (.cells #[.slice ta tn tc, .slice vb vm vd] 38)) (.cells #[.int .i64 s.k, .string s.tb, .string s.nm, .slice s.co.1 s.co.2.1 s.co.2.2, .slice s.ta.1 s.ta.2.1 s.ta.2.2, .slice s.va.1 s.va.2.1 s.va.2.2, .slice s.it.1 s.it.2.1 s.it.2.2, .string s.jn, .slice s.on.1 s.on.2.1 s.on.2.2, .slice s.wh.1 s.wh.2.1 s.wh.2.2, .slice s.od.1 s.od.2.1 s.od.2.2, .bool s.ds, .slice s.inn.1 s.inn.2.1 s.inn.2.2] 43)
  have bs := (Bk.new w (.cells #[.slice ta tn tc, .slice vb vm vd] 38)).later (bal (Below.refl _ _) (.cells #[.int .i64 s.k, .string s.tb, .string s.nm, .slice s.co.1 s.co.2.1 s.co.2.2, .slice s.ta.1 s.ta.2.1 s.ta.2.2, .slice s.va.1 s.va.2.1 s.va.2.2, .slice s.it.1 s.it.2.1 s.it.2.2, .string s.jn, .slice s.on.1 s.on.2.1 s.on.2.2, .slice s.wh.1 s.wh.2.1 s.wh.2.2, .slice s.od.1 s.od.2.1 s.od.2.2, .bool s.ds, .slice s.inn.1 s.inn.2.1 s.inn.2.2] 43))
  have bq := Bk.new (w.alloc (.cells #[.slice ta tn tc, .slice vb vm vd] 38)) (.cells #[.int .i64 s.k, .string s.tb, .string s.nm, .slice s.co.1 s.co.2.1 s.co.2.2, .slice s.ta.1 s.ta.2.1 s.ta.2.2, .slice s.va.1 s.va.2.1 s.va.2.2, .slice s.it.1 s.it.2.1 s.it.2.2, .string s.jn, .slice s.on.1 s.on.2.1 s.on.2.2, .slice s.wh.1 s.wh.2.1 s.wh.2.2, .slice s.od.1 s.od.2.1 s.od.2.2, .bool s.ds, .slice s.inn.1 s.inn.2.1 s.inn.2.2] 43)
  rw [World.size_alloc] at bq
  generalize hW : (w.alloc (.cells #[.slice ta tn tc, .slice vb vm vd] 38)).alloc (.cells #[.int .i64 s.k, .string s.tb, .string s.nm, .slice s.co.1 s.co.2.1 s.co.2.2, .slice s.ta.1 s.ta.2.1 s.ta.2.2, .slice s.va.1 s.va.2.1 s.va.2.2, .slice s.it.1 s.it.2.1 s.it.2.2, .string s.jn, .slice s.on.1 s.on.2.1 s.on.2.2, .slice s.wh.1 s.wh.2.1 s.wh.2.2, .slice s.od.1 s.od.2.1 s.od.2.2, .bool s.ds, .slice s.inn.1 s.inn.2.1 s.inn.2.2] 43) = W at hw bs bq
  replace hT := hT.later hw
  replace hm := hm.later hw
  have y0 := bs.cell 0
  have y1 := bs.cell 1
  have z0 := bq.cell 0
  have z1 := bq.cell 1
  have z2 := bq.cell 2
  have z3 := bq.cell 3
  have z4 := bq.cell 4
  have z5 := bq.cell 5
  have z6 := bq.cell 6
  have z7 := bq.cell 7
  have z8 := bq.cell 8
  have z9 := bq.cell 9
  have z10 := bq.cell 10
  have z11 := bq.cell 11
  have z12 := bq.cell 12
  simp only [List.getElem?_toArray, List.getElem?_cons_zero, List.getElem?_cons_succ] at y0 y1 z0 z1 z2 z3 z4 z5 z6 z7 z8 z9 z10 z11 z12
  have HFo : Hid _ := hid (formed_sel hB hm hk)
  have HM : Hid (formP m s.inn.2.1 = true → ∀ w', Below W.heap.size W w' → _) := hid fun hfm w' hb => (maySelect_any hB (hT.later hb) (hm.later hb) hC5 : Calls Tryz.prog 30 #[.agg #[.slice ta tn tc, .slice vb vm vd], .agg #[.int .i64 s.k, .string s.tb, .string s.nm, .slice s.co.1 s.co.2.1 s.co.2.2, .slice s.ta.1 s.ta.2.1 s.ta.2.2, .slice s.va.1 s.va.2.1 s.va.2.2, .slice s.it.1 s.it.2.1 s.it.2.2, .string s.jn, .slice s.on.1 s.on.2.1 s.on.2.2, .slice s.wh.1 s.wh.2.1 s.wh.2.2, .slice s.od.1 s.od.2.1 s.od.2.2, .bool s.ds, .slice s.inn.1 s.inn.2.1 s.inn.2.2]] w' _)
  obtain ⟨R, hR⟩ : ∃ R, (if formP m s.inn.2.1 then selP T m else 1) = R := ⟨_, rfl⟩
  rw [hR]
  have k0 : s.k = 6 := by rw [hm.k, hk]
  rw [k0] at z0
  generalize formP m s.inn.2.1 = B at *
  clear hT bs bq hB hk hC5
  obtain ⟨sk, stb, snm, ⟨co0, co1, co2⟩, ⟨ta0, ta1, ta2⟩, ⟨va0, va1, va2⟩, ⟨it0, it1, it2⟩, sjn, ⟨on0, on1, on2⟩, ⟨wh0, wh1, wh2⟩, ⟨od0, od1, od2⟩, sds, ⟨in0, in1, in2⟩⟩ := s
  dsimp only at *
  subst k0
  clear hm
  cases B with
  | false =>
    have hR2 : (1 : Int) = R := hR
    subst hR2
    clear HM hR
    go_enter Tryz.func15, Tryz.ntmps15
    go_upto_region 1 with fail
    go_wp2_with fail
    refine Calls.mono HFo.out ?_
    rintro e w4 ⟨rfl, hb4⟩
    clear HFo
    go_wp2
    go_ret
    exact ⟨rfl, Below.on hw hb4⟩
  | true =>
    have hR2 : selP T m = R := hR
    clear hR
    go_enter Tryz.func15, Tryz.ntmps15
    go_upto_region 1 with fail
    go_wp2_with fail
    refine Calls.mono HFo.out ?_
    rintro e w4 ⟨rfl, hb4⟩
    have HM2 := HM.out (by first | rfl | trivial) w4 hb4
    rw [hR2] at HM2
    replace HM2 : Hid _ := hid HM2
    replace y0 := cell_later hb4 y0
    replace y1 := cell_later hb4 y1
    replace z0 := cell_later hb4 z0
    replace z1 := cell_later hb4 z1
    replace z2 := cell_later hb4 z2
    replace z3 := cell_later hb4 z3
    replace z4 := cell_later hb4 z4
    replace z5 := cell_later hb4 z5
    replace z6 := cell_later hb4 z6
    replace z7 := cell_later hb4 z7
    replace z8 := cell_later hb4 z8
    replace z9 := cell_later hb4 z9
    replace z10 := cell_later hb4 z10
    replace z11 := cell_later hb4 z11
    replace z12 := cell_later hb4 z12
    have hB4 := Below.on hw hb4
    clear HFo HM hR2 hW hb4 hw
    generalize w.heap.size + 1 = q at *
    go_wp2_with fail
    refine Calls.mono HM2.out ?_
    rintro e w5 ⟨rfl, hb5⟩
    clear HM2 y0 y1 z0 z1 z2 z3 z4 z5 z6 z7 z8 z9 z10 z11 z12
    go_wp2
    go_ret
    exact ⟨rfl, Below.on hB4 hb5⟩
end Go.Proofs.YtljmlacnfnmjbaaGreat
namespace Go.Proofs.YtljmlacnfnmjbaaGreat
open Go.RowKit
set_option linter.unusedVariables false
set_option linter.unusedSimpArgs false

def pairP (C : List It) (K : List Int) : List Cl3 := (C.zip K).map fun x => (x.1.2.1, x.1.2.2, x.2)
theorem pairP_len (C : List It) (K : List Int) : (pairP C K).length = min C.length K.length := by unfold pairP; simp
theorem pairP_take {C : List It} {K : List Int} {i : Nat} (h1 : i < C.length) (h2 : i < K.length) : (pairP C K).take (i + 1) = (pairP C K).take i ++ [(C[i].2.1, C[i].2.2, K[i])] := by
  have hl : i < (pairP C K).length := by rw [pairP_len]; omega
  rw [List.take_succ_eq_append_getElem hl]
  have e : (pairP C K)[i] = (C[i].2.1, C[i].2.2, K[i]) := by simp only [pairP, List.getElem_map, List.getElem_zip]
  rw [e]
theorem RowIs.take {α : Type} {e : Ek α} {Q : Nat → Prop} {w : World} {ao : Option Addr} {n c : Nat} {l : List α} (h : RowIs e Q w (.slice ao n c) l) {r : Nat} (hr : r ≤ n) : RowIs e Q w (.slice ao r c) (l.take r) := by
  obtain ⟨_, _, _, e', h1, h2, h3, h4⟩ := h
  cases e'
  refine ⟨ao, r, c, rfl, by rw [List.length_take]; omega, by omega, h3, fun hp => ?_⟩
  obtain ⟨b, o, ea, hq, hi⟩ := h4 (by omega)
  refine ⟨b, o, ea, hq, fun i hi' => ?_⟩
  obtain ⟨cs, g1, g2, g3⟩ := hi i (by rw [List.length_take] at hi'; omega)
  exact ⟨cs, by rw [List.getElem_take]; exact g1, g2, g3⟩
theorem slice_items {ao : Option Addr} {n c r : Nat} (hr : r ≤ n) (hc : n ≤ c) (w' : World) : (Instr.slice 22 (.slice ao n c) none (some (.int .i64 r)) none).run Tryz.prog w' = .ok (.slice ao r c) w' := by
  have e0 : ∀ a : Addr, a.add 0 = a := fun a => by unfold Addr.add; simp
  have hrc : r ≤ c := by omega
  have hrc' : (r : Int) ≤ (c : Int) := by omega
  cases ao with
  | none => go_simp
  | some a => go_simp

set_option maxRecDepth 100000 in
set_option maxHeartbeats 4000000 in
theorem paired_any {C : List It} {K : List Int} (hC : C.length ≤ 500) {Q : Nat → Prop} {w : World} {a : Option Addr} {n c : Nat} (h : RowIs eItem Q w (.slice a n c) C) {ka : Option Addr} {kn kc : Nat} (hK : RowIs eInt (fun _ => True) w (.slice ka kn kc) K) :
    Calls Tryz.prog 25 #[.slice a n c, .slice ka kn kc] w fun en w' => ∃ a2 n2 c2, en = .returned (.slice a2 n2 c2) ∧ Below w.heap.size w w' ∧ RowIs eClm (fun _ => True) w' (.slice a2 n2 c2) (pairP C K) := by
  have hw := bal (Below.refl w.heap.size w) (.cells #[.slice ka kn kc] 23)
  have d0 := cell_new w #[.slice ka kn kc] 23 (0, 0) 0
  simp only [List.getElem?_toArray, List.getElem?_cons_zero] at d0
  generalize hW : w.alloc (.cells #[.slice ka kn kc] 23) = W at hw d0
  obtain ⟨l1, l2, l3⟩ := h.lens
  obtain ⟨r1, r2, r3⟩ := hK.lens
  have hr1 : RowIs eItem Q W (.slice a (min C.length K.length) c) (C.take (min C.length K.length)) := (h.keep (by decide) fun b _ hl => hw.block b hl).take (by omega)
  have hK1 : RowIs eInt (fun _ => True) W (.slice ka kn kc) K := hK.keep (by decide) fun b _ hl => hw.block b hl
  have hcf : ∀ args w', (callFunc 50 args).run Tryz.prog w' = .ok (.enter 50 args) w' := fun args w' => by rfl
  have HC := foldItSc (by rw [List.length_take]; omega) hr1 (caps := #[.pointer (some ⟨w.heap.size, 0, none⟩)]) hcf (fun _ => 0) (fun i w' a m d => Below W.heap.size W w' ∧ OwnR 100 3 W.heap.size w' (.slice a m d) (((pairP C K).take i).map clC))
    (fun i w' a m d hI => hI.1) (fun i w' a m d o hI => ⟨bal hI.1 o, hI.2.alloc o⟩) (a0 := none) (m0 := 0) (d0 := 0) ⟨Below.refl _ _, OwnR.nil _ _ _ _⟩
    (fun i hi w' a m d cs hI hx => by
      have hi2 : i < min C.length K.length := by rw [List.length_take] at hi; omega
      have hx' : cs = [.int .i64 C[i].1, .string C[i].2.1, .string C[i].2.2] := by
        have hx2 : cs = [.int .i64 (C.take (min C.length K.length))[i].1, .string (C.take (min C.length K.length))[i].2.1, .string (C.take (min C.length K.length))[i].2.2] := hx
        rw [List.getElem_take] at hx2
        exact hx2
      subst hx'
      have hcl : (((pairP C K).take i).map clC).length = i := by rw [List.length_map, List.length_take, pairP_len]; omega
      refine Calls.mono (paired1_any C[i] hK1 d0 hI.1 hI.2 (by omega) (by omega)) ?_
      rintro en w'' ⟨a2, m2, d2, rfl, hb2, ho2⟩
      refine ⟨a2, m2, d2, rfl, hb2, fun _ => ⟨hb2, ?_⟩⟩
      rw [pairP_take (by omega) (by omega), List.map_append]
      simp only [hcl] at ho2
      exact ho2)
  have hz : erO (fun _ => 0) (C.take (min C.length K.length)).length = 0 := by
    unfold erO
    induction (C.take (min C.length K.length)).length with
    | zero => rfl
    | succ n ih => rw [List.range_succ, List.map_append, erL_app, ih]; rfl
  rw [hz] at HC
  have hcl : (C.take (min C.length K.length)).length = (pairP C K).length := by rw [List.length_take, pairP_len]; omega
  rw [hcl, List.take_length] at HC
  generalize pairP C K = P at *
  have hs := fun w' => slice_items (ao := a) (n := n) (c := c) (r := min C.length K.length) (by omega) l2 w'
  replace HC : Hid _ := hid HC
  rw [l1, r1] at HC hs
  clear hr1 hK1 hcf h hK hz hcl l1 r1
  obtain ⟨r, hr⟩ : ∃ r, min n kn = r := ⟨_, rfl⟩
  rw [hr] at HC hs
  have hmi : min (n : Int) (kn : Int) = (r : Int) := by omega
  have hrn : r ≤ n := by omega
  clear hr
  go_enter Tryz.func25, Tryz.ntmps25
  go_upto_region 1 with fail
  go_wp2_with fail
  with_reducible refine Calls.mono HC.out ?_
  rintro e w4 ⟨a4, m4, d4, rfl, hb4, hI⟩
  have HI : Hid _ := hid (hI (by first | rfl | trivial))
  clear HC hI
  go_wp2
  exact bodyPost_ret (v := .slice a4 m4 d4) (by simp [results, Tryz.results25]) rfl ⟨a4, m4, d4, rfl, Below.on hw hb4, HI.out.2.clm⟩
set_option maxRecDepth 100000 in
set_option maxHeartbeats 4000000 in
theorem Kind_any {C : List It} {K : List Int} (hC : C.length ≤ 500) (x : Pg × Tg) {Q : Nat → Prop} {w : World} {a : Option Addr} {n c : Nat} (h : RowIs eItem Q w (.slice a n c) C) {ka : Option Addr} {kn kc : Nat} (hK : RowIs eInt (fun _ => True) w (.slice ka kn kc) K) {cs : List Value} (hx : eG.E Q w x cs) :
    Calls Tryz.prog 11 #[.slice a n c, .slice ka kn kc, .agg cs.toArray] w fun en w' => en = .returned (.tuple #[.int .i64 (kdT (pairP C K) x).1, .int .i64 (kdT (pairP C K) x).2]) ∧ Below w.heap.size w w' := by
  have hEx' := hx
  obtain ⟨ea, en, ec, rfl, -⟩ := hEx'
  simp only [exC] at *
  have hw := bal (Below.refl w.heap.size w) (.cells #[.int .i64 x.1.1, .int .i64 x.1.2.1, .int .i64 x.1.2.2.1, .string x.1.2.2.2.1, .string x.1.2.2.2.2.1, .string x.1.2.2.2.2.2, .slice ea en ec] 28)
  have bx := Bk.new w (.cells #[.int .i64 x.1.1, .int .i64 x.1.2.1, .int .i64 x.1.2.2.1, .string x.1.2.2.2.1, .string x.1.2.2.2.2.1, .string x.1.2.2.2.2.2, .slice ea en ec] 28)
  generalize hW : w.alloc (.cells #[.int .i64 x.1.1, .int .i64 x.1.2.1, .int .i64 x.1.2.2.1, .string x.1.2.2.2.1, .string x.1.2.2.2.2.1, .string x.1.2.2.2.2.2, .slice ea en ec] 28) = W at hw bx
  have H1 : Hid (∀ w', Below W.heap.size W w' → _) := hid fun w' hb => paired_any hC (h.keep (by decide) fun b _ hl => (Below.on hw hb).block b hl) (hK.keep (by decide) fun b _ hl => (Below.on hw hb).block b hl)
  have hP5 : (pairP C K).length ≤ 500 := by rw [pairP_len]; omega
  have H2 : Hid (∀ (a2 : Option Addr) (n2 c2 : Nat) w', Below W.heap.size W w' → RowIs eClm (fun _ => True) w' (.slice a2 n2 c2) (pairP C K) → _) := hid fun a2 n2 c2 w' hb hr => kind_any hP5 x Q w' [.int .i64 x.1.1, .int .i64 x.1.2.1, .int .i64 x.1.2.2.1, .string x.1.2.2.2.1, .string x.1.2.2.2.2.1, .string x.1.2.2.2.2.2, .slice ea en ec] a2 n2 c2 hr (eG.keep (fun b _ hl => (Below.on hw hb).block b hl) hx)
  have d0 := bx.cell 0
  have d1 := bx.cell 1
  have d2 := bx.cell 2
  have d3 := bx.cell 3
  have d4 := bx.cell 4
  have d5 := bx.cell 5
  have d6 := bx.cell 6
  simp only [List.getElem?_toArray, List.getElem?_cons_zero, List.getElem?_cons_succ] at d0 d1 d2 d3 d4 d5 d6
  generalize (kdT (pairP C K) x).1 = r1 at *
  generalize (kdT (pairP C K) x).2 = r2 at *
  generalize pairP C K = P at *
  have hC : Below W.heap.size W W.drew := (Below.refl _ W).drew
  clear h hK hx bx hP5
  go_enter Tryz.func11, Tryz.ntmps11
  go_upto_region 1 with fail
  clear hW
  generalize w.heap.size = q at d0 d1 d2 d3 d4 d5 d6 ⊢
  go_region_held (fun w' => w'.cell? ⟨q, 0, none⟩ = some (.int .i64 x.1.1) ∧ w'.cell? ⟨q, 1, none⟩ = some (.int .i64 x.1.2.1) ∧ w'.cell? ⟨q, 2, none⟩ = some (.int .i64 x.1.2.2.1) ∧ w'.cell? ⟨q, 3, none⟩ = some (.string x.1.2.2.2.1) ∧ w'.cell? ⟨q, 4, none⟩ = some (.string x.1.2.2.2.2.1) ∧ w'.cell? ⟨q, 5, none⟩ = some (.string x.1.2.2.2.2.2) ∧ w'.cell? ⟨q, 6, none⟩ = some (.slice ea en ec))
    (first | exact ⟨cell_later hC d0, cell_later hC d1, cell_later hC d2, cell_later hC d3, cell_later hC d4, cell_later hC d5, cell_later hC d6⟩)
    (first
    | (go_at_call 25; with_reducible refine Calls.mono (H1.out _ hC) ?_; rintro e z1 ⟨a2, n2, c2, rfl, hb1, hr1⟩; replace hC := Below.on hC hb1; have HR : Hid _ := hid hr1; clear hr1; have hC2 := Below.refl z1.heap.size z1)
    | (go_at_call 26; with_reducible refine Calls.mono (H2.out _ _ _ _ hC HR.out) ?_; rintro e z2 ⟨rfl, hb2⟩; replace hC := Below.on hC hb2))
  all_goals
    go_wp2
    exact bodyPost_ret (v := .tuple #[.int .i64 r1, .int .i64 r2]) (by simp [results, Tryz.results11]) rfl ⟨rfl, Below.on hw hC⟩
abbrev tbT : Tbl := ⟨⟨#[116]⟩, [(⟨#[107]⟩, 1, ⟨#[]⟩), (⟨#[118]⟩, 2, ⟨#[]⟩), (⟨#[110]⟩, 1, ⟨#[]⟩)], [⟨#[110]⟩]⟩
abbrev tbU : Tbl := ⟨⟨#[117]⟩, [(⟨#[107]⟩, 2, ⟨#[]⟩), (⟨#[114]⟩, 1, ⟨#[116]⟩), (⟨#[110]⟩, 1, ⟨#[]⟩)], []⟩
abbrev tbs : List Tbl := [tbT, tbU]
theorem tbs_B : AllB TblB tbs := by
  refine ⟨by simp, fun x hx => ?_⟩
  simp only [List.mem_cons, List.not_mem_nil, or_false] at hx
  rcases hx with rfl | rfl
  · refine ⟨by simp only [StrB]; decide, ⟨by simp, fun c hc => ?_⟩, ⟨by simp, fun c hc => ?_⟩⟩
    · simp only [List.mem_cons, List.not_mem_nil, or_false] at hc
      rcases hc with rfl | rfl | rfl <;> exact ⟨by decide, by decide⟩
    · simp only [List.mem_cons, List.not_mem_nil, or_false] at hc
      subst hc
      simp only [StrB]; decide
  · refine ⟨by simp only [StrB]; decide, ⟨by simp, fun c hc => ?_⟩, ⟨by simp, fun c hc => ?_⟩⟩
    · simp only [List.mem_cons, List.not_mem_nil, or_false] at hc
      rcases hc with rfl | rfl | rfl <;> exact ⟨by decide, by decide⟩
    · simp at hc
theorem tbs_ne : ∀ t ∈ tbs, t.cols ≠ [] := by
  intro t ht
  simp only [List.mem_cons, List.not_mem_nil, or_false] at ht
  rcases ht with rfl | rfl <;> simp
set_option maxRecDepth 100000 in
set_option maxHeartbeats 2000000 in
theorem schemaT_any (w : World) : Calls Tryz.prog 17 #[] w fun e w' => ∃ b, e = .returned (.agg #[.slice (some ⟨b, 0, none⟩) 2 2, .slice none 0 0]) ∧ IsT w' tbs (some ⟨b, 0, none⟩) 2 2 ∧ w.heap.size ≤ b ∧ Below w.heap.size w w' := by
  go_enter Tryz.func17, Tryz.ntmps17
  go_wp2
  refine bodyPost_ret (v := .agg #[.slice (some ⟨w.heap.size + 1 + 1 + 1 + 1, 0, none⟩) 2 2, .slice none 0 0]) (by simp [results, Tryz.results17, go_sem]) rfl ⟨w.heap.size + 1 + 1 + 1 + 1, rfl, ⟨?_, tbs_B, tbs_ne⟩, by omega, bal (bal (bal (bal (bal (Below.refl _ _) _) _) _) _) _⟩
  have hT := cols_new (w.alloc (.cells #[.slice (some ⟨w.heap.size + 1 + 1 + 1 + 1, 0, none⟩) 2 2, .slice none 0 0] 38)) ⟨#[107]⟩ ⟨#[]⟩ ⟨#[118]⟩ ⟨#[]⟩ ⟨#[110]⟩ ⟨#[]⟩ 1 2 1 (Q := fun _ => True) (w' := (((((w.alloc (.cells #[.slice (some ⟨w.heap.size + 1 + 1 + 1 + 1, 0, none⟩) 2 2, .slice none 0 0] 38)).alloc (.cells #[.string ⟨#[107]⟩, .int .i64 1, .string ⟨#[]⟩, .string ⟨#[118]⟩, .int .i64 2, .string ⟨#[]⟩, .string ⟨#[110]⟩, .int .i64 1, .string ⟨#[]⟩] 84)).alloc (.cells #[.string ⟨#[110]⟩] 9)).alloc (.cells #[.string ⟨#[107]⟩, .int .i64 2, .string ⟨#[]⟩, .string ⟨#[114]⟩, .int .i64 1, .string ⟨#[116]⟩, .string ⟨#[110]⟩, .int .i64 1, .string ⟨#[]⟩] 84)).alloc (.cells #[.string ⟨#[116]⟩, .slice (some ⟨w.heap.size + 1, 0, none⟩) 3 3, .slice (some ⟨w.heap.size + 1 + 1, 0, none⟩) 1 1, .string ⟨#[117]⟩, .slice (some ⟨w.heap.size + 1 + 1 + 1, 0, none⟩) 3 3, .slice none 0 0] 58))) (by
    rw [show (w.alloc (.cells #[.slice (some ⟨w.heap.size + 1 + 1 + 1 + 1, 0, none⟩) 2 2, .slice none 0 0] 38)).heap.size + 1 = ((w.alloc (.cells #[.slice (some ⟨w.heap.size + 1 + 1 + 1 + 1, 0, none⟩) 2 2, .slice none 0 0] 38)).alloc (.cells #[.string ⟨#[107]⟩, .int .i64 1, .string ⟨#[]⟩, .string ⟨#[118]⟩, .int .i64 2, .string ⟨#[]⟩, .string ⟨#[110]⟩, .int .i64 1, .string ⟨#[]⟩] 84)).heap.size from by simp]
    exact bal (bal (bal (Below.refl _ _) _) _) _) trivial
  have hU := cols_new (((w.alloc (.cells #[.slice (some ⟨w.heap.size + 1 + 1 + 1 + 1, 0, none⟩) 2 2, .slice none 0 0] 38)).alloc (.cells #[.string ⟨#[107]⟩, .int .i64 1, .string ⟨#[]⟩, .string ⟨#[118]⟩, .int .i64 2, .string ⟨#[]⟩, .string ⟨#[110]⟩, .int .i64 1, .string ⟨#[]⟩] 84)).alloc (.cells #[.string ⟨#[110]⟩] 9)) ⟨#[107]⟩ ⟨#[]⟩ ⟨#[114]⟩ ⟨#[116]⟩ ⟨#[110]⟩ ⟨#[]⟩ 2 1 1 (Q := fun _ => True) (w' := (((((w.alloc (.cells #[.slice (some ⟨w.heap.size + 1 + 1 + 1 + 1, 0, none⟩) 2 2, .slice none 0 0] 38)).alloc (.cells #[.string ⟨#[107]⟩, .int .i64 1, .string ⟨#[]⟩, .string ⟨#[118]⟩, .int .i64 2, .string ⟨#[]⟩, .string ⟨#[110]⟩, .int .i64 1, .string ⟨#[]⟩] 84)).alloc (.cells #[.string ⟨#[110]⟩] 9)).alloc (.cells #[.string ⟨#[107]⟩, .int .i64 2, .string ⟨#[]⟩, .string ⟨#[114]⟩, .int .i64 1, .string ⟨#[116]⟩, .string ⟨#[110]⟩, .int .i64 1, .string ⟨#[]⟩] 84)).alloc (.cells #[.string ⟨#[116]⟩, .slice (some ⟨w.heap.size + 1, 0, none⟩) 3 3, .slice (some ⟨w.heap.size + 1 + 1, 0, none⟩) 1 1, .string ⟨#[117]⟩, .slice (some ⟨w.heap.size + 1 + 1 + 1, 0, none⟩) 3 3, .slice none 0 0] 58))) (by
    rw [show (((w.alloc (.cells #[.slice (some ⟨w.heap.size + 1 + 1 + 1 + 1, 0, none⟩) 2 2, .slice none 0 0] 38)).alloc (.cells #[.string ⟨#[107]⟩, .int .i64 1, .string ⟨#[]⟩, .string ⟨#[118]⟩, .int .i64 2, .string ⟨#[]⟩, .string ⟨#[110]⟩, .int .i64 1, .string ⟨#[]⟩] 84)).alloc (.cells #[.string ⟨#[110]⟩] 9)).heap.size + 1 = ((((w.alloc (.cells #[.slice (some ⟨w.heap.size + 1 + 1 + 1 + 1, 0, none⟩) 2 2, .slice none 0 0] 38)).alloc (.cells #[.string ⟨#[107]⟩, .int .i64 1, .string ⟨#[]⟩, .string ⟨#[118]⟩, .int .i64 2, .string ⟨#[]⟩, .string ⟨#[110]⟩, .int .i64 1, .string ⟨#[]⟩] 84)).alloc (.cells #[.string ⟨#[110]⟩] 9)).alloc (.cells #[.string ⟨#[107]⟩, .int .i64 2, .string ⟨#[]⟩, .string ⟨#[114]⟩, .int .i64 1, .string ⟨#[116]⟩, .string ⟨#[110]⟩, .int .i64 1, .string ⟨#[]⟩] 84)).heap.size from by simp]
    exact bal (Below.refl _ _) _) trivial
  have hN := row1_str ((w.alloc (.cells #[.slice (some ⟨w.heap.size + 1 + 1 + 1 + 1, 0, none⟩) 2 2, .slice none 0 0] 38)).alloc (.cells #[.string ⟨#[107]⟩, .int .i64 1, .string ⟨#[]⟩, .string ⟨#[118]⟩, .int .i64 2, .string ⟨#[]⟩, .string ⟨#[110]⟩, .int .i64 1, .string ⟨#[]⟩] 84)).heap.size (w := (((((w.alloc (.cells #[.slice (some ⟨w.heap.size + 1 + 1 + 1 + 1, 0, none⟩) 2 2, .slice none 0 0] 38)).alloc (.cells #[.string ⟨#[107]⟩, .int .i64 1, .string ⟨#[]⟩, .string ⟨#[118]⟩, .int .i64 2, .string ⟨#[]⟩, .string ⟨#[110]⟩, .int .i64 1, .string ⟨#[]⟩] 84)).alloc (.cells #[.string ⟨#[110]⟩] 9)).alloc (.cells #[.string ⟨#[107]⟩, .int .i64 2, .string ⟨#[]⟩, .string ⟨#[114]⟩, .int .i64 1, .string ⟨#[116]⟩, .string ⟨#[110]⟩, .int .i64 1, .string ⟨#[]⟩] 84)).alloc (.cells #[.string ⟨#[116]⟩, .slice (some ⟨w.heap.size + 1, 0, none⟩) 3 3, .slice (some ⟨w.heap.size + 1 + 1, 0, none⟩) 1 1, .string ⟨#[117]⟩, .slice (some ⟨w.heap.size + 1 + 1 + 1, 0, none⟩) 3 3, .slice none 0 0] 58))) (x := ⟨#[110]⟩) (cell_later (bal (bal (Below.refl _ (((w.alloc (.cells #[.slice (some ⟨w.heap.size + 1 + 1 + 1 + 1, 0, none⟩) 2 2, .slice none 0 0] 38)).alloc (.cells #[.string ⟨#[107]⟩, .int .i64 1, .string ⟨#[]⟩, .string ⟨#[118]⟩, .int .i64 2, .string ⟨#[]⟩, .string ⟨#[110]⟩, .int .i64 1, .string ⟨#[]⟩] 84)).alloc (.cells #[.string ⟨#[110]⟩] 9))) (.cells #[.string ⟨#[107]⟩, .int .i64 2, .string ⟨#[]⟩, .string ⟨#[114]⟩, .int .i64 1, .string ⟨#[116]⟩, .string ⟨#[110]⟩, .int .i64 1, .string ⟨#[]⟩] 84)) (.cells #[.string ⟨#[116]⟩, .slice (some ⟨w.heap.size + 1, 0, none⟩) 3 3, .slice (some ⟨w.heap.size + 1 + 1, 0, none⟩) 1 1, .string ⟨#[117]⟩, .slice (some ⟨w.heap.size + 1 + 1 + 1, 0, none⟩) 3 3, .slice none 0 0] 58)) (cell_new ((w.alloc (.cells #[.slice (some ⟨w.heap.size + 1 + 1 + 1 + 1, 0, none⟩) 2 2, .slice none 0 0] 38)).alloc (.cells #[.string ⟨#[107]⟩, .int .i64 1, .string ⟨#[]⟩, .string ⟨#[118]⟩, .int .i64 2, .string ⟨#[]⟩, .string ⟨#[110]⟩, .int .i64 1, .string ⟨#[]⟩] 84)) #[.string ⟨#[110]⟩] 9 (0, 0) 0))
  have hc := cell_new ((((w.alloc (.cells #[.slice (some ⟨w.heap.size + 1 + 1 + 1 + 1, 0, none⟩) 2 2, .slice none 0 0] 38)).alloc (.cells #[.string ⟨#[107]⟩, .int .i64 1, .string ⟨#[]⟩, .string ⟨#[118]⟩, .int .i64 2, .string ⟨#[]⟩, .string ⟨#[110]⟩, .int .i64 1, .string ⟨#[]⟩] 84)).alloc (.cells #[.string ⟨#[110]⟩] 9)).alloc (.cells #[.string ⟨#[107]⟩, .int .i64 2, .string ⟨#[]⟩, .string ⟨#[114]⟩, .int .i64 1, .string ⟨#[116]⟩, .string ⟨#[110]⟩, .int .i64 1, .string ⟨#[]⟩] 84)) #[.string ⟨#[116]⟩, .slice (some ⟨w.heap.size + 1, 0, none⟩) 3 3, .slice (some ⟨w.heap.size + 1 + 1, 0, none⟩) 1 1, .string ⟨#[117]⟩, .slice (some ⟨w.heap.size + 1 + 1 + 1, 0, none⟩) 3 3, .slice none 0 0] 58 (0, 0)
  simp only [World.size_alloc] at hT hU hc hN
  refine ⟨_, 2, 2, rfl, rfl, Nat.le_refl _, by omega, fun _ => ⟨_, 0, rfl, trivial, fun i hi => ?_⟩⟩
  have hi' : i < 2 := hi
  match i, hi' with
  | 0, _ => exact ⟨[.string ⟨#[116]⟩, .slice (some ⟨w.heap.size + 1, 0, none⟩) 3 3, .slice (some ⟨w.heap.size + 1 + 1, 0, none⟩) 1 1], ⟨_, _, _, _, _, _, rfl, hT, hN⟩, rfl, fun j hj => by
      have hj' : j < 3 := hj
      match j, hj' with
      | 0, _ => exact hc 0
      | 1, _ => exact hc 1
      | 2, _ => exact hc 2⟩
  | 1, _ => exact ⟨[.string ⟨#[117]⟩, .slice (some ⟨w.heap.size + 1 + 1 + 1, 0, none⟩) 3 3, .slice none 0 0], ⟨_, _, _, _, _, _, rfl, hU, RowIs.nil _ _ _⟩, rfl, fun j hj => by
      have hj' : j < 3 := hj
      match j, hj' with
      | 0, _ => exact hc 3
      | 1, _ => exact hc 4
      | 2, _ => exact hc 5⟩

end Go.Proofs.YtljmlacnfnmjbaaGreat
