import Derived.Test.YtljmlacnfnmjbaaGreatTwal
namespace Go.Proofs.YtljmlacnfnmjbaaGreat
open Go.RowKit
set_option linter.unusedVariables false
set_option linter.unusedSimpArgs false

def formOnP (m : Sq) : Bool := if m.join = ⟨#[]⟩ then decide (m.on.length = 0) else decide (m.on.length = 2) && m.on.all colP1
def formP (m : Sq) (inn : Nat) : Bool :=
  if m.kind = 3 ∨ m.kind = 4 then decide (inn = 1)
  else if m.kind = 6 then formOnP m && decide (m.wh.length ≤ 1) && decide (m.order.length ≤ 1) && m.order.all colP1
  else if m.kind = 7 then decide (m.values.length = 1) && decide (m.wh.length ≤ 1)
  else if m.kind = 8 then decide (m.wh.length ≤ 1)
  else decide (1 ≤ m.kind) && decide (m.kind ≤ 13)
def selP (T : List Tbl) (m : Sq) : Int := if fromE T m ≠ 0 then fromE T m else erL [onCP (fromC T m) m.on, itmsP (fromC T m) m.items m.order.length, whP (fromC T m) m.wh, orderKP (fromC T m) m.order]
theorem row4_int (b : Nat) {w : World} {x y z u : Int} (h0 : w.cell? ⟨b, 0, none⟩ = some (.int .i64 x)) (h1 : w.cell? ⟨b, 1, none⟩ = some (.int .i64 y)) (h2 : w.cell? ⟨b, 2, none⟩ = some (.int .i64 z)) (h3 : w.cell? ⟨b, 3, none⟩ = some (.int .i64 u)) : RowIs eInt (fun _ => True) w (.slice (some ⟨b, 0, none⟩) 4 4) [x, y, z, u] :=
  ⟨_, 4, 4, rfl, rfl, Nat.le_refl _, by omega, fun _ => ⟨b, 0, rfl, trivial, fun i hi => by
    have hi' : i < 4 := hi
    match i, hi' with
    | 0, _ =>
      refine ⟨_, rfl, rfl, fun j hj => ?_⟩
      have hj' : j < 1 := hj
      match j, hj' with
      | 0, _ => exact h0
    | 1, _ =>
      refine ⟨_, rfl, rfl, fun j hj => ?_⟩
      have hj' : j < 1 := hj
      match j, hj' with
      | 0, _ => exact h1
    | 2, _ =>
      refine ⟨_, rfl, rfl, fun j hj => ?_⟩
      have hj' : j < 1 := hj
      match j, hj' with
      | 0, _ => exact h2
    | 3, _ =>
      refine ⟨_, rfl, rfl, fun j hj => ?_⟩
      have hj' : j < 1 := hj
      match j, hj' with
      | 0, _ => exact h3⟩⟩
set_option maxRecDepth 100000 in
set_option maxHeartbeats 4000000 in
theorem formedOn_any {m : Sq} (hB : SqB m) {w : World} {s : Sv} (hm : IsQ w m s) : Calls Tryz.prog 55 #[.agg #[.int .i64 s.k, .string s.tb, .string s.nm, .slice s.co.1 s.co.2.1 s.co.2.2, .slice s.ta.1 s.ta.2.1 s.ta.2.2, .slice s.va.1 s.va.2.1 s.va.2.2, .slice s.it.1 s.it.2.1 s.it.2.2, .string s.jn, .slice s.on.1 s.on.2.1 s.on.2.2, .slice s.wh.1 s.wh.2.1 s.wh.2.2, .slice s.od.1 s.od.2.1 s.od.2.2, .bool s.ds, .slice s.inn.1 s.inn.2.1 s.inn.2.2]] w fun en w' => en = .returned (.bool (formOnP m)) ∧ Below w.heap.size w w' := by
  have hw := bal (Below.refl w.heap.size w) (.cells #[.int .i64 s.k, .string s.tb, .string s.nm, .slice s.co.1 s.co.2.1 s.co.2.2, .slice s.ta.1 s.ta.2.1 s.ta.2.2, .slice s.va.1 s.va.2.1 s.va.2.2, .slice s.it.1 s.it.2.1 s.it.2.2, .string s.jn, .slice s.on.1 s.on.2.1 s.on.2.2, .slice s.wh.1 s.wh.2.1 s.wh.2.2, .slice s.od.1 s.od.2.1 s.od.2.2, .bool s.ds, .slice s.inn.1 s.inn.2.1 s.inn.2.2] 43)
  have bq := Bk.new w (.cells #[.int .i64 s.k, .string s.tb, .string s.nm, .slice s.co.1 s.co.2.1 s.co.2.2, .slice s.ta.1 s.ta.2.1 s.ta.2.2, .slice s.va.1 s.va.2.1 s.va.2.2, .slice s.it.1 s.it.2.1 s.it.2.2, .string s.jn, .slice s.on.1 s.on.2.1 s.on.2.2, .slice s.wh.1 s.wh.2.1 s.wh.2.2, .slice s.od.1 s.od.2.1 s.od.2.2, .bool s.ds, .slice s.inn.1 s.inn.2.1 s.inn.2.2] 43)
  generalize hW : w.alloc (.cells #[.int .i64 s.k, .string s.tb, .string s.nm, .slice s.co.1 s.co.2.1 s.co.2.2, .slice s.ta.1 s.ta.2.1 s.ta.2.2, .slice s.va.1 s.va.2.1 s.va.2.2, .slice s.it.1 s.it.2.1 s.it.2.2, .string s.jn, .slice s.on.1 s.on.2.1 s.on.2.2, .slice s.wh.1 s.wh.2.1 s.wh.2.2, .slice s.od.1 s.od.2.1 s.od.2.2, .bool s.ds, .slice s.inn.1 s.inn.2.1 s.inn.2.2] 43) = W at hw bq
  replace hm := hm.later hw
  have z0 := bq.cell 0
  have z1 := bq.cell 1
  have z2 := bq.cell 2
  have z3 := bq.cell 3
  have z4 := bq.cell 4
  have z5 := bq.cell 5
  have z6 := bq.cell 6
  have z7 := bq.cell 7
  have z8 := bq.cell 8
  have z9 := bq.cell 9
  have z10 := bq.cell 10
  have z11 := bq.cell 11
  have z12 := bq.cell 12
  simp only [List.getElem?_toArray, List.getElem?_cons_zero, List.getElem?_cons_succ] at z0 z1 z2 z3 z4 z5 z6 z7 z8 z9 z10 z11 z12
  have HA : Hid _ := hid (allEx hB.on hm.on (isColT_such W))
  have HF : Hid (formOnP m = if m.join = ⟨#[]⟩ then decide (m.on.length = 0) else decide (m.on.length = 2) && m.on.all colP1) := hid rfl
  obtain ⟨-, -, -, k3, -, -, hon, -, -⟩ := hm
  obtain ⟨l1, l2, l3⟩ := hon.lens
  obtain ⟨sk, stb, snm, sco, sta, sva, sit, sjn, ⟨on0, on1, on2⟩, swh, sod, sds, sinn⟩ := s
  dsimp only at *
  rw [← k3, l1] at HF
  generalize formOnP m = T at *
  generalize m.on.all colP1 = A at *
  clear hon l1 k3 hB bq
  by_cases hj : sjn = ⟨#[]⟩
  · have HT : Hid (T = decide (on1 = 0)) := hid (by rw [HF.out, if_pos hj])
    have e0 : sjn.toList.isEmpty = true := by rw [empty_str]; simpa using hj
    clear HF HA hj
    go_enter Tryz.func55, Tryz.ntmps55
    go_upto_region 1 with fail
    go_wp2
    go_ret
    refine ⟨ret_bool ?_, hw⟩
    rw [HT.out, Bool.eq_iff_iff]
    simp
  · have HT : Hid (T = (decide (on1 = 2) && A)) := hid (by rw [HF.out, if_neg hj])
    have e0 : sjn.toList.isEmpty = false := by rw [empty_str]; simpa using hj
    clear HF
    by_cases h2 : on1 = 2
    · have HT2 : Hid (T = A) := hid (by rw [HT.out, h2]; simp)
      subst h2
      clear HT
      go_enter Tryz.func55, Tryz.ntmps55
      go_upto_region 1 with fail
      go_wp2_with fail
      refine Calls.mono HA.out ?_
      rintro e w4 ⟨rfl, hb4⟩
      clear HA
      go_wp2
      go_ret
      exact ⟨ret_bool HT2.out.symm, Below.on hw hb4⟩
    · have HT2 : Hid (T = false) := hid (by rw [HT.out]; simp [h2])
      have g2 : ¬ (on1 : Int) = 2 := by omega
      have g3 : decide ((on1 : Int) = 2) = false := by simpa using g2
      clear HT HA
      go_enter Tryz.func55, Tryz.ntmps55
      go_upto_region 1 with fail
      go_wp2
      go_ret
      exact ⟨ret_bool HT2.out.symm, hw⟩
set_option maxRecDepth 100000 in
set_option maxHeartbeats 4000000 in
theorem formed_sel {m : Sq} (hB : SqB m) {w : World} {s : Sv} (hm : IsQ w m s) (hk : m.kind = 6) : Calls Tryz.prog 28 #[.agg #[.int .i64 s.k, .string s.tb, .string s.nm, .slice s.co.1 s.co.2.1 s.co.2.2, .slice s.ta.1 s.ta.2.1 s.ta.2.2, .slice s.va.1 s.va.2.1 s.va.2.2, .slice s.it.1 s.it.2.1 s.it.2.2, .string s.jn, .slice s.on.1 s.on.2.1 s.on.2.2, .slice s.wh.1 s.wh.2.1 s.wh.2.2, .slice s.od.1 s.od.2.1 s.od.2.2, .bool s.ds, .slice s.inn.1 s.inn.2.1 s.inn.2.2]] w fun en w' => en = .returned (.bool (formP m s.inn.2.1)) ∧ Below w.heap.size w w' := by
  have hw := bal (Below.refl w.heap.size w) (.cells #[.int .i64 s.k, .string s.tb, .string s.nm, .slice s.co.1 s.co.2.1 s.co.2.2, .slice s.ta.1 s.ta.2.1 s.ta.2.2, .slice s.va.1 s.va.2.1 s.va.2.2, .slice s.it.1 s.it.2.1 s.it.2.2, .string s.jn, .slice s.on.1 s.on.2.1 s.on.2.2, .slice s.wh.1 s.wh.2.1 s.wh.2.2, .slice s.od.1 s.od.2.1 s.od.2.2, .bool s.ds, .slice s.inn.1 s.inn.2.1 s.inn.2.2] 43)
  have bq := Bk.new w (.cells #[.int .i64 s.k, .string s.tb, .string s.nm, .slice s.co.1 s.co.2.1 s.co.2.2, .slice s.ta.1 s.ta.2.1 s.ta.2.2, .slice s.va.1 s.va.2.1 s.va.2.2, .slice s.it.1 s.it.2.1 s.it.2.2, .string s.jn, .slice s.on.1 s.on.2.1 s.on.2.2, .slice s.wh.1 s.wh.2.1 s.wh.2.2, .slice s.od.1 s.od.2.1 s.od.2.2, .bool s.ds, .slice s.inn.1 s.inn.2.1 s.inn.2.2] 43)
  generalize hW : w.alloc (.cells #[.int .i64 s.k, .string s.tb, .string s.nm, .slice s.co.1 s.co.2.1 s.co.2.2, .slice s.ta.1 s.ta.2.1 s.ta.2.2, .slice s.va.1 s.va.2.1 s.va.2.2, .slice s.it.1 s.it.2.1 s.it.2.2, .string s.jn, .slice s.on.1 s.on.2.1 s.on.2.2, .slice s.wh.1 s.wh.2.1 s.wh.2.2, .slice s.od.1 s.od.2.1 s.od.2.2, .bool s.ds, .slice s.inn.1 s.inn.2.1 s.inn.2.2] 43) = W at hw bq
  replace hm := hm.later hw
  have z0 := bq.cell 0
  have z1 := bq.cell 1
  have z2 := bq.cell 2
  have z3 := bq.cell 3
  have z4 := bq.cell 4
  have z5 := bq.cell 5
  have z6 := bq.cell 6
  have z7 := bq.cell 7
  have z8 := bq.cell 8
  have z9 := bq.cell 9
  have z10 := bq.cell 10
  have z11 := bq.cell 11
  have z12 := bq.cell 12
  simp only [List.getElem?_toArray, List.getElem?_cons_zero, List.getElem?_cons_succ] at z0 z1 z2 z3 z4 z5 z6 z7 z8 z9 z10 z11 z12
  have HO : Hid _ := hid (formedOn_any hB hm)
  have HA : Hid (∀ w', Below W.heap.size W w' → _) := hid fun w' hb => allEx hB.od (hm.later hb).od (isColT_such w')
  have HF : Hid (formP m s.inn.2.1 = (formOnP m && decide (m.wh.length ≤ 1) && decide (m.order.length ≤ 1) && m.order.all colP1)) := hid (by unfold formP; simp [hk])
  obtain ⟨k0, -, -, -, -, -, -, hwh, hod⟩ := hm
  obtain ⟨l1, l2, l3⟩ := hwh.lens
  obtain ⟨r1, r2, r3⟩ := hod.lens
  obtain ⟨sk, stb, snm, sco, sta, sva, sit, sjn, son, ⟨wh0, wh1, wh2⟩, ⟨od0, od1, od2⟩, sds, sinn⟩ := s
  dsimp only at *
  rw [l1, r1] at HF
  obtain rfl : sk = 6 := by rw [k0, hk]
  generalize formP m sinn.2.1 = T at *
  generalize m.order.all colP1 = A at *
  generalize formOnP m = O at *
  clear hwh hod l1 r1 k0 hB bq hk
  cases O with
  | false =>
    have HT : Hid (T = false) := hid (by rw [HF.out]; simp)
    clear HF HA
    go_enter Tryz.func28, Tryz.ntmps28
    go_upto_region 1 with fail
    go_wp2_with fail
    refine Calls.mono HO.out ?_
    rintro e w4 ⟨rfl, hb4⟩
    clear HO
    go_wp2
    go_ret
    exact ⟨ret_bool HT.out.symm, Below.on hw hb4⟩
  | true =>
    go_enter Tryz.func28, Tryz.ntmps28
    go_upto_region 1 with fail
    go_wp2_with fail
    refine Calls.mono HO.out ?_
    rintro e w4 ⟨rfl, hb4⟩
    have z9' := cell_later hb4 z9
    have z10' := cell_later hb4 z10
    have HA2 : Hid _ := hid (HA.out w4 hb4)
    have hB4 := Below.on hw hb4
    clear HO HA hb4 z0 z1 z2 z3 z4 z5 z6 z7 z8 z9 z10 z11 z12 hW
    by_cases h1 : wh1 ≤ 1
    · have g1 : (wh1 : Int) ≤ 1 := by omega
      by_cases h2 : od1 ≤ 1
      · have g2 : (od1 : Int) ≤ 1 := by omega
        have HT : Hid (T = A) := hid (by rw [HF.out]; simp [h1, h2])
        clear HF
        go_wp2_with fail
        refine Calls.mono HA2.out ?_
        rintro e w5 ⟨rfl, hb5⟩
        clear HA2
        go_wp2
        go_ret
        exact ⟨ret_bool HT.out.symm, Below.on hB4 hb5⟩
      · have HT : Hid (T = false) := hid (by rw [HF.out]; simp [h2])
        have g2 : ¬ (od1 : Int) ≤ 1 := by omega
        have q2 : decide ((od1 : Int) ≤ 1) = false := by simpa using g2
        clear HF HA2
        go_wp2
        go_ret
        exact ⟨ret_bool HT.out.symm, hB4⟩
    · have HT : Hid (T = false) := hid (by rw [HF.out]; simp [h1])
      have g1 : ¬ (wh1 : Int) ≤ 1 := by omega
      have q1 : decide ((wh1 : Int) ≤ 1) = false := by simpa using g1
      clear HF HA2
      go_wp2
      go_ret
      exact ⟨ret_bool HT.out.symm, hB4⟩
end Go.Proofs.YtljmlacnfnmjbaaGreat
namespace Go.Proofs.YtljmlacnfnmjbaaGreat
open Go.RowKit
set_option linter.unusedVariables false
set_option linter.unusedSimpArgs false

set_option maxRecDepth 100000 in
set_option maxHeartbeats 4000000 in
theorem maySelect_any {T : List Tbl} {m : Sq} (hB : SqB m) {w : World} {ta : Option Addr} {tn tc : Nat} {vb : Option Addr} {vm vd : Nat} (hT : IsT w T ta tn tc) {s : Sv} (hm : IsQ w m s) (hC5 : (fromC T m).length ≤ 500) :
    Calls Tryz.prog 30 #[.agg #[.slice ta tn tc, .slice vb vm vd], .agg #[.int .i64 s.k, .string s.tb, .string s.nm, .slice s.co.1 s.co.2.1 s.co.2.2, .slice s.ta.1 s.ta.2.1 s.ta.2.2, .slice s.va.1 s.va.2.1 s.va.2.2, .slice s.it.1 s.it.2.1 s.it.2.2, .string s.jn, .slice s.on.1 s.on.2.1 s.on.2.2, .slice s.wh.1 s.wh.2.1 s.wh.2.2, .slice s.od.1 s.od.2.1 s.od.2.2, .bool s.ds, .slice s.inn.1 s.inn.2.1 s.inn.2.2]] w fun en w' => en = .returned (.int .i64 (selP T m)) ∧ Below w.heap.size w w' := by
  have hw := bal (bal (Below.refl w.heap.size w) (.cells #[.slice ta tn tc, .slice vb vm vd] 38)) (.cells #[.int .i64 s.k, .string s.tb, .string s.nm, .slice s.co.1 s.co.2.1 s.co.2.2, .slice s.ta.1 s.ta.2.1 s.ta.2.2, .slice s.va.1 s.va.2.1 s.va.2.2, .slice s.it.1 s.it.2.1 s.it.2.2, .string s.jn, .slice s.on.1 s.on.2.1 s.on.2.2, .slice s.wh.1 s.wh.2.1 s.wh.2.2, .slice s.od.1 s.od.2.1 s.od.2.2, .bool s.ds, .slice s.inn.1 s.inn.2.1 s.inn.2.2] 43)
  have bs := (Bk.new w (.cells #[.slice ta tn tc, .slice vb vm vd] 38)).later (bal (Below.refl _ _) (.cells #[.int .i64 s.k, .string s.tb, .string s.nm, .slice s.co.1 s.co.2.1 s.co.2.2, .slice s.ta.1 s.ta.2.1 s.ta.2.2, .slice s.va.1 s.va.2.1 s.va.2.2, .slice s.it.1 s.it.2.1 s.it.2.2, .string s.jn, .slice s.on.1 s.on.2.1 s.on.2.2, .slice s.wh.1 s.wh.2.1 s.wh.2.2, .slice s.od.1 s.od.2.1 s.od.2.2, .bool s.ds, .slice s.inn.1 s.inn.2.1 s.inn.2.2] 43))
  have bq := Bk.new (w.alloc (.cells #[.slice ta tn tc, .slice vb vm vd] 38)) (.cells #[.int .i64 s.k, .string s.tb, .string s.nm, .slice s.co.1 s.co.2.1 s.co.2.2, .slice s.ta.1 s.ta.2.1 s.ta.2.2, .slice s.va.1 s.va.2.1 s.va.2.2, .slice s.it.1 s.it.2.1 s.it.2.2, .string s.jn, .slice s.on.1 s.on.2.1 s.on.2.2, .slice s.wh.1 s.wh.2.1 s.wh.2.2, .slice s.od.1 s.od.2.1 s.od.2.2, .bool s.ds, .slice s.inn.1 s.inn.2.1 s.inn.2.2] 43)
  rw [World.size_alloc] at bq
  generalize hW : (w.alloc (.cells #[.slice ta tn tc, .slice vb vm vd] 38)).alloc (.cells #[.int .i64 s.k, .string s.tb, .string s.nm, .slice s.co.1 s.co.2.1 s.co.2.2, .slice s.ta.1 s.ta.2.1 s.ta.2.2, .slice s.va.1 s.va.2.1 s.va.2.2, .slice s.it.1 s.it.2.1 s.it.2.2, .string s.jn, .slice s.on.1 s.on.2.1 s.on.2.2, .slice s.wh.1 s.wh.2.1 s.wh.2.2, .slice s.od.1 s.od.2.1 s.od.2.2, .bool s.ds, .slice s.inn.1 s.inn.2.1 s.inn.2.2] 43) = W at hw bs bq
  replace hT := hT.later hw
  replace hm := hm.later hw
  have y0 := bs.cell 0
  have y1 := bs.cell 1
  have z0 := bq.cell 0
  have z1 := bq.cell 1
  have z2 := bq.cell 2
  have z3 := bq.cell 3
  have z4 := bq.cell 4
  have z5 := bq.cell 5
  have z6 := bq.cell 6
  have z7 := bq.cell 7
  have z8 := bq.cell 8
  have z9 := bq.cell 9
  have z10 := bq.cell 10
  have z11 := bq.cell 11
  have z12 := bq.cell 12
  simp only [List.getElem?_toArray, List.getElem?_cons_zero, List.getElem?_cons_succ] at y0 y1 z0 z1 z2 z3 z4 z5 z6 z7 z8 z9 z10 z11 z12
  have HFr := from_any hB hT hm (vb := vb) (vm := vm) (vd := vd)
  have HQ : Hid (∀ w', Below W.heap.size W w' → IsQ w' m s) := hid fun w' hb => hm.later hb
  have HF : Hid (selP T m = if fromE T m ≠ 0 then fromE T m else erL [onCP (fromC T m) m.on, itmsP (fromC T m) m.items m.order.length, whP (fromC T m) m.wh, orderKP (fromC T m) m.order]) := hid rfl
  obtain ⟨r1, r2, r3⟩ := hm.od.lens
  obtain ⟨l6a, l6b, l6c⟩ := hm.it.lens
  have l8 := hm.on.lens
  have l9 := hm.wh.lens
  rw [r1] at HF
  generalize selP T m = R at *
  generalize fromE T m = E at *
  generalize fromC T m = C at *
  clear hT bs bq
  have H1 : Hid (∀ (a : Option Addr) (n c : Nat) w', Below W.heap.size W w' → RowIs eClm (fun _ => True) w' (.slice a n c) C → _) := hid fun a n c w' hb hr => onK_any hC5 hB.on hr (hm.later hb).on
  have H2 : Hid (∀ (a : Option Addr) (n c : Nat) w', Below W.heap.size W w' → RowIs eClm (fun _ => True) w' (.slice a n c) C → _) := hid fun a n c w' hb hr => items_any hC5 hB.it hr (hm.later hb).it s.od.1 s.od.2.1 s.od.2.2 r2 r3
  have H3 : Hid (∀ (a : Option Addr) (n c : Nat) w', Below W.heap.size W w' → RowIs eClm (fun _ => True) w' (.slice a n c) C → _) := hid fun a n c w' hb hr => where_any hC5 hB.wh hr (hm.later hb).wh
  have H4 : Hid (∀ (a : Option Addr) (n c : Nat) w', Below W.heap.size W w' → RowIs eClm (fun _ => True) w' (.slice a n c) C → _) := hid fun a n c w' hb hr => order_any hC5 hB.od hr (hm.later hb).od
  replace HFr : Hid _ := hid HFr
  clear hm r1
  obtain ⟨sk, stb, snm, sco, sta, sva, ⟨it0, it1, it2⟩, sjn, ⟨on0, on1, on2⟩, ⟨wh0, wh1, wh2⟩, ⟨od0, od1, od2⟩, sds, sinn⟩ := s
  dsimp only at *
  generalize onCP C m.on = e1 at *
  generalize itmsP C m.items od1 = e2 at *
  generalize whP C m.wh = e3 at *
  generalize orderKP C m.order = e4 at *
  clear HQ
  go_enter Tryz.func30, Tryz.ntmps30
  go_upto_region 1 with fail
  go_wp2_with fail
  refine Calls.mono HFr.out ?_
  rintro e w4 ⟨a4, n4, c4, rfl, hb4, hr4⟩
  have HR4 : Hid _ := hid hr4
  have v6 := cell_later hb4 z6
  have v8 := cell_later hb4 z8
  have v9 := cell_later hb4 z9
  have v10 := cell_later hb4 z10
  clear HFr hr4 z0 z1 z2 z3 z4 z5 z6 z7 z8 z9 z10 z11 z12 y0 y1
  by_cases he : E = 0
  · subst he
    have hRe : erL [e1, e2, e3, e4] = R := by rw [HF.out, if_neg (by simp)]
    have hr := HR4.out (by first | rfl | trivial)
    have G1 : Hid (∀ w', Below w4.heap.size w4 w' → _) := hid fun w' hb => H1.out a4 n4 c4 w' (Below.on hb4 hb) (hr.keep (by decide) fun b _ hl => hb.block b hl)
    have G2 : Hid (∀ w', Below w4.heap.size w4 w' → _) := hid fun w' hb => H2.out a4 n4 c4 w' (Below.on hb4 hb) (hr.keep (by decide) fun b _ hl => hb.block b hl)
    have G3 : Hid (∀ w', Below w4.heap.size w4 w' → _) := hid fun w' hb => H3.out a4 n4 c4 w' (Below.on hb4 hb) (hr.keep (by decide) fun b _ hl => hb.block b hl)
    have G4 : Hid (∀ w', Below w4.heap.size w4 w' → _) := hid fun w' hb => H4.out a4 n4 c4 w' (Below.on hb4 hb) (hr.keep (by decide) fun b _ hl => hb.block b hl)
    have hB4 := Below.on hw hb4
    have HOr := fun (w' : World) => or_any (l := [e1, e2, e3, e4]) (by simp) (row4_int w'.heap.size (cell_new w' #[.int .i64 e1, .int .i64 e2, .int .i64 e3, .int .i64 e4] 31 (0, 0) 0) (cell_new w' #[.int .i64 e1, .int .i64 e2, .int .i64 e3, .int .i64 e4] 31 (0, 0) 1) (cell_new w' #[.int .i64 e1, .int .i64 e2, .int .i64 e3, .int .i64 e4] 31 (0, 0) 2) (cell_new w' #[.int .i64 e1, .int .i64 e2, .int .i64 e3, .int .i64 e4] 31 (0, 0) 3))
    simp only [hRe] at HOr
    replace HOr : Hid _ := hid HOr
    clear hRe
    have hC : Below w4.heap.size w4 w4.drew := (Below.refl _ w4).drew
    clear H1 H2 H3 H4 HF HR4 hr hb4 hw hW
    generalize w.heap.size + 1 = q at *
    go_upto_region 4 with fail
    go_region_held (fun w' => w'.cell? ⟨q, 6, none⟩ = some (.slice it0 it1 it2) ∧ w'.cell? ⟨q, 8, none⟩ = some (.slice on0 on1 on2) ∧ w'.cell? ⟨q, 9, none⟩ = some (.slice wh0 wh1 wh2) ∧ w'.cell? ⟨q, 10, none⟩ = some (.slice od0 od1 od2))
      (first | exact ⟨cell_later hC v6, cell_later hC v8, cell_later hC v9, cell_later hC v10⟩ | exact ⟨cell_later (bal hC _) v6, cell_later (bal hC _) v8, cell_later (bal hC _) v9, cell_later (bal hC _) v10⟩)
      (first
      | (go_at_call 64; with_reducible refine Calls.mono (G1.out _ hC) ?_; rintro e z1 ⟨rfl, hb1⟩; replace hC := Below.on hC hb1)
      | (go_at_call 65; with_reducible refine Calls.mono (G2.out _ hC) ?_; rintro e z1 ⟨rfl, hb1⟩; replace hC := Below.on hC hb1)
      | (go_at_call 66; with_reducible refine Calls.mono (G3.out _ hC) ?_; rintro e z1 ⟨rfl, hb1⟩; replace hC := Below.on hC hb1)
      | (go_at_call 67; with_reducible refine Calls.mono (G4.out _ hC) ?_; rintro e z1 ⟨rfl, hb1⟩; replace hC := Below.on hC hb1)
      | (go_at_call 63; with_reducible refine Calls.mono (HOr.out _) ?_; rintro e z1 ⟨rfl, hb1⟩; replace hC := Below.on (bal hC _) hb1))
    all_goals
      go_wp2
      go_ret
      exact ⟨rfl, Below.on hB4 hC⟩
  · obtain rfl : R = E := by rw [HF.out, if_pos he]
    have ge : decide (R = 0) = false := by simpa using he
    have gn : (R != 0) = true := by simpa using he
    clear H1 H2 H3 H4 HF HR4
    go_wp2
    go_ret
    exact ⟨rfl, Below.on hw hb4⟩

end Go.Proofs.YtljmlacnfnmjbaaGreat
namespace Go.Proofs.YtljmlacnfnmjbaaGreat
open Go.RowKit
set_option linter.unusedVariables false
set_option linter.unusedSimpArgs false

end Go.Proofs.YtljmlacnfnmjbaaGreat
namespace Go.Proofs.YtljmlacnfnmjbaaGreat
open Go.RowKit
set_option linter.unusedVariables false
set_option linter.unusedSimpArgs false

set_option maxRecDepth 100000 in
set_option maxHeartbeats 4000000 in
theorem check_sel {T : List Tbl} {m : Sq} (hB : SqB m) {w : World} {ta : Option Addr} {tn tc : Nat} {vb : Option Addr} {vm vd : Nat} (hT : IsT w T ta tn tc) {s : Sv} (hm : IsQ w m s) (hk : m.kind = 6) (hC5 : (fromC T m).length ≤ 500) :
    Calls Tryz.prog 15 #[.agg #[.slice ta tn tc, .slice vb vm vd], .agg #[.int .i64 s.k, .string s.tb, .string s.nm, .slice s.co.1 s.co.2.1 s.co.2.2, .slice s.ta.1 s.ta.2.1 s.ta.2.2, .slice s.va.1 s.va.2.1 s.va.2.2, .slice s.it.1 s.it.2.1 s.it.2.2, .string s.jn, .slice s.on.1 s.on.2.1 s.on.2.2, .slice s.wh.1 s.wh.2.1 s.wh.2.2, .slice s.od.1 s.od.2.1 s.od.2.2, .bool s.ds, .slice s.inn.1 s.inn.2.1 s.inn.2.2]] w fun en w' => en = .returned (.int .i64 (if formP m s.inn.2.1 then selP T m else 1)) ∧ Below w.heap.size w w' := by
  have hw := bal (bal (Below.refl w.heap.size w) (.cells #[.slice ta tn tc, .slice vb vm vd] 38)) (.cells #[.int .i64 s.k, .string s.tb, .string s.nm, .slice s.co.1 s.co.2.1 s.co.2.2, .slice s.ta.1 s.ta.2.1 s.ta.2.2, .slice s.va.1 s.va.2.1 s.va.2.2, .slice s.it.1 s.it.2.1 s.it.2.2, .string s.jn, .slice s.on.1 s.on.2.1 s.on.2.2, .slice s.wh.1 s.wh.2.1 s.wh.2.2, .slice s.od.1 s.od.2.1 s.od.2.2, .bool s.ds, .slice s.inn.1 s.inn.2.1 s.inn.2.2] 43)
  have bs := (Bk.new w (.cells #[.slice ta tn tc, .slice vb vm vd] 38)).later (bal (Below.refl _ _) (.cells #[.int .i64 s.k, .string s.tb, .string s.nm, .slice s.co.1 s.co.2.1 s.co.2.2, .slice s.ta.1 s.ta.2.1 s.ta.2.2, .slice s.va.1 s.va.2.1 s.va.2.2, .slice s.it.1 s.it.2.1 s.it.2.2, .string s.jn, .slice s.on.1 s.on.2.1 s.on.2.2, .slice s.wh.1 s.wh.2.1 s.wh.2.2, .slice s.od.1 s.od.2.1 s.od.2.2, .bool s.ds, .slice s.inn.1 s.inn.2.1 s.inn.2.2] 43))
  have bq := Bk.new (w.alloc (.cells #[.slice ta tn tc, .slice vb vm vd] 38)) (.cells #[.int .i64 s.k, .string s.tb, .string s.nm, .slice s.co.1 s.co.2.1 s.co.2.2, .slice s.ta.1 s.ta.2.1 s.ta.2.2, .slice s.va.1 s.va.2.1 s.va.2.2, .slice s.it.1 s.it.2.1 s.it.2.2, .string s.jn, .slice s.on.1 s.on.2.1 s.on.2.2, .slice s.wh.1 s.wh.2.1 s.wh.2.2, .slice s.od.1 s.od.2.1 s.od.2.2, .bool s.ds, .slice s.inn.1 s.inn.2.1 s.inn.2.2] 43)
  rw [World.size_alloc] at bq
  generalize hW : (w.alloc (.cells #[.slice ta tn tc, .slice vb vm vd] 38)).alloc (.cells #[.int .i64 s.k, .string s.tb, .string s.nm, .slice s.co.1 s.co.2.1 s.co.2.2, .slice s.ta.1 s.ta.2.1 s.ta.2.2, .slice s.va.1 s.va.2.1 s.va.2.2, .slice s.it.1 s.it.2.1 s.it.2.2, .string s.jn, .slice s.on.1 s.on.2.1 s.on.2.2, .slice s.wh.1 s.wh.2.1 s.wh.2.2, .slice s.od.1 s.od.2.1 s.od.2.2, .bool s.ds, .slice s.inn.1 s.inn.2.1 s.inn.2.2] 43) = W at hw bs bq
  replace hT := hT.later hw
  replace hm := hm.later hw
  have y0 := bs.cell 0
  have y1 := bs.cell 1
  have z0 := bq.cell 0
  have z1 := bq.cell 1
  have z2 := bq.cell 2
  have z3 := bq.cell 3
  have z4 := bq.cell 4
  have z5 := bq.cell 5
  have z6 := bq.cell 6
  have z7 := bq.cell 7
  have z8 := bq.cell 8
  have z9 := bq.cell 9
  have z10 := bq.cell 10
  have z11 := bq.cell 11
  have z12 := bq.cell 12
  simp only [List.getElem?_toArray, List.getElem?_cons_zero, List.getElem?_cons_succ] at y0 y1 z0 z1 z2 z3 z4 z5 z6 z7 z8 z9 z10 z11 z12
  have HFo : Hid _ := hid (formed_sel hB hm hk)
  have HM : Hid (formP m s.inn.2.1 = true → ∀ w', Below W.heap.size W w' → _) := hid fun hfm w' hb => (maySelect_any hB (hT.later hb) (hm.later hb) hC5 : Calls Tryz.prog 30 #[.agg #[.slice ta tn tc, .slice vb vm vd], .agg #[.int .i64 s.k, .string s.tb, .string s.nm, .slice s.co.1 s.co.2.1 s.co.2.2, .slice s.ta.1 s.ta.2.1 s.ta.2.2, .slice s.va.1 s.va.2.1 s.va.2.2, .slice s.it.1 s.it.2.1 s.it.2.2, .string s.jn, .slice s.on.1 s.on.2.1 s.on.2.2, .slice s.wh.1 s.wh.2.1 s.wh.2.2, .slice s.od.1 s.od.2.1 s.od.2.2, .bool s.ds, .slice s.inn.1 s.inn.2.1 s.inn.2.2]] w' _)
  obtain ⟨R, hR⟩ : ∃ R, (if formP m s.inn.2.1 then selP T m else 1) = R := ⟨_, rfl⟩
  rw [hR]
  have k0 : s.k = 6 := by rw [hm.k, hk]
  rw [k0] at z0
  generalize formP m s.inn.2.1 = B at *
  clear hT bs bq hB hk hC5
  obtain ⟨sk, stb, snm, ⟨co0, co1, co2⟩, ⟨ta0, ta1, ta2⟩, ⟨va0, va1, va2⟩, ⟨it0, it1, it2⟩, sjn, ⟨on0, on1, on2⟩, ⟨wh0, wh1, wh2⟩, ⟨od0, od1, od2⟩, sds, ⟨in0, in1, in2⟩⟩ := s
  dsimp only at *
  subst k0
  clear hm
  cases B with
  | false =>
    have hR2 : (1 : Int) = R := hR
    subst hR2
    clear HM hR
    go_enter Tryz.func15, Tryz.ntmps15
    go_upto_region 1 with fail
    go_wp2_with fail
    refine Calls.mono HFo.out ?_
    rintro e w4 ⟨rfl, hb4⟩
    clear HFo
    go_wp2
    go_ret
    exact ⟨rfl, Below.on hw hb4⟩
  | true =>
    have hR2 : selP T m = R := hR
    clear hR
    go_enter Tryz.func15, Tryz.ntmps15
    go_upto_region 1 with fail
    go_wp2_with fail
    refine Calls.mono HFo.out ?_
    rintro e w4 ⟨rfl, hb4⟩
    have HM2 := HM.out (by first | rfl | trivial) w4 hb4
    rw [hR2] at HM2
    replace HM2 : Hid _ := hid HM2
    replace y0 := cell_later hb4 y0
    replace y1 := cell_later hb4 y1
    replace z0 := cell_later hb4 z0
    replace z1 := cell_later hb4 z1
    replace z2 := cell_later hb4 z2
    replace z3 := cell_later hb4 z3
    replace z4 := cell_later hb4 z4
    replace z5 := cell_later hb4 z5
    replace z6 := cell_later hb4 z6
    replace z7 := cell_later hb4 z7
    replace z8 := cell_later hb4 z8
    replace z9 := cell_later hb4 z9
    replace z10 := cell_later hb4 z10
    replace z11 := cell_later hb4 z11
    replace z12 := cell_later hb4 z12
    have hB4 := Below.on hw hb4
    clear HFo HM hR2 hW hb4 hw
    generalize w.heap.size + 1 = q at *
    go_wp2_with fail
    refine Calls.mono HM2.out ?_
    rintro e w5 ⟨rfl, hb5⟩
    clear HM2 y0 y1 z0 z1 z2 z3 z4 z5 z6 z7 z8 z9 z10 z11 z12
    go_wp2
    go_ret
    exact ⟨rfl, Below.on hB4 hb5⟩
end Go.Proofs.YtljmlacnfnmjbaaGreat
