/- The walk of ParseShownExprs. -/
import Derived.Test.YtfopfhlohihihaaGreatMbk
import Derived.Test.YtfopfhlohihihaaGreatMbi
namespace Go.Proofs.YtfopfhlohihihaaGreat
open Go.RowKit
set_option linter.unusedVariables false
set_option linter.unusedSimpArgs false

set_option maxRecDepth 100000 in
set_option maxHeartbeats 8000000 in
theorem shownExprs_any {a : Option Addr} {len cap : Nat} (x1 : UInt8) {w : World} (h1 : len ≤ cap) (h2 : cap ≤ 9223372036854775807) (h3 : Nums w w.heap.size a len) :
    Calls Tryz.prog 6 #[.slice a len cap, .int .u8 (x1.toNat : Int)] w fun e w' => e = .returned (.bool true) ∧ Below w.heap.size w w' := by
  have HB : Hid _ := hid (begun_any w)
  have hfld := fld_tabs
  obtain ⟨d, hd, hd'⟩ : ∃ r : Nat, r < 3 ∧ x1.toNat % 3 = r := ⟨_, Nat.mod_lt _ (by decide), rfl⟩
  have b1 : x1.toNat < 256 := x1.toNat_lt
  have t1 : (x1.toNat : Int).tmod 3 = (d : Int) := by rw [Int.tmod_eq_emod_of_nonneg (by omega)]; omega
  have g1 : (x1.toNat : Int) % 3 = (d : Int) := by omega
  go_enter Tryz.func6, Tryz.ntmps6
  go_wp2_with fail
  refine Calls.mono HB.out ?_
  rintro e w1 ⟨rfl, hb1⟩
  clear HB hd'
  by_cases h50 : 50 < len
  · have g50 : decide ((50 : Int) < (len : Int)) = true := by simp; omega
    have g51 : decide (50 < len) = true := by simpa using h50
    go_wp2
    go_ret
    exact ⟨rfl, hb1⟩
  have g50 : decide ((50 : Int) < (len : Int)) = false := by simp; omega
  have g51 : decide (50 < len) = false := by simpa using h50
  have HS : Hid _ := hid (schema_any w1)
  go_wp2_with fail
  refine Calls.mono HS.out ?_
  rintro e w2 ⟨bt, rfl, hT, hbt, hb2⟩
  obtain ⟨hbl, -, -, ⟨xa, xn, xc, ya, yn, yc, q0, q1, q2, rT⟩, -⟩ := hT.tabs
  have HC : Hid _ := hid (playCols_any (nm := ⟨#[116]⟩) (a' := ya) (n' := yn) (c' := yc) rT (by decide))
  have hB2 := Below.on hb1 hb2
  clear HS hT hb1 hb2 rT
  go_wp2_with fail
  clear hfld
  refine Calls.mono HC.out ?_
  rintro e w3 ⟨v1, v2, rfl, ho1, ho2, -, hb3⟩
  have ho1' : OwnR 80 3 w2.heap.size w3 v1 ((colsOf tabT).map fun x => itC x.1) := by rw [colsOf, List.map_map]; exact ho1
  have ho2' : OwnR 3 1 w2.heap.size w3 v2 ((colsOf tabT).map fun x => [.int .i64 x.2]) := by rw [colsOf, List.map_map]; exact ho2
  obtain ⟨i1, m1, j1, rfl⟩ := ho1'.sl
  obtain ⟨i2, m2, j2, rfl⟩ := ho2'.sl
  obtain ⟨hone, htwo, hl3⟩ := has1 (tb := tabT) (.inl rfl)
  obtain ⟨e5, e6, hC0⟩ := Cols.of (g := bt) ho1' ho2' hbl (by omega) hone htwo
  subst e5
  subst e6
  have hC3' := hC0.three (q := w3.heap.size) (Nat.le_refl _)
  have hC3 : Cols w3 w3.heap.size (colsOf tabT) i1 j1 i2 j2 := ⟨hC3'.its.mono (by decide) fun b hb _ => hb.2, hC3'.kds.mono (by decide) fun b hb _ => hb.2, hC3'.few, hC3'.one, hC3'.two⟩
  have hB3 := Below.on hB2 hb3
  have hN3 : Nums w3 w3.heap.size a len := fun hp => by
    obtain ⟨b, o, e, hb, hl, hz⟩ := h3 hp
    refine ⟨b, o, e, by have := hB3.size; omega, by have := hB3.size; omega, fun k hk => ?_⟩
    obtain ⟨z, z0, z1, hc⟩ := hz k hk
    exact ⟨z, z0, z1, cell_later hB3 hc⟩
  have HM : Hid _ := hid (made_any h1 h2 hN3)
  clear HC ho1 ho2 ho1' ho2' hone htwo hl3 hC0 hC3' hb3 hB2 hN3 h3 q0 q1 q2 hbl hbt
  generalize hCC : colsOf tabT = CC at *
  have hs3 := hB3.size
  go_upto_region 6 with fail
  go_cut [7] (fun v7 w' => ∃ q o p ao n c t, v7 = .pointer (some ⟨q, 0, none⟩) ∧ Be w' q o p (.slice ao n c) ∧ Ex (fun b => True) w' t (exV o p (.slice ao n c)) ∧ Pl CC 5 ((1 : Int) + (d : Int)) t ∧ Below w.heap.size w w')
  case first =>
    go_wp2_with fail
    refine Calls.mono HM.out ?_
    rintro e w4 ⟨rfl, hp4, hb4⟩
    have hC4 := hC3.but (But.of hb4)
    have hk3 : ((1 : Int) + (d : Int) = 1 ∨ (1 : Int) + (d : Int) = 2 ∨ ((1 : Int) + (d : Int) = 3 ∧ 0 < 5)) := by omega
    have HE : Hid _ := hid (play_any 5 ((1 : Int) + (d : Int)) 0 hp4 hC4 hk3 rfl)
    have hB4 := Below.on hB3 hb4
    have hs34 := hb4.size
    generalize w3.heap.size = g at *
    clear HM hC3 hb4 hB3
    go_wp2_with fail
    refine Calls.mono HE.out ?_
    rintro e w5 ⟨o, p, ao, n, c, t, r', rfl, hX, -, -, hb5, hx⟩
    have hB5 : Below w.heap.size w w5 := hb5.below hB4 (by omega) (by omega)
    have T1 : Hid _ := hid (Be.new w5 o p (.slice ao n c))
    have T2 : Hid _ := hid (bal (Below.refl _ w5) (.cells #[.int .i64 o, .int .i64 p.1, .int .i64 p.2.1, .string p.2.2.1, .string p.2.2.2.1, .string p.2.2.2.2, .slice ao n c] 60))
    clear HE hb5 hC4 hp4 hB4
    unfold exV
    go_wp2_with fail
    go_meet
    exact ⟨_, o, p, ao, n, c, t, rfl, T1.out, (hx.mono fun _ _ _ => trivial).later T2.out, hX, Below.on hB5 T2.out⟩
  case rest =>
    obtain ⟨q, o, p, ao, n, c, t, rfl, hq, hx, hP, hB⟩ := hcut
    subst hCC
    have hcn := pl_cnd hP (by decide) False
    have hw := pl_words nmC_T hP
    have hz : (shE t).size ≤ 1000 := Nat.le_trans (pl_size nmC_T hP) (by decide)
    have HSh : Hid _ := hid (show_expr t (pl_wf nmC_T hP) (by omega) _ wc _ hx)
    clear HM hC3 hB3 hP h50 g50 g51 t1 g1 hs3 b1 hd h1 h2
    obtain ⟨k0, k1, k2, k3, k4, k5, k6⟩ := hq.cells
    unfold exV at HSh
    go_wp2_with fail
    refine Calls.mono HSh.out ?_
    rintro e w6 ⟨rfl, hb6⟩
    have hq6 := hq.later hb6
    have hx6 := hx.later hb6
    have hB6 := Below.on hB hb6
    clear HSh hq hx hB hb6 k0 k1 k2 k3 k4 k5 k6
    by_cases h150 : 150 < (shE t).size
    · have g0 : decide ((150 : Int) < ((shE t).size : Int)) = true := by simp; omega
      have g1 : decide (150 < (shE t).size) = true := by simpa using h150
      generalize shE t = s at *
      go_wp2
      go_ret
      exact ⟨rfl, hB6⟩
    have g0 : decide ((150 : Int) < ((shE t).size : Int)) = false := by simp; omega
    have g1 : decide (150 < (shE t).size) = false := by simpa using h150
    have H1 : Hid _ := hid (where_ok (s := shE t) (by omega) (told_del hcn hw (by omega)) w6)
    have H2 : Hid _ := hid (told_ins hcn hw (by omega))
    have H3 : Hid _ := hid (told_upd hcn hw (by omega))
    have hz : (shE t).size ≤ 150 := by omega
    clear hcn hw h150
    generalize shE t = s at *
    go_upto_region 10 with fail
    go_cut [9, 10] (fun v9 v10 w' => v10 = .bool true ∧ ∃ q9 o9 p9 a9 n9 c9, v9 = .pointer (some ⟨q9, 0, none⟩) ∧ Be w' q9 o9 p9 (.slice a9 n9 c9) ∧ Ex (fun b => True) w' t (exV o9 p9 (.slice a9 n9 c9)) ∧ Below w6.heap.size w6 w')
    case first =>
      go_wp2_with fail
      refine Calls.mono H1.out ?_
      rintro e w7 ⟨o9, p9, a9, n9, c9, rfl, hb7, hx7⟩
      have T1 : Hid _ := hid (Be.new w7 o9 p9 (.slice a9 n9 c9))
      have T2 : Hid _ := hid (bal (Below.refl _ w7) (.cells #[.int .i64 o9, .int .i64 p9.1, .int .i64 p9.2.1, .string p9.2.2.1, .string p9.2.2.2.1, .string p9.2.2.2.2, .slice a9 n9 c9] 60))
      clear H1 H2 H3
      unfold exV
      go_wp2_with fail
      go_meet
      exact ⟨rfl, _, o9, p9, a9, n9, c9, rfl, T1.out, (hx7.mono fun _ _ _ => trivial).later T2.out, Below.on hb7 T2.out⟩
    case rest =>
    obtain ⟨rfl, q9, o9, p9, a9, n9, c9, rfl, hq9, hx9, hb9⟩ := hcut
    have hqA := hq6.later hb9
    have hxA := hx6.later hb9
    have hBA := Below.on hB6 hb9
    clear H1 hq6 hx6 hB6 hb9 g0 g1
    have z1 : ((((⟨#[105, 110, 115, 101, 114, 116, 32, 105, 110, 116, 111, 32, 116, 32, 118, 97, 108, 117, 101, 115, 40]⟩ ++ s) ++ ⟨#[44, 32]⟩) ++ s) ++ ⟨#[41]⟩).size ≤ 9223372036854775807 := by
      rw [ByteArray.size_append, ByteArray.size_append, ByteArray.size_append, ByteArray.size_append]
      have e1 : (⟨#[105, 110, 115, 101, 114, 116, 32, 105, 110, 116, 111, 32, 116, 32, 118, 97, 108, 117, 101, 115, 40]⟩ : ByteArray).size = 21 := rfl
      have e2 : (⟨#[44, 32]⟩ : ByteArray).size = 2 := rfl
      have e3 : (⟨#[41]⟩ : ByteArray).size = 1 := rfl
      omega
    have HP : Hid _ := hid (parseStmt_any _ z1 wc)
    clear z1
    go_upto_region 11 with fail
    go_cut [11, 13] (fun v11 v13 w' => v13 = .int .i64 0 ∧ ∃ qi sv, v11 = .pointer (some ⟨qi, 0, none⟩) ∧ Bs w' qi sv ∧ IsS (fun b => True) w' (insM t).1 sv ∧ Below wc.heap.size wc w')
    case first =>
      go_wp2_with fail
      refine Calls.mono HP.out ?_
      rintro e w7 ⟨sv, X, at1, f, rfl, hb7, hp, -, hxx⟩
      obtain ⟨rfl, rfl⟩ := H2.out X at1 f hp
      obtain ⟨hi, -⟩ := hxx _ rfl
      have T1 : Hid _ := hid (Bs.new w7 sv)
      have T2 : Hid _ := hid (bal (Below.refl _ w7) (.cells #[.int .i64 sv.k, .string sv.tb, .string sv.nm, .slice sv.co.1 sv.co.2.1 sv.co.2.2, .slice sv.ta.1 sv.ta.2.1 sv.ta.2.2, .slice sv.va.1 sv.va.2.1 sv.va.2.2, .slice sv.it.1 sv.it.2.1 sv.it.2.2, .string sv.jn, .slice sv.on.1 sv.on.2.1 sv.on.2.2, .slice sv.wh.1 sv.wh.2.1 sv.wh.2.2, .slice sv.od.1 sv.od.2.1 sv.od.2.2, .bool sv.ds, .slice sv.inn.1 sv.inn.2.1 sv.inn.2.2] 30))
      have hi2 := (hi.mono (Q' := fun _ => True) fun _ _ _ => trivial).keep fun b _ hl => T2.out.block b hl
      have hb8 := Below.on hb7 T2.out
      have T3 : Hid _ := hid (And.intro hi2 hb8)
      clear HP H2 H3 hp hxx hi hi2 hb8 T2 hb7
      unfold stV
      go_wp2_with fail
      go_meet
      exact ⟨rfl, _, sv, rfl, T1.out, T3.out.1, T3.out.2⟩
    case rest =>
    obtain ⟨rfl, qi, sv, rfl, hqi, hsi, hbi⟩ := hcut
    have hqB := hqA.later hbi
    have hxB := hxA.later hbi
    have hq9B := hq9.later hbi
    have hx9B := hx9.later hbi
    have hBB := Below.on hBA hbi
    clear HP H2 hqA hxA hq9 hx9 hBA hbi
    generalize wc = wd at *
    have z1 : (((⟨#[117, 112, 100, 97, 116, 101, 32, 116, 32, 115, 101, 116, 32, 118, 32, 61, 32]⟩ ++ s) ++ ⟨#[32, 119, 104, 101, 114, 101, 32]⟩) ++ s).size ≤ 9223372036854775807 := by
      rw [ByteArray.size_append, ByteArray.size_append, ByteArray.size_append]
      have e1 : (⟨#[117, 112, 100, 97, 116, 101, 32, 116, 32, 115, 101, 116, 32, 118, 32, 61, 32]⟩ : ByteArray).size = 17 := rfl
      have e2 : (⟨#[32, 119, 104, 101, 114, 101, 32]⟩ : ByteArray).size = 7 := rfl
      omega
    have HP : Hid _ := hid (parseStmt_any _ z1 wd)
    clear z1
    go_upto_region 12 with fail
    go_cut [14, 16] (fun v14 v16 w' => v16 = .int .i64 0 ∧ ∃ qu su, v14 = .pointer (some ⟨qu, 0, none⟩) ∧ Bs w' qu su ∧ IsS (fun b => True) w' (updM t).1 su ∧ Below wd.heap.size wd w')
    case first =>
      go_wp2_with fail
      refine Calls.mono HP.out ?_
      rintro e w7 ⟨su, X, at1, f, rfl, hb7, hp, -, hxx⟩
      obtain ⟨rfl, rfl⟩ := H3.out X at1 f hp
      obtain ⟨hi, -⟩ := hxx _ rfl
      have T1 : Hid _ := hid (Bs.new w7 su)
      have T2 : Hid _ := hid (bal (Below.refl _ w7) (.cells #[.int .i64 su.k, .string su.tb, .string su.nm, .slice su.co.1 su.co.2.1 su.co.2.2, .slice su.ta.1 su.ta.2.1 su.ta.2.2, .slice su.va.1 su.va.2.1 su.va.2.2, .slice su.it.1 su.it.2.1 su.it.2.2, .string su.jn, .slice su.on.1 su.on.2.1 su.on.2.2, .slice su.wh.1 su.wh.2.1 su.wh.2.2, .slice su.od.1 su.od.2.1 su.od.2.2, .bool su.ds, .slice su.inn.1 su.inn.2.1 su.inn.2.2] 30))
      have hi2 := (hi.mono (Q' := fun _ => True) fun _ _ _ => trivial).keep fun b _ hl => T2.out.block b hl
      have hb8 := Below.on hb7 T2.out
      have T3 : Hid _ := hid (And.intro hi2 hb8)
      clear HP H3 hp hxx hi hi2 hb8 T2 hb7
      unfold stV
      go_wp2_with fail
      go_meet
      exact ⟨rfl, _, su, rfl, T1.out, T3.out.1, T3.out.2⟩
    case rest =>
    obtain ⟨rfl, qu, su, rfl, hqu, hsu, hbu⟩ := hcut
    have hq := hqB.later hbu
    have hx := hxB.later hbu
    have hq9 := hq9B.later hbu
    have hx9 := hx9B.later hbu
    have hqi' := hqi.later hbu
    have hsi' : IsS (fun b => True) wc (insM t).1 sv := hsi.keep fun b _ hl => hbu.block b hl
    have hB := Below.on hBB hbu
    clear HP H3 hqB hxB hq9B hx9B hqi hsi hBB hbu hz
    have ri : RowIs eExpr (fun b => True) wc (slV sv.va) [t, t] := hsi'.va
    have ru : RowIs eExpr (fun b => True) wc (slV su.va) [t] := hsu.va
    have rw' : RowIs eExpr (fun b => True) wc (slV su.wh) [t] := hsu.wh
    obtain ⟨q1, q2, q3⟩ := ri.num
    obtain ⟨q4, q5, q6⟩ := ru.num
    obtain ⟨q7, q8, q0⟩ := rw'.num
    obtain ⟨b1, f1, o1, p1, a1, n1, c1, e1, hce1, hex1⟩ := ri.at (k := 1) (by simp)
    obtain ⟨b2, f2, o2, p2, a2, n2, c2, e2, hce2, hex2⟩ := ru.at (k := 0) (by simp)
    obtain ⟨b3, f3, o3, p3, a3, n3, c3, e3, hce3, hex3⟩ := rw'.at (k := 0) (by simp)
    rw [Nat.one_mul] at hce1
    rw [Nat.zero_mul, Nat.add_zero] at hce2 hce3
    obtain ⟨-, -, -, -, -, kc, -⟩ := hqi'.cells
    obtain ⟨-, -, -, -, -, ke, -, -, -, kf, -⟩ := hqu.cells
    replace q1 : sv.va.2.1 = 2 := q1
    replace q4 : su.va.2.1 = 1 := q4
    replace q7 : su.wh.2.1 = 1 := q7
    rw [e1, q1] at kc
    rw [e2, q4] at ke
    rw [e3, q7] at kf
    rw [q1] at q2
    rw [q4] at q5
    rw [q7] at q8
    generalize sv.va.2.2 = c1' at kc q2 q3
    generalize su.va.2.2 = c2' at ke q5 q6
    generalize su.wh.2.2 = c3' at kf q8 q0
    have HS1 : Hid (∀ w1, Below wc.heap.size wc w1 → _) := hid fun w1 hb => sameExpr_all t _ _ w1 _ _ (hx9.later hb) (hx.later hb)
    have HS2 : Hid (∀ w1, Below wc.heap.size wc w1 → _) := hid fun w1 hb => sameExpr_all t _ _ w1 _ _ (hex1.later hb) (hx.later hb)
    have HS3 : Hid (∀ w1, Below wc.heap.size wc w1 → _) := hid fun w1 hb => sameExpr_all t _ _ w1 _ _ (hex2.later hb) (hx.later hb)
    have HS4 : Hid (∀ w1, Below wc.heap.size wc w1 → _) := hid fun w1 hb => sameExpr_all t _ _ w1 _ _ (hex3.later hb) (hx.later hb)
    obtain ⟨ka0, ka1, ka2, ka3, ka4, ka5, ka6⟩ := hq.cells
    obtain ⟨kb0, kb1, kb2, kb3, kb4, kb5, kb6⟩ := hq9.cells
    obtain ⟨kd0, kd1, kd2, kd3, kd4, kd5, kd6⟩ := hce1
    obtain ⟨kg0, kg1, kg2, kg3, kg4, kg5, kg6⟩ := hce2
    obtain ⟨kh0, kh1, kh2, kh3, kh4, kh5, kh6⟩ := hce3
    unfold exV at HS1 HS2 HS3 HS4
    have hC : Below wc.heap.size wc wc.drew := (Below.refl _ wc).drew
    clear hq hq9 hqi' hqu hsi' hsu ri ru rw' hx hx9 hex1 hex2 hex3 e1 e2 e3 q1 q4 q7
    go_upto_region 13 with fail
    go_region_held (fun w' => w'.cell? ⟨q, 0, none⟩ = some (.int .i64 o) ∧ w'.cell? ⟨q, 1, none⟩ = some (.int .i64 p.1) ∧ w'.cell? ⟨q, 2, none⟩ = some (.int .i64 p.2.1) ∧ w'.cell? ⟨q, 3, none⟩ = some (.string p.2.2.1) ∧ w'.cell? ⟨q, 4, none⟩ = some (.string p.2.2.2.1) ∧ w'.cell? ⟨q, 5, none⟩ = some (.string p.2.2.2.2) ∧ w'.cell? ⟨q, 6, none⟩ = some (.slice ao n c) ∧ w'.cell? ⟨q9, 0, none⟩ = some (.int .i64 o9) ∧ w'.cell? ⟨q9, 1, none⟩ = some (.int .i64 p9.1) ∧ w'.cell? ⟨q9, 2, none⟩ = some (.int .i64 p9.2.1) ∧ w'.cell? ⟨q9, 3, none⟩ = some (.string p9.2.2.1) ∧ w'.cell? ⟨q9, 4, none⟩ = some (.string p9.2.2.2.1) ∧ w'.cell? ⟨q9, 5, none⟩ = some (.string p9.2.2.2.2) ∧ w'.cell? ⟨q9, 6, none⟩ = some (.slice a9 n9 c9) ∧ w'.cell? ⟨qi, 5, none⟩ = some (.slice (some ⟨b1, f1, none⟩) 2 c1') ∧ w'.cell? ⟨b1, f1 + 7, none⟩ = some (.int .i64 o1) ∧ w'.cell? ⟨b1, f1 + 7 + 1, none⟩ = some (.int .i64 p1.1) ∧ w'.cell? ⟨b1, f1 + 7 + 2, none⟩ = some (.int .i64 p1.2.1) ∧ w'.cell? ⟨b1, f1 + 7 + 3, none⟩ = some (.string p1.2.2.1) ∧ w'.cell? ⟨b1, f1 + 7 + 4, none⟩ = some (.string p1.2.2.2.1) ∧ w'.cell? ⟨b1, f1 + 7 + 5, none⟩ = some (.string p1.2.2.2.2) ∧ w'.cell? ⟨b1, f1 + 7 + 6, none⟩ = some (.slice a1 n1 c1) ∧ w'.cell? ⟨qu, 5, none⟩ = some (.slice (some ⟨b2, f2, none⟩) 1 c2') ∧ w'.cell? ⟨qu, 9, none⟩ = some (.slice (some ⟨b3, f3, none⟩) 1 c3') ∧ w'.cell? ⟨b2, f2, none⟩ = some (.int .i64 o2) ∧ w'.cell? ⟨b2, f2 + 1, none⟩ = some (.int .i64 p2.1) ∧ w'.cell? ⟨b2, f2 + 2, none⟩ = some (.int .i64 p2.2.1) ∧ w'.cell? ⟨b2, f2 + 3, none⟩ = some (.string p2.2.2.1) ∧ w'.cell? ⟨b2, f2 + 4, none⟩ = some (.string p2.2.2.2.1) ∧ w'.cell? ⟨b2, f2 + 5, none⟩ = some (.string p2.2.2.2.2) ∧ w'.cell? ⟨b2, f2 + 6, none⟩ = some (.slice a2 n2 c2) ∧ w'.cell? ⟨b3, f3, none⟩ = some (.int .i64 o3) ∧ w'.cell? ⟨b3, f3 + 1, none⟩ = some (.int .i64 p3.1) ∧ w'.cell? ⟨b3, f3 + 2, none⟩ = some (.int .i64 p3.2.1) ∧ w'.cell? ⟨b3, f3 + 3, none⟩ = some (.string p3.2.2.1) ∧ w'.cell? ⟨b3, f3 + 4, none⟩ = some (.string p3.2.2.2.1) ∧ w'.cell? ⟨b3, f3 + 5, none⟩ = some (.string p3.2.2.2.2) ∧ w'.cell? ⟨b3, f3 + 6, none⟩ = some (.slice a3 n3 c3))
      (first | exact ⟨cell_later hC ka0, cell_later hC ka1, cell_later hC ka2, cell_later hC ka3, cell_later hC ka4, cell_later hC ka5, cell_later hC ka6, cell_later hC kb0, cell_later hC kb1, cell_later hC kb2, cell_later hC kb3, cell_later hC kb4, cell_later hC kb5, cell_later hC kb6, cell_later hC kc, cell_later hC kd0, cell_later hC kd1, cell_later hC kd2, cell_later hC kd3, cell_later hC kd4, cell_later hC kd5, cell_later hC kd6, cell_later hC ke, cell_later hC kf, cell_later hC kg0, cell_later hC kg1, cell_later hC kg2, cell_later hC kg3, cell_later hC kg4, cell_later hC kg5, cell_later hC kg6, cell_later hC kh0, cell_later hC kh1, cell_later hC kh2, cell_later hC kh3, cell_later hC kh4, cell_later hC kh5, cell_later hC kh6⟩)
      (first
      | (go_at_call 19; with_reducible refine Calls.mono (HS1.out _ hC) ?_; rintro e z1 ⟨rfl, hb1⟩; replace hC := Below.on hC hb1)
      | (go_at_call 19; with_reducible refine Calls.mono (HS2.out _ hC) ?_; rintro e z1 ⟨rfl, hb1⟩; replace hC := Below.on hC hb1)
      | (go_at_call 19; with_reducible refine Calls.mono (HS3.out _ hC) ?_; rintro e z1 ⟨rfl, hb1⟩; replace hC := Below.on hC hb1)
      | (go_at_call 19; with_reducible refine Calls.mono (HS4.out _ hC) ?_; rintro e z1 ⟨rfl, hb1⟩; replace hC := Below.on hC hb1))
    all_goals
      go_wp2
      go_ret
      exact ⟨rfl, Below.on hB hC⟩

end Go.Proofs.YtfopfhlohihihaaGreat

