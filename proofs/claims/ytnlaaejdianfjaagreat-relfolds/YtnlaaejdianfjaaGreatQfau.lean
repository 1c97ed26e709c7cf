import Derived.Test.YtnlaaejdianfjaaGreatQfat
import Derived.Test.YtnlaaejdianfjaaGreatQfal
namespace Go.Proofs.YtnlaaejdianfjaaGreat
open Go.RowKit
set_option linter.unusedVariables false
set_option linter.unusedSimpArgs false

set_option maxRecDepth 100000 in
set_option maxHeartbeats 16000000 in
theorem relFolds_n {a : Option Addr} {len cap : Nat} {zs : List Nat} (w : World) (hz : zs.length = len) (hlc : len ≤ cap) (hcm : cap ≤ 9223372036854775807) (hnx : NumX w a zs) (nu : Nat) (hnu : nu ≤ 255) : Calls Tryz.prog 8 #[.slice a len cap, .int .u8 (nu : Int), .bool false] w fun e w' => e = .returned (.bool true) ∧ Below w.heap.size w w' := by
  have H0 : Hid _ := hid (begun12_any w)
  have HS : Hid (∀ w1, _) := hid fun w1 => schemaT_any w1
  have HNu : Hid (∀ w1 : World, Below w.heap.size w w1 → NumX w1 a zs) := hid fun w1 hb => hnx.later hb
  clear hnx
  go_enter Tryz.func8, Tryz.ntmps8
  go_wp2_with fail
  refine Calls.mono H0.out ?_
  rintro e U ⟨rfl, hw⟩
  clear H0
  by_cases hl : 60 < len
  · have hl1 : (60 : Int) < (len : Int) := by omega
    have hl2 : decide ((60 : Int) < (len : Int)) = true := by simpa using hl1
    go_wp2
    go_ret
    exact ⟨rfl, hw⟩
  have hl1 : ¬ (60 : Int) < (len : Int) := by omega
  have hl2 : decide ((60 : Int) < (len : Int)) = false := by simpa using hl1
  go_wp2_with fail
  refine Calls.mono (HS.out _) ?_
  rintro e U1 ⟨tbk, rfl, hT, hbk, hb1⟩
  replace hw := Below.on hw hb1
  have hrow := hT.row
  obtain ⟨_, _, _, e', -, -, -, hx⟩ := hrow
  cases e'
  obtain ⟨_, _, e', -, hi⟩ := hx (by decide)
  cases e'
  obtain ⟨cs, hE, -, hcc⟩ := hi 0 (by simp)
  obtain ⟨ca, cn, cc, xa, xn, xc, rfl, hcol, hix⟩ := hE
  have c0 : U1.cell? ⟨tbk, 0, none⟩ = some (.string ⟨#[116]⟩) := by have := hcc 0 (show 0 < 3 by decide); simpa [eTbl] using this
  have c1 : U1.cell? ⟨tbk, 1, none⟩ = some (.slice ca cn cc) := by have := hcc 1 (show 1 < 3 by decide); simpa [eTbl] using this
  have c2 : U1.cell? ⟨tbk, 2, none⟩ = some (.slice xa xn xc) := by have := hcc 2 (show 2 < 3 by decide); simpa [eTbl] using this
  have HCol : Hid (∀ w', Below U1.heap.size U1 w' → RowIs eCol (fun _ => True) w' (.slice ca cn cc) tbT.cols) := hid fun w' hb => (hcol.mono (by decide) fun _ _ _ => trivial).keep (by decide) fun b _ hl => hb.block b hl
  have HIdx : Hid (∀ w', Below U1.heap.size U1 w' → RowIs eStr (fun _ => True) w' (.slice xa xn xc) tbT.index) := hid fun w' hb => (hix.mono (by decide) fun _ _ _ => trivial).keep (by decide) fun b _ hl => hb.block b hl
  obtain rfl : 3 = cn := (row_lens hcol).1
  have hft := fldT
  have hb2 := bal (Below.refl _ U1) (.cells #[.string ⟨#[116]⟩, .slice ca 3 cc, .slice xa xn xc] 33)
  have bT := Bk.new U1 (.cells #[.string ⟨#[116]⟩, .slice ca 3 cc, .slice xa xn xc] 33)
  clear hT hx hi hcc hb1 HS hcol hix
  go_upto_region 6 with fail
  generalize U1.alloc (.cells #[.string ⟨#[116]⟩, .slice ca 3 cc, .slice xa xn xc] 33) = U1t at *
  obtain ⟨qt, hqt⟩ : ∃ qt, U1.heap.size = qt := ⟨_, rfl⟩
  rw [hqt] at bT
  (try rw [hqt])
  obtain ⟨t0, t1, t2⟩ : U1t.cell? ⟨qt, 0, none⟩ = some (.string ⟨#[116]⟩) ∧ U1t.cell? ⟨qt, 1, none⟩ = some (.slice ca 3 cc) ∧ U1t.cell? ⟨qt, 2, none⟩ = some (.slice xa xn xc) := ⟨bT.cell 0, bT.cell 1, bT.cell 2⟩
  have HRw : Hid _ := hid (rowsP_any hz hlc hcm (HNu.out U1t (Below.on hw hb2)) tbT.cols (by decide) (by decide) ⟨#[116]⟩ xa xn xc (HCol.out _ hb2) 12 (by decide))
  obtain ⟨L, hL⟩ : ∃ L, rowsX (tbT.cols.map fun c => c.2.1) 12 zs = L := ⟨_, rfl⟩
  have hL12 : L.length ≤ 12 := by rw [← hL]; exact rowsX_len _ _ _
  have HRok : Hid (∀ r ∈ L, RwOK tbT.cols r) := hid (by rw [← hL]; exact rowsX_mem (by decide) _ _)
  rw [hL] at HRw
  replace hw := Below.on hw hb2
  clear hL HNu c0 c1 c2 hft hqt bT
  go_wp2_with fail
  refine Calls.mono HRw.out ?_
  rintro e W4 ⟨v, rfl, hTe, hb4⟩
  have hU4 : Below U1.heap.size U1 W4 := Below.on hb2 hb4
  replace hw := Below.on hw hb4
  replace t0 := cell_later hb4 t0
  replace t1 := cell_later hb4 t1
  replace t2 := cell_later hb4 t2
  obtain ⟨css, hO, -, -⟩ := id hTe
  obtain ⟨ba, bn, bc, rfl⟩ := hO.sl
  obtain rfl := hTe.len
  have rI : RowIs eRow (fun _ => True) W4 (.slice ba L.length bc) L := hTe.row.mono (by decide) fun _ _ _ => trivial
  obtain ⟨-, hbc, hbm⟩ := row_lens rI
  have HL : Hid (∀ w', Below W4.heap.size W4 w' → RowIs eRow (fun _ => True) w' (.slice ba L.length bc) L) := hid fun w' hb => rI.keep (by decide) fun b _ hl => hb.block b hl
  replace HCol : Hid (∀ w', Below W4.heap.size W4 w' → RowIs eCol (fun _ => True) w' (.slice ca 3 cc) tbT.cols) := hid fun w' hb => HCol.out w' (Below.on hU4 hb)
  replace HIdx : Hid (∀ w', Below W4.heap.size W4 w' → RowIs eStr (fun _ => True) w' (.slice xa xn xc) tbT.index) := hid fun w' hb => HIdx.out w' (Below.on hU4 hb)
  obtain ⟨bco, oco, hca, k0, k1, k2⟩ := col1 (HCol.out W4 (Below.refl _ _)) (k := 2) (by decide)
  subst hca
  have hnm : tbT.cols[2].1 = ⟨#[110]⟩ := rfl
  rw [hnm] at k0
  clear hTe hO rI HRw hb4 hb2 hU4 css hnm k1 k2 hbk
  obtain ⟨qi, hqi⟩ : ∃ qi, W4.heap.size = qi := ⟨_, rfl⟩
  have bI := (Bk.new W4 (.cells #[.int .i64 3, .string ⟨#[]⟩, .string ⟨#[110]⟩, .int .i64 4, .string ⟨#[]⟩, .string ⟨#[110]⟩] 50)).later (bal (Below.refl _ _) (.cells #[.int .i64 6, .string ⟨#[116]⟩, .string ⟨#[]⟩, .slice none 0 0, .slice none 0 0, .slice none 0 0, .slice (some ⟨qi, 0, none⟩) 2 2, .string ⟨#[]⟩, .slice none 0 0, .slice none 0 0, .slice none 0 0, .bool false, .slice none 0 0] 30))
  have bS := Bk.new (W4.alloc (.cells #[.int .i64 3, .string ⟨#[]⟩, .string ⟨#[110]⟩, .int .i64 4, .string ⟨#[]⟩, .string ⟨#[110]⟩] 50)) (.cells #[.int .i64 6, .string ⟨#[116]⟩, .string ⟨#[]⟩, .slice none 0 0, .slice none 0 0, .slice none 0 0, .slice (some ⟨qi, 0, none⟩) 2 2, .string ⟨#[]⟩, .slice none 0 0, .slice none 0 0, .slice none 0 0, .bool false, .slice none 0 0] 30)
  rw [World.size_alloc, hqi] at bS
  rw [hqi] at bI
  have hb5 := bal (bal (Below.refl _ W4) (.cells #[.int .i64 3, .string ⟨#[]⟩, .string ⟨#[110]⟩, .int .i64 4, .string ⟨#[]⟩, .string ⟨#[110]⟩] 50)) (.cells #[.int .i64 6, .string ⟨#[116]⟩, .string ⟨#[]⟩, .slice none 0 0, .slice none 0 0, .slice none 0 0, .slice (some ⟨qi, 0, none⟩) 2 2, .string ⟨#[]⟩, .slice none 0 0, .slice none 0 0, .slice none 0 0, .bool false, .slice none 0 0] 30)
  have HQi : Hid _ := hid hqi
  go_upto_region 12 with fail
  (try rw [hqi])
  (try rw [World.size_alloc, hqi])
  clear hqi k0
  generalize (W4.alloc (.cells #[.int .i64 3, .string ⟨#[]⟩, .string ⟨#[110]⟩, .int .i64 4, .string ⟨#[]⟩, .string ⟨#[110]⟩] 50)).alloc (.cells #[.int .i64 6, .string ⟨#[116]⟩, .string ⟨#[]⟩, .slice none 0 0, .slice none 0 0, .slice none 0 0, .slice (some ⟨qi, 0, none⟩) 2 2, .string ⟨#[]⟩, .slice none 0 0, .slice none 0 0, .slice none 0 0, .bool false, .slice none 0 0] 30) = W5 at *
  have hw5 := Below.on hw hb5
  replace t0 := cell_later hb5 t0
  replace t1 := cell_later hb5 t1
  replace t2 := cell_later hb5 t2
  have HSel : Hid _ := hid (selFT_any (its := [(3, ⟨#[]⟩, ⟨#[110]⟩), (4, ⟨#[]⟩, ⟨#[110]⟩)]) (ii := (some ⟨qi, 0, none⟩, 2, 2)) (c := (some ⟨bco, oco, none⟩, 3, cc)) (x := (xa, xn, xc)) (lr := (ba, L.length, bc)) (by simp) rfl (it2_row bI) (HCol.out _ hb5) (HIdx.out _ hb5) (HL.out _ hb5) (by omega) HRok.out)
  dsimp only [stV, tbV, slV] at HSel
  obtain ⟨s0, s1, s2, s3, s4, s5, s6, s7, s8, s9, s10, s11, s12⟩ : W5.cell? ⟨qi + 1, 0, none⟩ = some (.int .i64 6) ∧ W5.cell? ⟨qi + 1, 1, none⟩ = some (.string ⟨#[116]⟩) ∧ W5.cell? ⟨qi + 1, 2, none⟩ = some (.string ⟨#[]⟩) ∧ W5.cell? ⟨qi + 1, 3, none⟩ = some (.slice none 0 0) ∧ W5.cell? ⟨qi + 1, 4, none⟩ = some (.slice none 0 0) ∧ W5.cell? ⟨qi + 1, 5, none⟩ = some (.slice none 0 0) ∧ W5.cell? ⟨qi + 1, 6, none⟩ = some (.slice (some ⟨qi, 0, none⟩) 2 2) ∧ W5.cell? ⟨qi + 1, 7, none⟩ = some (.string ⟨#[]⟩) ∧ W5.cell? ⟨qi + 1, 8, none⟩ = some (.slice none 0 0) ∧ W5.cell? ⟨qi + 1, 9, none⟩ = some (.slice none 0 0) ∧ W5.cell? ⟨qi + 1, 10, none⟩ = some (.slice none 0 0) ∧ W5.cell? ⟨qi + 1, 11, none⟩ = some (.bool false) ∧ W5.cell? ⟨qi + 1, 12, none⟩ = some (.slice none 0 0) := ⟨bS.cell 0, bS.cell 1, bS.cell 2, bS.cell 3, bS.cell 4, bS.cell 5, bS.cell 6, bS.cell 7, bS.cell 8, bS.cell 9, bS.cell 10, bS.cell 11, bS.cell 12⟩
  clear bS bI
  by_cases hL0 : L = []
  · subst hL0
    rw [fold_mm0 pl_n] at HSel
    dsimp only [List.length_nil] at HSel
    clear HL HCol HIdx HRok
    go_wp2_with fail
    refine Calls.mono HSel.out ?_
    rintro e W6 ⟨ma, mn, mc, rfl, -, hN, hb6⟩
    obtain ⟨rfl, rfl, rfl⟩ := hN (by simp)
    have hB6 := Below.on hw5 hb6
    clear HSel hb6 hN s0 s1 s2 s3 s4 s5 s6 s7 s8 s9 s10 s11 s12
    go_wp2
    go_ret
    exact ⟨by first | rfl | simp, hB6⟩
  have hlen : 0 < L.length := List.length_pos_iff.2 hL0
  have hlI : decide ((L.length : Int) = 0) = false := by rw [decide_eq_false_iff_not]; omega
  have hlI2 : ((L.length : Int) == 0) = false := by simpa using hL0
  obtain ⟨A, B, he, hr, hA, hB, hAl, hBl⟩ := fold_mm pl_n (L := L) (fun r hr => by rw [rwOK_len (HRok.out r hr)]; decide) hL0
  rw [he, hr] at HSel
  have HAB : Hid _ := hid (And.intro hA (And.intro hB (And.intro hAl hBl)))
  clear he hr hA hB hAl hBl
  go_wp2_with fail
  refine Calls.mono HSel.out ?_
  rintro e W6 ⟨ma, mn, mc, rfl, hT, -, hb6⟩
  have hT' := hT rfl
  obtain rfl : mn = 1 := hT'.len
  have hB6 := Below.on hw5 hb6
  have hb46 := Below.on hb5 hb6
  obtain ⟨b7, o7, ra, rn, rc, rfl, -, m0, rm⟩ := row1 hT'.row (k := 0) (by simp)
  have rm' : RowIs eVal _ W6 (.slice ra rn rc) [A, B] := rm
  obtain rfl : 2 = rn := (row_lens rm').1
  obtain ⟨b8, o8, rfl, -, a0, a1, a2⟩ := val1 rm' (k := 0) (by simp)
  obtain ⟨b8', o8', e8, -, e0, e1, e2⟩ := val1 rm' (k := 1) (by simp)
  cases e8
  simp only [Nat.zero_mul, Nat.one_mul, Nat.add_zero, List.getElem_cons_zero, List.getElem_cons_succ] at m0 a0 a1 a2 e0 e1 e2
  obtain ⟨A0, A1, A2⟩ := A
  obtain ⟨B0, B1, B2⟩ := B
  dsimp only at a0 a1 a2 e0 e1 e2
  have HLv : Hid (∀ w', Below W6.heap.size W6 w' → RowIs eRow (fun _ => True) w' (.slice ba L.length bc) L) := hid fun w' hb => HL.out w' (Below.on hb46 hb)
  have HAfter : Hid _ := hid (And.intro HL.out (And.intro HCol.out HIdx.out))
  replace t0 := cell_later hb6 t0
  replace t1 := cell_later hb6 t1
  replace t2 := cell_later hb6 t2
  have HT : Hid (W6.cell? ⟨qt, 0, none⟩ = some (.string ⟨#[116]⟩) ∧ W6.cell? ⟨qt, 1, none⟩ = some (.slice (some ⟨bco, oco, none⟩) 3 cc) ∧ W6.cell? ⟨qt, 2, none⟩ = some (.slice xa xn xc)) := hid ⟨t0, t1, t2⟩
  have HB6 : Hid _ := hid hB6
  clear HSel hb6 hT hT' rm rm' s0 s1 s2 s3 s4 s5 s6 s7 s8 s9 s10 s11 s12 t0 t1 t2 HL HCol HIdx hb5 hw5 hB6
  go_wp2
  have HLen : Hid (0 < L.length) := hid hlen
  go_loopw [14, 15, 16] (fun v14 v15 v16 wr => ∃ (k : Nat), k ≤ L.length ∧ v16 = .int .i64 k ∧ v14 = .bool ((L.take k).any fun r => decide (cvC 2 r = (A0, A1, A2))) ∧ v15 = .bool ((L.take k).any fun r => decide (cvC 2 r = (B0, B1, B2))) ∧ Below W6.heap.size W6 wr) (fun _ _ i _ => L.length - (intOf i).toNat)
  case atStart => exact ⟨0, Nat.zero_le _, rfl, rfl, rfl, Below.refl _ _⟩
  case round =>
    obtain ⟨k, hk, rfl, rfl, rfl, hB⟩ := hrel
    by_cases hlt : k < L.length
    · have hnA := any_snocT hlt fun r => decide (cvC 2 r = (A0, A1, A2))
      have hnB := any_snocT hlt fun r => decide (cvC 2 r = (B0, B1, B2))
      generalize ((L.take k).any fun r => decide (cvC 2 r = (A0, A1, A2))) = la at *
      generalize ((L.take k).any fun r => decide (cvC 2 r = (B0, B1, B2))) = lb at *
      obtain ⟨b, o, xa', xn', xc', rfl, -, x0, rx⟩ := row1 (HLv.out wr hB) hlt
      have hmem := List.getElem_mem hlt
      have hok := HRok.out _ hmem
      have hx3 : L[k].length = 3 := rwOK_len hok
      have hcm' : cvC 2 L[k] ∈ L.map (cvC 2) := List.mem_map_of_mem hmem
      obtain ⟨b9, o9, rfl, -, y0, y1, y2⟩ := val1 rx (k := 2) (by omega)
      have hxn : L[k].length = xn' := (row_lens rx).1
      obtain rfl : 3 = xn' := by omega
      have hcv : L[k][2]'(by omega) = cvC 2 L[k] := by unfold cvC; rw [List.getD_eq_getElem?_getD, List.getElem?_eq_getElem (by omega)]; rfl
      rw [hcv] at y0 y1 y2
      have hgd : ∀ v ∈ L.map (cvC 2), mayV v.1 v.2.1 (nums v.2.2) = true ∧ v.2.2.size ≤ 9223372036854775807 := fun v hv => by
        obtain ⟨r, hr, rfl⟩ := List.mem_map.1 hv
        have h3 : r.length = 3 := rwOK_len (HRok.out r hr)
        have hm : cvC 2 r ∈ r := by unfold cvC; rw [List.getD_eq_getElem?_getD, List.getElem?_eq_getElem (by omega)]; exact List.getElem_mem _
        have hg := rwOK_good (HRok.out r hr) _ hm
        exact ⟨hg.1, by have := hg.2.2; simpa [maxLen] using this⟩
      obtain ⟨hA, hBm, hAl, hBl⟩ := HAB.out
      obtain ⟨V, hV⟩ : ∃ V, cvC 2 L[k] = V := ⟨_, rfl⟩
      rw [hV] at hnA hnB y0 y1 y2 hcm'
      obtain ⟨v0, v1, v2⟩ := V
      have gV := hgd _ hcm'
      have gA := hgd _ hA
      have gB := hgd _ hBm
      have hc1 := hAl _ hcm'
      have hc2 := hBl _ hcm'
      have HC1 : Hid (∀ w', _) := hid fun w' => refCompare_any v0 v1 v2 A0 A1 A2 gV.2 gA.2 w'
      have HC2 : Hid (∀ w', _) := hid fun w' => refCompare_any v0 v1 v2 B0 B1 B2 gV.2 gB.2 w'
      rw [refC_eq gV.1 gA.1] at HC1
      rw [refC_eq gV.1 gB.1] at HC2
      rw [show cmpV v0 v1 (nums v2) A0 A1 (nums A2) = cmpVt (v0, v1, v2) (A0, A1, A2) from rfl] at HC1
      rw [show cmpV v0 v1 (nums v2) B0 B1 (nums B2) = cmpVt (v0, v1, v2) (B0, B1, B2) from rfl] at HC2
      generalize cmpVt (v0, v1, v2) (A0, A1, A2) = r1 at *
      generalize cmpVt (v0, v1, v2) (B0, B1, B2) = r2 at *
      have d1 : decide (r1 < 0) = false := by simpa using hc1
      have d2 : decide (0 < r2) = false := by simpa using hc2
      obtain ⟨eA, heA⟩ : ∃ eA, decide (((v0, v1, v2) : Vt) = (A0, A1, A2)) = eA := ⟨_, rfl⟩
      obtain ⟨eB, heB⟩ : ∃ eB, decide (((v0, v1, v2) : Vt) = (B0, B1, B2)) = eB := ⟨_, rfl⟩
      have fA := fun w' => runV_eqs heA w'
      have fB := fun w' => runV_eqs heB w'
      rw [heA] at hnA
      rw [heB] at hnB
      have HnA : Hid _ := hid hnA
      have HnB : Hid _ := hid hnB
      have hkI : (k : Int) < (L.length : Int) := by omega
      have hwk := wrapS (k := k) (n := L.length) (c := bc) hlt hbc hbm
      obtain ⟨q7, hq7⟩ : ∃ q7, wr.heap.size = q7 := ⟨_, rfl⟩
      have bV := Bk.new wr (.cells #[.int .i64 v0, .int .i64 v1, .string v2] 44)
      rw [hq7] at bV
      have hw7 := bal (Below.refl _ wr) (.cells #[.int .i64 v0, .int .i64 v1, .string v2] 44)
      have hB7 := Below.on hB hw7
      dsimp only at y0 y1 y2
      clear rx hmem hok hx3 hcm' hcv hgd hA hBm hAl hBl hV gV gA gB hc1 hc2 heA heB hnA hnB HRok HAB HAfter HT HLv hxn
      go_upto_region 22 with fail
      (try rw [hq7])
      clear hq7
      generalize wr.alloc (.cells #[.int .i64 v0, .int .i64 v1, .string v2] 44) = W7 at *
      obtain ⟨z0, z1, z2⟩ := (⟨bV.row⟩ : Bv W7 q7 v0 v1 v2).cells
      replace m0 := cell_later hB7 m0
      replace a0 := cell_later hB7 a0
      replace a1 := cell_later hB7 a1
      replace a2 := cell_later hB7 a2
      replace e0 := cell_later hB7 e0
      replace e1 := cell_later hB7 e1
      replace e2 := cell_later hB7 e2
      clear x0 y0 y1 y2 bV
      have hY : Below W7.heap.size W7 W7.drew := (Below.refl _ W7).drew
      refine wp_region_held_drew (S := fun w' => w'.cell? ⟨q7, 0, none⟩ = some (.int .i64 v0) ∧ w'.cell? ⟨q7, 1, none⟩ = some (.int .i64 v1) ∧ w'.cell? ⟨q7, 2, none⟩ = some (.string v2) ∧ w'.cell? ⟨b7, o7, none⟩ = some (.slice (some ⟨b8, o8, none⟩) 2 rc) ∧ w'.cell? ⟨b8, o8, none⟩ = some (.int .i64 A0) ∧ w'.cell? ⟨b8, o8 + 1, none⟩ = some (.int .i64 A1) ∧ w'.cell? ⟨b8, o8 + 2, none⟩ = some (.string A2) ∧ w'.cell? ⟨b8, o8 + 3, none⟩ = some (.int .i64 B0) ∧ w'.cell? ⟨b8, o8 + 3 + 1, none⟩ = some (.int .i64 B1) ∧ w'.cell? ⟨b8, o8 + 3 + 2, none⟩ = some (.string B2)) (by kernel_rfl) (⟨cell_later hY z0, cell_later hY z1, cell_later hY z2, cell_later hY m0, cell_later hY a0, cell_later hY a1, cell_later hY a2, cell_later hY e0, cell_later hY e1, cell_later hY e2⟩) (fun hHeld => ?_)
      generalize W7.drew = y at *
      refine wpAnyH_take (i := 0) (v := ?tv9001) rfl (by kernel_rfl) (by kernel_rfl) (by kernel_rfl) (fun _ _ _ h => h) (Or.inl ⟨by rfl, ?hy9001⟩) (by assumption) ?rs9001
      case hy9001 => (intro w9 hSw; (try dsimp only at hSw); go_simp; (try with_reducible rfl))
      (try simp only [Act.put, List.getElem_toArray, List.getElem_cons_zero, List.getElem_cons_succ, List.setIfInBounds_toArray, List.set_cons_zero, List.set_cons_succ])
      refine wpAnyH_take (i := 1) (v := ?tv9002) rfl (by kernel_rfl) (by kernel_rfl) (by kernel_rfl) (fun _ _ _ h => h) (Or.inl ⟨by rfl, ?hy9002⟩) (by assumption) ?rs9002
      case hy9002 => (intro w9 hSw; (try dsimp only at hSw); go_simp; (try with_reducible rfl))
      (try simp only [Act.put, List.getElem_toArray, List.getElem_cons_zero, List.getElem_cons_succ, List.setIfInBounds_toArray, List.set_cons_zero, List.set_cons_succ])
      refine wpAnyH_take (i := 2) (v := ?tv9003) rfl (by kernel_rfl) (by kernel_rfl) (by kernel_rfl) (fun _ _ _ h => h) (Or.inl ⟨by rfl, ?hy9003⟩) (by assumption) ?rs9003
      case hy9003 => (intro w9 hSw; (try dsimp only at hSw); go_simp; (try with_reducible rfl))
      (try simp only [Act.put, List.getElem_toArray, List.getElem_cons_zero, List.getElem_cons_succ, List.setIfInBounds_toArray, List.set_cons_zero, List.set_cons_succ])
      refine wpAnyH_take (i := 3) (v := ?tv9004) rfl (by kernel_rfl) (by kernel_rfl) (by kernel_rfl) (fun _ _ _ h => h) (Or.inl ⟨by rfl, ?hy9004⟩) (by assumption) ?rs9004
      case hy9004 => (intro w9 hSw; (try dsimp only at hSw); go_simp; (try with_reducible rfl))
      (try simp only [Act.put, List.getElem_toArray, List.getElem_cons_zero, List.getElem_cons_succ, List.setIfInBounds_toArray, List.set_cons_zero, List.set_cons_succ])
      refine wpAnyH_take (i := 4) (v := ?tv9005) rfl (by kernel_rfl) (by kernel_rfl) (by kernel_rfl) (fun _ _ _ h => h) (Or.inl ⟨by rfl, ?hy9005⟩) (by assumption) ?rs9005
      case hy9005 => (intro w9 hSw; (try dsimp only at hSw); go_simp; (try with_reducible rfl))
      (try simp only [Act.put, List.getElem_toArray, List.getElem_cons_zero, List.getElem_cons_succ, List.setIfInBounds_toArray, List.set_cons_zero, List.set_cons_succ])
      refine wpAnyH_take (i := 5) (v := ?tv9006) rfl (by kernel_rfl) (by kernel_rfl) (by kernel_rfl) (fun _ _ _ h => h) (Or.inl ⟨by rfl, ?hy9006⟩) (by assumption) ?rs9006
      case hy9006 => (intro w9 hSw; (try dsimp only at hSw); go_simp; (try with_reducible rfl))
      (try simp only [Act.put, List.getElem_toArray, List.getElem_cons_zero, List.getElem_cons_succ, List.setIfInBounds_toArray, List.set_cons_zero, List.set_cons_succ])
      refine wpAnyH_ready (rs := [6]) (by kernel_rfl) (by simp) ?_
      refine AllReadyH.cons rfl (fun K hK => ?_) AllReadyH.nil
      go_simp
      go_wp2_with (first | (go_at_call 19; (refine Calls.mono (HC1.out _) ?_); rintro e y ⟨rfl, hby⟩; replace hY := Below.on hY hby))
      refine hK.out _ _ (⟨cell_later hY z0, cell_later hY z1, cell_later hY z2, cell_later hY m0, cell_later hY a0, cell_later hY a1, cell_later hY a2, cell_later hY e0, cell_later hY e1, cell_later hY e2⟩) (fun hHeld => ?_)
      clear hK K
      (try simp only [Act.put, List.getElem_toArray, List.getElem_cons_zero, List.getElem_cons_succ, List.setIfInBounds_toArray, List.set_cons_zero, List.set_cons_succ])
      refine wpAnyH_take (i := 7) (v := ?tv9007) rfl (by kernel_rfl) (by kernel_rfl) (by kernel_rfl) (fun _ _ _ h => h) (Or.inl ⟨by rfl, ?hy9007⟩) (by assumption) ?rs9007
      case hy9007 => (intro w9 hSw; (try dsimp only at hSw); go_simp; (try with_reducible rfl))
      (try simp only [Act.put, List.getElem_toArray, List.getElem_cons_zero, List.getElem_cons_succ, List.setIfInBounds_toArray, List.set_cons_zero, List.set_cons_succ])
      refine wpAnyH_take (i := 8) (v := ?tv9008) rfl (by kernel_rfl) (by kernel_rfl) (by kernel_rfl) (fun _ _ _ h => h) (Or.inl ⟨by rfl, ?hy9008⟩) (by assumption) ?rs9008
      case hy9008 => (intro w9 hSw; (try dsimp only at hSw); go_simp; (try with_reducible rfl))
      (try simp only [Act.put, List.getElem_toArray, List.getElem_cons_zero, List.getElem_cons_succ, List.setIfInBounds_toArray, List.set_cons_zero, List.set_cons_succ])
      refine wpAnyH_take (i := 9) (v := ?tv9009) rfl (by kernel_rfl) (by kernel_rfl) (by kernel_rfl) (fun _ _ _ h => h) (Or.inl ⟨by rfl, ?hy9009⟩) (by assumption) ?rs9009
      case hy9009 => (intro w9 hSw; (try dsimp only at hSw); go_simp; (try with_reducible rfl))
      (try simp only [Act.put, List.getElem_toArray, List.getElem_cons_zero, List.getElem_cons_succ, List.setIfInBounds_toArray, List.set_cons_zero, List.set_cons_succ])
      refine wpAnyH_take (i := 10) (v := ?tv9010) rfl (by kernel_rfl) (by kernel_rfl) (by kernel_rfl) (fun _ _ _ h => h) (Or.inl ⟨by rfl, ?hy9010⟩) (by assumption) ?rs9010
      case hy9010 => (intro w9 hSw; (try dsimp only at hSw); go_simp; (try with_reducible rfl))
      (try simp only [Act.put, List.getElem_toArray, List.getElem_cons_zero, List.getElem_cons_succ, List.setIfInBounds_toArray, List.set_cons_zero, List.set_cons_succ])
      refine wpAnyH_take (i := 11) (v := ?tv9011) rfl (by kernel_rfl) (by kernel_rfl) (by kernel_rfl) (fun _ _ _ h => h) (Or.inl ⟨by rfl, ?hy9011⟩) (by assumption) ?rs9011
      case hy9011 => (intro w9 hSw; (try dsimp only at hSw); go_simp; (try with_reducible rfl))
      (try simp only [Act.put, List.getElem_toArray, List.getElem_cons_zero, List.getElem_cons_succ, List.setIfInBounds_toArray, List.set_cons_zero, List.set_cons_succ])
      refine wpAnyH_take (i := 12) (v := ?tv9012) rfl (by kernel_rfl) (by kernel_rfl) (by kernel_rfl) (fun _ _ _ h => h) (Or.inl ⟨by rfl, ?hy9012⟩) (by assumption) ?rs9012
      case hy9012 => (intro w9 hSw; (try dsimp only at hSw); go_simp; (try with_reducible rfl))
      (try simp only [Act.put, List.getElem_toArray, List.getElem_cons_zero, List.getElem_cons_succ, List.setIfInBounds_toArray, List.set_cons_zero, List.set_cons_succ])
      refine wpAnyH_take (i := 13) (v := ?tv9013) rfl (by kernel_rfl) (by kernel_rfl) (by kernel_rfl) (fun _ _ _ h => h) (Or.inl ⟨by rfl, ?hy9013⟩) (by assumption) ?rs9013
      case hy9013 => (intro w9 hSw; (try dsimp only at hSw); go_simp; (try with_reducible rfl))
      (try simp only [Act.put, List.getElem_toArray, List.getElem_cons_zero, List.getElem_cons_succ, List.setIfInBounds_toArray, List.set_cons_zero, List.set_cons_succ])
      refine wpAnyH_take (i := 14) (v := ?tv9014) rfl (by kernel_rfl) (by kernel_rfl) (by kernel_rfl) (fun _ _ _ h => h) (Or.inl ⟨by rfl, ?hy9014⟩) (by assumption) ?rs9014
      case hy9014 => (intro w9 hSw; (try dsimp only at hSw); go_simp; (try with_reducible rfl))
      (try simp only [Act.put, List.getElem_toArray, List.getElem_cons_zero, List.getElem_cons_succ, List.setIfInBounds_toArray, List.set_cons_zero, List.set_cons_succ])
      refine wpAnyH_ready (rs := [15]) (by kernel_rfl) (by simp) ?_
      refine AllReadyH.cons rfl (fun K hK => ?_) AllReadyH.nil
      go_simp
      go_wp2_with (first | (go_at_call 19; (refine Calls.mono (HC2.out _) ?_); rintro e y ⟨rfl, hby⟩; replace hY := Below.on hY hby))
      refine hK.out _ _ (⟨cell_later hY z0, cell_later hY z1, cell_later hY z2, cell_later hY m0, cell_later hY a0, cell_later hY a1, cell_later hY a2, cell_later hY e0, cell_later hY e1, cell_later hY e2⟩) (fun hHeld => ?_)
      clear hK K
      (try simp only [Act.put, List.getElem_toArray, List.getElem_cons_zero, List.getElem_cons_succ, List.setIfInBounds_toArray, List.set_cons_zero, List.set_cons_succ])
      refine wpAnyH_take (i := 16) (v := ?tv9015) rfl (by kernel_rfl) (by kernel_rfl) (by kernel_rfl) (fun _ _ _ h => h) (Or.inl ⟨by rfl, ?hy9015⟩) (by assumption) ?rs9015
      case hy9015 => (intro w9 hSw; (try dsimp only at hSw); go_simp; (try with_reducible rfl))
      (try simp only [Act.put, List.getElem_toArray, List.getElem_cons_zero, List.getElem_cons_succ, List.setIfInBounds_toArray, List.set_cons_zero, List.set_cons_succ])
      refine wpAnyH_take (i := 17) (v := ?tv9016) rfl (by kernel_rfl) (by kernel_rfl) (by kernel_rfl) (fun _ _ _ h => h) (Or.inl ⟨by rfl, ?hy9016⟩) (by assumption) ?rs9016
      case hy9016 => (intro w9 hSw; (try dsimp only at hSw); go_simp; (try with_reducible rfl))
      (try simp only [Act.put, List.getElem_toArray, List.getElem_cons_zero, List.getElem_cons_succ, List.setIfInBounds_toArray, List.set_cons_zero, List.set_cons_succ])
      refine wpAnyH_done (by kernel_rfl) ?_ _
      clear hHeld
      replace hB7 := Below.on hB7 hY
      replace z0 := cell_later hY z0
      replace z1 := cell_later hY z1
      replace z2 := cell_later hY z2
      replace m0 := cell_later hY m0
      replace a0 := cell_later hY a0
      replace a1 := cell_later hY a1
      replace a2 := cell_later hY a2
      replace e0 := cell_later hY e0
      replace e1 := cell_later hY e1
      replace e2 := cell_later hY e2
      clear hY HC1 HC2 hw7
      cases la <;> cases lb
      · have HnA2 : Hid (((L.take (k + 1)).any fun r => decide (cvC 2 r = (A0, A1, A2))) = eA) := hid (by rw [HnA.out]; simp)
        have HnB2 : Hid (((L.take (k + 1)).any fun r => decide (cvC 2 r = (B0, B1, B2))) = eB) := hid (by rw [HnB.out]; simp)
        clear HnA HnB
        go_upto_region 24 with fail
        go_quiet (fail)
        go_wp2
        go_roundw
        case rel => exact ⟨k + 1, hlt, by go_num, by rw [HnA2.out], by rw [HnB2.out], ⟨hB7.os, hB7.tape, hB7.output, hB7.size, hB7.block⟩⟩
        case measure => simp only [intOf]; omega
      · have HnA2 : Hid (((L.take (k + 1)).any fun r => decide (cvC 2 r = (A0, A1, A2))) = eA) := hid (by rw [HnA.out]; simp)
        have HnB2 : Hid (((L.take (k + 1)).any fun r => decide (cvC 2 r = (B0, B1, B2))) = true) := hid (by rw [HnB.out]; simp)
        clear HnA HnB
        go_upto_region 24 with fail
        go_quiet (fail)
        go_wp2
        go_roundw
        case rel => exact ⟨k + 1, hlt, by go_num, by rw [HnA2.out], by rw [HnB2.out], ⟨hB7.os, hB7.tape, hB7.output, hB7.size, hB7.block⟩⟩
        case measure => simp only [intOf]; omega
      · have HnA2 : Hid (((L.take (k + 1)).any fun r => decide (cvC 2 r = (A0, A1, A2))) = true) := hid (by rw [HnA.out]; simp)
        have HnB2 : Hid (((L.take (k + 1)).any fun r => decide (cvC 2 r = (B0, B1, B2))) = eB) := hid (by rw [HnB.out]; simp)
        clear HnA HnB
        go_upto_region 24 with fail
        go_quiet (fail)
        go_wp2
        go_roundw
        case rel => exact ⟨k + 1, hlt, by go_num, by rw [HnA2.out], by rw [HnB2.out], ⟨hB7.os, hB7.tape, hB7.output, hB7.size, hB7.block⟩⟩
        case measure => simp only [intOf]; omega
      · have HnA2 : Hid (((L.take (k + 1)).any fun r => decide (cvC 2 r = (A0, A1, A2))) = true) := hid (by rw [HnA.out]; simp)
        have HnB2 : Hid (((L.take (k + 1)).any fun r => decide (cvC 2 r = (B0, B1, B2))) = true) := hid (by rw [HnB.out]; simp)
        clear HnA HnB
        go_upto_region 24 with fail
        go_quiet (fail)
        go_wp2
        go_roundw
        case rel => exact ⟨k + 1, hlt, by go_num, by rw [HnA2.out], by rw [HnB2.out], ⟨hB7.os, hB7.tape, hB7.output, hB7.size, hB7.block⟩⟩
        case measure => simp only [intOf]; omega
    · obtain rfl : k = L.length := by omega
      obtain ⟨hA, hBm, -, -⟩ := HAB.out
      have hnA : ((L.take L.length).any fun r => decide (cvC 2 r = (A0, A1, A2))) = true := by
        rw [List.take_length, List.any_eq_true]
        obtain ⟨r, hr, he⟩ := List.mem_map.1 hA
        exact ⟨r, hr, by simpa using he⟩
      have hnB : ((L.take L.length).any fun r => decide (cvC 2 r = (B0, B1, B2))) = true := by
        rw [List.take_length, List.any_eq_true]
        obtain ⟨r, hr, he⟩ := List.mem_map.1 hBm
        exact ⟨r, hr, by simpa using he⟩
      rw [hnA, hnB]
      have hBw := Below.on HB6.out hB
      have hkI : ¬ (L.length : Int) < (L.length : Int) := by omega
      clear hA hBm hnA hnB HAB HLv m0 a0 a1 a2 e0 e1 e2
      obtain ⟨HLo, HCo, HIo⟩ := HAfter.out
      obtain ⟨kk, hkk⟩ : ∃ kk, nu % (L.length + 1) = kk := ⟨_, rfl⟩
      have hkL : kk ≤ L.length := by rw [← hkk]; have := Nat.mod_lt nu (show 0 < L.length + 1 by omega); omega
      have nt : (nu : Int).tmod ((L.length : Int) + 1) = (kk : Int) := by rw [Int.tmod_eq_emod_of_nonneg (by omega), ← hkk]; rfl
      have nz : ¬ ((L.length : Int) + 1 = 0) := by omega
      have nzd : decide ((L.length : Int) + 1 = 0) = false := by simpa using nz
      have nzb : ((L.length : Int) + 1 == 0) = false := by simpa using nz
      have hwl := wrapS (k := L.length) (n := 14) (c := 14) (by omega) (Nat.le_refl _) (by decide)
      obtain ⟨qs, hqs⟩ : ∃ qs, wr.heap.size = qs := ⟨_, rfl⟩
      have bI := (Bk.new wr (.cells #[.int .i64 2, .string ⟨#[]⟩, .string ⟨#[110]⟩] 50)).later (bal (Below.refl _ _) (.cells #[.int .i64 6, .string ⟨#[116]⟩, .string ⟨#[]⟩, .slice none 0 0, .slice none 0 0, .slice none 0 0, .slice (some ⟨qs, 0, none⟩) 1 1, .string ⟨#[]⟩, .slice none 0 0, .slice none 0 0, .slice none 0 0, .bool false, .slice none 0 0] 30))
      have bS := Bk.new (wr.alloc (.cells #[.int .i64 2, .string ⟨#[]⟩, .string ⟨#[110]⟩] 50)) (.cells #[.int .i64 6, .string ⟨#[116]⟩, .string ⟨#[]⟩, .slice none 0 0, .slice none 0 0, .slice none 0 0, .slice (some ⟨qs, 0, none⟩) 1 1, .string ⟨#[]⟩, .slice none 0 0, .slice none 0 0, .slice none 0 0, .bool false, .slice none 0 0] 30)
      rw [World.size_alloc, hqs] at bS
      rw [hqs] at bI
      have hb8 := bal (bal (Below.refl _ wr) (.cells #[.int .i64 2, .string ⟨#[]⟩, .string ⟨#[110]⟩] 50)) (.cells #[.int .i64 6, .string ⟨#[116]⟩, .string ⟨#[]⟩, .slice none 0 0, .slice none 0 0, .slice none 0 0, .slice (some ⟨qs, 0, none⟩) 1 1, .string ⟨#[]⟩, .slice none 0 0, .slice none 0 0, .slice none 0 0, .bool false, .slice none 0 0] 30)
      have hB8 := Below.on hB hb8
      have hBw8 := Below.on hBw hb8
      clear hBw hB hkk
      go_upto_region 28 with fail
      (try rw [hqs])
      (try rw [World.size_alloc, hqs])
      clear hqs
      generalize (wr.alloc (.cells #[.int .i64 2, .string ⟨#[]⟩, .string ⟨#[110]⟩] 50)).alloc (.cells #[.int .i64 6, .string ⟨#[116]⟩, .string ⟨#[]⟩, .slice none 0 0, .slice none 0 0, .slice none 0 0, .slice (some ⟨qs, 0, none⟩) 1 1, .string ⟨#[]⟩, .slice none 0 0, .slice none 0 0, .slice none 0 0, .bool false, .slice none 0 0] 30) = W8 at *
      obtain ⟨s0, s1, s2, s3, s4, s5, s6, s7, s8, s9, s10, s11, s12⟩ : W8.cell? ⟨qs + 1, 0, none⟩ = some (.int .i64 6) ∧ W8.cell? ⟨qs + 1, 1, none⟩ = some (.string ⟨#[116]⟩) ∧ W8.cell? ⟨qs + 1, 2, none⟩ = some (.string ⟨#[]⟩) ∧ W8.cell? ⟨qs + 1, 3, none⟩ = some (.slice none 0 0) ∧ W8.cell? ⟨qs + 1, 4, none⟩ = some (.slice none 0 0) ∧ W8.cell? ⟨qs + 1, 5, none⟩ = some (.slice none 0 0) ∧ W8.cell? ⟨qs + 1, 6, none⟩ = some (.slice (some ⟨qs, 0, none⟩) 1 1) ∧ W8.cell? ⟨qs + 1, 7, none⟩ = some (.string ⟨#[]⟩) ∧ W8.cell? ⟨qs + 1, 8, none⟩ = some (.slice none 0 0) ∧ W8.cell? ⟨qs + 1, 9, none⟩ = some (.slice none 0 0) ∧ W8.cell? ⟨qs + 1, 10, none⟩ = some (.slice none 0 0) ∧ W8.cell? ⟨qs + 1, 11, none⟩ = some (.bool false) ∧ W8.cell? ⟨qs + 1, 12, none⟩ = some (.slice none 0 0) := ⟨bS.cell 0, bS.cell 1, bS.cell 2, bS.cell 3, bS.cell 4, bS.cell 5, bS.cell 6, bS.cell 7, bS.cell 8, bS.cell 9, bS.cell 10, bS.cell 11, bS.cell 12⟩
      obtain ⟨t0, t1, t2⟩ := HT.out
      replace t0 := cell_later hB8 t0
      replace t1 := cell_later hB8 t1
      replace t2 := cell_later hB8 t2
      have rI8 := it1_row bI (x := (2, ⟨#[]⟩, ⟨#[110]⟩))
      obtain ⟨ba', hba'⟩ : ∃ ba', (if bc = kk then ba else ba.map (·.add (kk * 1))) = ba' := ⟨_, rfl⟩
      have slP := fun w' => slice_rowsUpto (ao := ba) hkL hbc hbm w'
      have slQ := fun w' => slice_rowsOff (ao := ba) hkL hbc hbm w'
      rw [hba'] at slQ
      have HSelA : Hid (∀ w', Below W8.heap.size W8 w' → _) := hid fun w' hb => selSum_any (c := (some ⟨bco, oco, none⟩, 3, cc)) (x := (xa, xn, xc)) (lr := (ba, L.length, bc)) (rI8.keep (w' := w') (by decide) fun b _ hl => hb.block b hl) (HCo w' (Below.on hb46 (Below.on hB8 hb))) (HIo w' (Below.on hb46 (Below.on hB8 hb))) (HLo w' (Below.on hb46 (Below.on hB8 hb))) (by omega) HRok.out
      have HSelP : Hid (∀ w', Below W8.heap.size W8 w' → _) := hid fun w' hb => selSum_any (c := (some ⟨bco, oco, none⟩, 3, cc)) (x := (xa, xn, xc)) (lr := (ba, kk, bc)) (rI8.keep (w' := w') (by decide) fun b _ hl => hb.block b hl) (HCo w' (Below.on hb46 (Below.on hB8 hb))) (HIo w' (Below.on hb46 (Below.on hB8 hb))) ((HLo w' (Below.on hb46 (Below.on hB8 hb))).upto hkL) (by rw [List.length_take]; omega) (fun r hr => HRok.out r (List.mem_of_mem_take hr))
      have HSelQ : Hid (∀ w', Below W8.heap.size W8 w' → _) := hid fun w' hb => selSum_any (c := (some ⟨bco, oco, none⟩, 3, cc)) (x := (xa, xn, xc)) (lr := (ba', L.length - kk, bc - kk)) (rI8.keep (w' := w') (by decide) fun b _ hl => hb.block b hl) (HCo w' (Below.on hb46 (Below.on hB8 hb))) (HIo w' (Below.on hb46 (Below.on hB8 hb))) ((HLo w' (Below.on hb46 (Below.on hB8 hb))).off hkL (fun b o e' hlt => by rw [← hba', if_neg (by omega), e', Option.map_some, addV_off]; rfl)) (by rw [List.length_drop]; omega) (fun r hr => HRok.out r (List.mem_of_mem_drop hr))
      dsimp only [slV] at HSelA HSelP HSelQ
      have HSm : Hid (((smC 2 L).2 = 0 ∨ (smC 2 L).2 = 8) ∧ ((smC 2 (L.take kk)).2 = 0 ∨ (smC 2 (L.take kk)).2 = 8) ∧ ((smC 2 (L.drop kk)).2 = 0 ∨ (smC 2 (L.drop kk)).2 = 8) ∧ ((smC 2 L).2 = 0 → (smC 2 (L.take kk)).2 = 0) ∧ ((smC 2 L).2 = 0 → (smC 2 (L.drop kk)).2 = 0 → nA ((smC 2 (L.take kk)).1 + (smC 2 (L.drop kk)).1) = .tuple #[.int .i64 (smC 2 L).1, .int .i64 0]) ∧ ((smC 2 (L.take kk)).2 = 0 → Fits (smC 2 (L.take kk)).1) ∧ ((smC 2 (L.drop kk)).2 = 0 → Fits (smC 2 (L.drop kk)).1)) := hid (by
        have e : L.map (fun r => (cvC 2 r).2.1) = (L.take kk).map (fun r => (cvC 2 r).2.1) ++ (L.drop kk).map (fun r => (cvC 2 r).2.1) := by rw [← List.map_append, List.take_append_drop]
        unfold smC
        refine ⟨smP_err _, smP_err _, smP_err _, fun h => ?_, fun h h2 => ?_, fun h => ?_, fun h => ?_⟩
        · rw [e] at h; exact smP_app h
        · rw [e] at h ⊢; exact smP_add h h2
        · rw [(smP_ok h).1]; exact (smP_ok h).2
        · rw [(smP_ok h).1]; exact (smP_ok h).2)
      generalize smC 2 L = MA at *
      generalize smC 2 (L.take kk) = MP at *
      generalize smC 2 (L.drop kk) = MQ at *
      obtain ⟨xA, fA⟩ := MA
      obtain ⟨xP, fP⟩ := MP
      obtain ⟨xQ, fQ⟩ := MQ
      dsimp only at HSelA HSelP HSelQ HSm
      clear bI bS rI8 HLo HCo HIo HAfter HT HRok HLen HB6 hba' hb8 hB8 hlI hlI2
      go_wp2_with fail
      refine Calls.mono (HSelA.out _ (Below.refl _ _)) ?_
      rintro e W9 ⟨pa, pn, pc, rfl, hTp, -, hb9⟩
      have hB9 := Below.on hBw8 hb9
      replace s0 := cell_later hb9 s0
      replace s1 := cell_later hb9 s1
      replace s2 := cell_later hb9 s2
      replace s3 := cell_later hb9 s3
      replace s4 := cell_later hb9 s4
      replace s5 := cell_later hb9 s5
      replace s6 := cell_later hb9 s6
      replace s7 := cell_later hb9 s7
      replace s8 := cell_later hb9 s8
      replace s9 := cell_later hb9 s9
      replace s10 := cell_later hb9 s10
      replace s11 := cell_later hb9 s11
      replace s12 := cell_later hb9 s12
      replace t0 := cell_later hb9 t0
      replace t1 := cell_later hb9 t1
      replace t2 := cell_later hb9 t2
      have HTp : Hid _ := hid hTp
      clear HSelA hTp
      go_upto_region 30 with fail
      have hY : Below W9.heap.size W9 W9.drew := (Below.refl _ W9).drew
      have hb89 := hb9
      refine wp_region_held_drew (S := fun w' => w'.cell? ⟨qs + 1, 0, none⟩ = some (.int .i64 6) ∧ w'.cell? ⟨qs + 1, 1, none⟩ = some (.string ⟨#[116]⟩) ∧ w'.cell? ⟨qs + 1, 2, none⟩ = some (.string ⟨#[]⟩) ∧ w'.cell? ⟨qs + 1, 3, none⟩ = some (.slice none 0 0) ∧ w'.cell? ⟨qs + 1, 4, none⟩ = some (.slice none 0 0) ∧ w'.cell? ⟨qs + 1, 5, none⟩ = some (.slice none 0 0) ∧ w'.cell? ⟨qs + 1, 6, none⟩ = some (.slice (some ⟨qs, 0, none⟩) 1 1) ∧ w'.cell? ⟨qs + 1, 7, none⟩ = some (.string ⟨#[]⟩) ∧ w'.cell? ⟨qs + 1, 8, none⟩ = some (.slice none 0 0) ∧ w'.cell? ⟨qs + 1, 9, none⟩ = some (.slice none 0 0) ∧ w'.cell? ⟨qs + 1, 10, none⟩ = some (.slice none 0 0) ∧ w'.cell? ⟨qs + 1, 11, none⟩ = some (.bool false) ∧ w'.cell? ⟨qs + 1, 12, none⟩ = some (.slice none 0 0) ∧ w'.cell? ⟨qt, 0, none⟩ = some (.string ⟨#[116]⟩) ∧ w'.cell? ⟨qt, 1, none⟩ = some (.slice (some ⟨bco, oco, none⟩) 3 cc) ∧ w'.cell? ⟨qt, 2, none⟩ = some (.slice xa xn xc)) (by kernel_rfl) (⟨cell_later hY s0, cell_later hY s1, cell_later hY s2, cell_later hY s3, cell_later hY s4, cell_later hY s5, cell_later hY s6, cell_later hY s7, cell_later hY s8, cell_later hY s9, cell_later hY s10, cell_later hY s11, cell_later hY s12, cell_later hY t0, cell_later hY t1, cell_later hY t2⟩) (fun hHeld => ?_)
      generalize W9.drew = y at *
      refine wpAnyH_take (i := 0) (v := ?tv9017) rfl (by kernel_rfl) (by kernel_rfl) (by kernel_rfl) (fun _ _ _ h => h) (Or.inl ⟨by rfl, ?hy9017⟩) (by assumption) ?rs9017
      case hy9017 => (intro w9 hSw; (try dsimp only at hSw); go_simp; (try with_reducible rfl))
      (try simp only [Act.put, List.getElem_toArray, List.getElem_cons_zero, List.getElem_cons_succ, List.setIfInBounds_toArray, List.set_cons_zero, List.set_cons_succ])
      refine wpAnyH_take (i := 1) (v := ?tv9018) rfl (by kernel_rfl) (by kernel_rfl) (by kernel_rfl) (fun _ _ _ h => h) (Or.inl ⟨by rfl, ?hy9018⟩) (by assumption) ?rs9018
      case hy9018 => (intro w9 hSw; (try dsimp only at hSw); go_simp; (try with_reducible rfl))
      (try simp only [Act.put, List.getElem_toArray, List.getElem_cons_zero, List.getElem_cons_succ, List.setIfInBounds_toArray, List.set_cons_zero, List.set_cons_succ])
      refine wpAnyH_take (i := 2) (v := ?tv9019) rfl (by kernel_rfl) (by kernel_rfl) (by kernel_rfl) (fun _ _ _ h => h) (Or.inl ⟨by rfl, ?hy9019⟩) (by assumption) ?rs9019
      case hy9019 => (intro w9 hSw; (try dsimp only at hSw); go_simp; (try with_reducible rfl))
      (try simp only [Act.put, List.getElem_toArray, List.getElem_cons_zero, List.getElem_cons_succ, List.setIfInBounds_toArray, List.set_cons_zero, List.set_cons_succ])
      refine wpAnyH_take (i := 3) (v := ?tv9020) rfl (by kernel_rfl) (by kernel_rfl) (by kernel_rfl) (fun _ _ _ h => h) (Or.inl ⟨by rfl, ?hy9020⟩) (by assumption) ?rs9020
      case hy9020 => (intro w9 hSw; (try dsimp only at hSw); go_simp; (try with_reducible rfl))
      (try simp only [Act.put, List.getElem_toArray, List.getElem_cons_zero, List.getElem_cons_succ, List.setIfInBounds_toArray, List.set_cons_zero, List.set_cons_succ])
      refine wpAnyH_take (i := 4) (v := ?tv9021) rfl (by kernel_rfl) (by kernel_rfl) (by kernel_rfl) (fun _ _ _ h => h) (Or.inl ⟨by rfl, ?hy9021⟩) (by assumption) ?rs9021
      case hy9021 => (intro w9 hSw; (try dsimp only at hSw); go_simp; (try with_reducible rfl))
      (try simp only [Act.put, List.getElem_toArray, List.getElem_cons_zero, List.getElem_cons_succ, List.setIfInBounds_toArray, List.set_cons_zero, List.set_cons_succ])
      refine wpAnyH_take (i := 5) (v := ?tv9022) rfl (by kernel_rfl) (by kernel_rfl) (by kernel_rfl) (fun _ _ _ h => h) (Or.inl ⟨by rfl, ?hy9022⟩) (by assumption) ?rs9022
      case hy9022 => (intro w9 hSw; have h9 := value_of (slP w9); exact h9)
      (try simp only [Act.put, List.getElem_toArray, List.getElem_cons_zero, List.getElem_cons_succ, List.setIfInBounds_toArray, List.set_cons_zero, List.set_cons_succ])
      refine wpAnyH_ready (rs := [6]) (by kernel_rfl) (by simp) ?_
      refine AllReadyH.cons rfl (fun K hK => ?_) AllReadyH.nil
      go_simp
      go_wp2_with (first | (go_at_call 12; (refine Calls.mono (HSelP.out _ (Below.on hb89 hY)) ?_); rintro e y ⟨qa, qn, qc, rfl, hTq, -, hby⟩; replace hY := Below.on hY hby))
      refine hK.out _ _ (⟨cell_later hY s0, cell_later hY s1, cell_later hY s2, cell_later hY s3, cell_later hY s4, cell_later hY s5, cell_later hY s6, cell_later hY s7, cell_later hY s8, cell_later hY s9, cell_later hY s10, cell_later hY s11, cell_later hY s12, cell_later hY t0, cell_later hY t1, cell_later hY t2⟩) (fun hHeld => ?_)
      clear hK K hby
      (try simp only [Act.put, List.getElem_toArray, List.getElem_cons_zero, List.getElem_cons_succ, List.setIfInBounds_toArray, List.set_cons_zero, List.set_cons_succ])
      refine wpAnyH_take (i := 7) (v := ?tv9023) rfl (by kernel_rfl) (by kernel_rfl) (by kernel_rfl) (fun _ _ _ h => h) (Or.inl ⟨by rfl, ?hy9023⟩) (by assumption) ?rs9023
      case hy9023 => (intro w9 hSw; (try dsimp only at hSw); go_simp; (try with_reducible rfl))
      (try simp only [Act.put, List.getElem_toArray, List.getElem_cons_zero, List.getElem_cons_succ, List.setIfInBounds_toArray, List.set_cons_zero, List.set_cons_succ])
      refine wpAnyH_take (i := 8) (v := ?tv9024) rfl (by kernel_rfl) (by kernel_rfl) (by kernel_rfl) (fun _ _ _ h => h) (Or.inl ⟨by rfl, ?hy9024⟩) (by assumption) ?rs9024
      case hy9024 => (intro w9 hSw; (try dsimp only at hSw); go_simp; (try with_reducible rfl))
      (try simp only [Act.put, List.getElem_toArray, List.getElem_cons_zero, List.getElem_cons_succ, List.setIfInBounds_toArray, List.set_cons_zero, List.set_cons_succ])
      refine wpAnyH_take (i := 9) (v := ?tv9025) rfl (by kernel_rfl) (by kernel_rfl) (by kernel_rfl) (fun _ _ _ h => h) (Or.inl ⟨by rfl, ?hy9025⟩) (by assumption) ?rs9025
      case hy9025 => (intro w9 hSw; (try dsimp only at hSw); go_simp; (try with_reducible rfl))
      (try simp only [Act.put, List.getElem_toArray, List.getElem_cons_zero, List.getElem_cons_succ, List.setIfInBounds_toArray, List.set_cons_zero, List.set_cons_succ])
      refine wpAnyH_ready (rs := [10]) (by kernel_rfl) (by simp) ?_
      refine AllReadyH.cons rfl (fun K hK => ?_) AllReadyH.nil
      go_simp
      refine hK.out _ _ (⟨cell_later hY s0, cell_later hY s1, cell_later hY s2, cell_later hY s3, cell_later hY s4, cell_later hY s5, cell_later hY s6, cell_later hY s7, cell_later hY s8, cell_later hY s9, cell_later hY s10, cell_later hY s11, cell_later hY s12, cell_later hY t0, cell_later hY t1, cell_later hY t2⟩) (fun hHeld => ?_)
      clear hK K
      (try simp only [Act.put, List.getElem_toArray, List.getElem_cons_zero, List.getElem_cons_succ, List.setIfInBounds_toArray, List.set_cons_zero, List.set_cons_succ])
      refine wpAnyH_ready (rs := [11]) (by kernel_rfl) (by simp) ?_
      refine AllReadyH.cons rfl (fun K hK => ?_) AllReadyH.nil
      go_simp
      refine hK.out _ _ (⟨cell_later hY s0, cell_later hY s1, cell_later hY s2, cell_later hY s3, cell_later hY s4, cell_later hY s5, cell_later hY s6, cell_later hY s7, cell_later hY s8, cell_later hY s9, cell_later hY s10, cell_later hY s11, cell_later hY s12, cell_later hY t0, cell_later hY t1, cell_later hY t2⟩) (fun hHeld => ?_)
      clear hK K
      (try simp only [Act.put, List.getElem_toArray, List.getElem_cons_zero, List.getElem_cons_succ, List.setIfInBounds_toArray, List.set_cons_zero, List.set_cons_succ])
      refine wpAnyH_done (by kernel_rfl) ?_ _
      clear hHeld
      have hW10 := Below.on hb9 hY
      have hB10 := Below.on hB9 hY
      replace s0 := cell_later hY s0
      replace s1 := cell_later hY s1
      replace s2 := cell_later hY s2
      replace s3 := cell_later hY s3
      replace s4 := cell_later hY s4
      replace s5 := cell_later hY s5
      replace s6 := cell_later hY s6
      replace s7 := cell_later hY s7
      replace s8 := cell_later hY s8
      replace s9 := cell_later hY s9
      replace s10 := cell_later hY s10
      replace s11 := cell_later hY s11
      replace s12 := cell_later hY s12
      replace t0 := cell_later hY t0
      replace t1 := cell_later hY t1
      replace t2 := cell_later hY t2
      have HTp2 : Hid (fA = 0 → TeRs W8.heap.size y (.slice pa pn pc) [[(1, xA, ⟨#[]⟩)]]) := hid fun h0 => (HTp.out h0).later hY
      have HTq : Hid _ := hid hTq
      clear hY hTq HTp hb9 hB9 HSelP hb89
      go_upto_region 31 with fail
      have hY : Below y.heap.size y y.drew := (Below.refl _ y).drew
      refine wp_region_held_drew (S := fun w' => w'.cell? ⟨qs + 1, 0, none⟩ = some (.int .i64 6) ∧ w'.cell? ⟨qs + 1, 1, none⟩ = some (.string ⟨#[116]⟩) ∧ w'.cell? ⟨qs + 1, 2, none⟩ = some (.string ⟨#[]⟩) ∧ w'.cell? ⟨qs + 1, 3, none⟩ = some (.slice none 0 0) ∧ w'.cell? ⟨qs + 1, 4, none⟩ = some (.slice none 0 0) ∧ w'.cell? ⟨qs + 1, 5, none⟩ = some (.slice none 0 0) ∧ w'.cell? ⟨qs + 1, 6, none⟩ = some (.slice (some ⟨qs, 0, none⟩) 1 1) ∧ w'.cell? ⟨qs + 1, 7, none⟩ = some (.string ⟨#[]⟩) ∧ w'.cell? ⟨qs + 1, 8, none⟩ = some (.slice none 0 0) ∧ w'.cell? ⟨qs + 1, 9, none⟩ = some (.slice none 0 0) ∧ w'.cell? ⟨qs + 1, 10, none⟩ = some (.slice none 0 0) ∧ w'.cell? ⟨qs + 1, 11, none⟩ = some (.bool false) ∧ w'.cell? ⟨qs + 1, 12, none⟩ = some (.slice none 0 0) ∧ w'.cell? ⟨qt, 0, none⟩ = some (.string ⟨#[116]⟩) ∧ w'.cell? ⟨qt, 1, none⟩ = some (.slice (some ⟨bco, oco, none⟩) 3 cc) ∧ w'.cell? ⟨qt, 2, none⟩ = some (.slice xa xn xc)) (by kernel_rfl) (⟨cell_later hY s0, cell_later hY s1, cell_later hY s2, cell_later hY s3, cell_later hY s4, cell_later hY s5, cell_later hY s6, cell_later hY s7, cell_later hY s8, cell_later hY s9, cell_later hY s10, cell_later hY s11, cell_later hY s12, cell_later hY t0, cell_later hY t1, cell_later hY t2⟩) (fun hHeld => ?_)
      generalize y.drew = Y at *
      refine wpAnyH_take (i := 0) (v := ?tv9026) rfl (by kernel_rfl) (by kernel_rfl) (by kernel_rfl) (fun _ _ _ h => h) (Or.inl ⟨by rfl, ?hy9026⟩) (by assumption) ?rs9026
      case hy9026 => (intro w9 hSw; (try dsimp only at hSw); go_simp; (try with_reducible rfl))
      (try simp only [Act.put, List.getElem_toArray, List.getElem_cons_zero, List.getElem_cons_succ, List.setIfInBounds_toArray, List.set_cons_zero, List.set_cons_succ])
      refine wpAnyH_take (i := 1) (v := ?tv9027) rfl (by kernel_rfl) (by kernel_rfl) (by kernel_rfl) (fun _ _ _ h => h) (Or.inl ⟨by rfl, ?hy9027⟩) (by assumption) ?rs9027
      case hy9027 => (intro w9 hSw; (try dsimp only at hSw); go_simp; (try with_reducible rfl))
      (try simp only [Act.put, List.getElem_toArray, List.getElem_cons_zero, List.getElem_cons_succ, List.setIfInBounds_toArray, List.set_cons_zero, List.set_cons_succ])
      refine wpAnyH_take (i := 2) (v := ?tv9028) rfl (by kernel_rfl) (by kernel_rfl) (by kernel_rfl) (fun _ _ _ h => h) (Or.inl ⟨by rfl, ?hy9028⟩) (by assumption) ?rs9028
      case hy9028 => (intro w9 hSw; (try dsimp only at hSw); go_simp; (try with_reducible rfl))
      (try simp only [Act.put, List.getElem_toArray, List.getElem_cons_zero, List.getElem_cons_succ, List.setIfInBounds_toArray, List.set_cons_zero, List.set_cons_succ])
      refine wpAnyH_take (i := 3) (v := ?tv9029) rfl (by kernel_rfl) (by kernel_rfl) (by kernel_rfl) (fun _ _ _ h => h) (Or.inl ⟨by rfl, ?hy9029⟩) (by assumption) ?rs9029
      case hy9029 => (intro w9 hSw; (try dsimp only at hSw); go_simp; (try with_reducible rfl))
      (try simp only [Act.put, List.getElem_toArray, List.getElem_cons_zero, List.getElem_cons_succ, List.setIfInBounds_toArray, List.set_cons_zero, List.set_cons_succ])
      refine wpAnyH_take (i := 4) (v := ?tv9030) rfl (by kernel_rfl) (by kernel_rfl) (by kernel_rfl) (fun _ _ _ h => h) (Or.inl ⟨by rfl, ?hy9030⟩) (by assumption) ?rs9030
      case hy9030 => (intro w9 hSw; (try dsimp only at hSw); go_simp; (try with_reducible rfl))
      (try simp only [Act.put, List.getElem_toArray, List.getElem_cons_zero, List.getElem_cons_succ, List.setIfInBounds_toArray, List.set_cons_zero, List.set_cons_succ])
      refine wpAnyH_take (i := 5) (v := ?tv9031) rfl (by kernel_rfl) (by kernel_rfl) (by kernel_rfl) (fun _ _ _ h => h) (Or.inl ⟨by rfl, ?hy9031⟩) (by assumption) ?rs9031
      case hy9031 => (intro w9 hSw; have h9 := value_of (slQ w9); exact h9)
      (try simp only [Act.put, List.getElem_toArray, List.getElem_cons_zero, List.getElem_cons_succ, List.setIfInBounds_toArray, List.set_cons_zero, List.set_cons_succ])
      refine wpAnyH_ready (rs := [6]) (by kernel_rfl) (by simp) ?_
      refine AllReadyH.cons rfl (fun K hK => ?_) AllReadyH.nil
      go_simp
      go_wp2_with (first | (go_at_call 12; (refine Calls.mono (HSelQ.out _ (Below.on hW10 hY)) ?_); rintro e Y ⟨ra3, rn3, rc3, rfl, hTr, -, hby⟩; replace hY := Below.on hY hby))
      refine hK.out _ _ (⟨cell_later hY s0, cell_later hY s1, cell_later hY s2, cell_later hY s3, cell_later hY s4, cell_later hY s5, cell_later hY s6, cell_later hY s7, cell_later hY s8, cell_later hY s9, cell_later hY s10, cell_later hY s11, cell_later hY s12, cell_later hY t0, cell_later hY t1, cell_later hY t2⟩) (fun hHeld => ?_)
      clear hK K hby
      (try simp only [Act.put, List.getElem_toArray, List.getElem_cons_zero, List.getElem_cons_succ, List.setIfInBounds_toArray, List.set_cons_zero, List.set_cons_succ])
      refine wpAnyH_take (i := 7) (v := ?tv9032) rfl (by kernel_rfl) (by kernel_rfl) (by kernel_rfl) (fun _ _ _ h => h) (Or.inl ⟨by rfl, ?hy9032⟩) (by assumption) ?rs9032
      case hy9032 => (intro w9 hSw; (try dsimp only at hSw); go_simp; (try with_reducible rfl))
      (try simp only [Act.put, List.getElem_toArray, List.getElem_cons_zero, List.getElem_cons_succ, List.setIfInBounds_toArray, List.set_cons_zero, List.set_cons_succ])
      refine wpAnyH_take (i := 8) (v := ?tv9033) rfl (by kernel_rfl) (by kernel_rfl) (by kernel_rfl) (fun _ _ _ h => h) (Or.inl ⟨by rfl, ?hy9033⟩) (by assumption) ?rs9033
      case hy9033 => (intro w9 hSw; (try dsimp only at hSw); go_simp; (try with_reducible rfl))
      (try simp only [Act.put, List.getElem_toArray, List.getElem_cons_zero, List.getElem_cons_succ, List.setIfInBounds_toArray, List.set_cons_zero, List.set_cons_succ])
      refine wpAnyH_take (i := 9) (v := ?tv9034) rfl (by kernel_rfl) (by kernel_rfl) (by kernel_rfl) (fun _ _ _ h => h) (Or.inl ⟨by rfl, ?hy9034⟩) (by assumption) ?rs9034
      case hy9034 => (intro w9 hSw; (try dsimp only at hSw); go_simp; (try with_reducible rfl))
      (try simp only [Act.put, List.getElem_toArray, List.getElem_cons_zero, List.getElem_cons_succ, List.setIfInBounds_toArray, List.set_cons_zero, List.set_cons_succ])
      refine wpAnyH_ready (rs := [10]) (by kernel_rfl) (by simp) ?_
      refine AllReadyH.cons rfl (fun K hK => ?_) AllReadyH.nil
      go_simp
      refine hK.out _ _ (⟨cell_later hY s0, cell_later hY s1, cell_later hY s2, cell_later hY s3, cell_later hY s4, cell_later hY s5, cell_later hY s6, cell_later hY s7, cell_later hY s8, cell_later hY s9, cell_later hY s10, cell_later hY s11, cell_later hY s12, cell_later hY t0, cell_later hY t1, cell_later hY t2⟩) (fun hHeld => ?_)
      clear hK K
      (try simp only [Act.put, List.getElem_toArray, List.getElem_cons_zero, List.getElem_cons_succ, List.setIfInBounds_toArray, List.set_cons_zero, List.set_cons_succ])
      refine wpAnyH_ready (rs := [11]) (by kernel_rfl) (by simp) ?_
      refine AllReadyH.cons rfl (fun K hK => ?_) AllReadyH.nil
      go_simp
      refine hK.out _ _ (⟨cell_later hY s0, cell_later hY s1, cell_later hY s2, cell_later hY s3, cell_later hY s4, cell_later hY s5, cell_later hY s6, cell_later hY s7, cell_later hY s8, cell_later hY s9, cell_later hY s10, cell_later hY s11, cell_later hY s12, cell_later hY t0, cell_later hY t1, cell_later hY t2⟩) (fun hHeld => ?_)
      clear hK K
      (try simp only [Act.put, List.getElem_toArray, List.getElem_cons_zero, List.getElem_cons_succ, List.setIfInBounds_toArray, List.set_cons_zero, List.set_cons_succ])
      refine wpAnyH_done (by kernel_rfl) ?_ _
      clear hHeld
      have hB11 := Below.on hB10 hY
      have HTp3 : Hid (fA = 0 → TeRs W8.heap.size Y (.slice pa pn pc) [[(1, xA, ⟨#[]⟩)]]) := hid fun h0 => (HTp2.out h0).later hY
      have HTq3 : Hid (fP = 0 → ∃ B, TeRs B Y (.slice qa qn qc) [[(1, xP, ⟨#[]⟩)]]) := hid fun h0 => ⟨_, (HTq.out h0).later hY⟩
      have HTr3 : Hid (fQ = 0 → ∃ B, TeRs B Y (.slice ra3 rn3 rc3) [[(1, xQ, ⟨#[]⟩)]]) := hid fun h0 => ⟨_, hTr h0⟩
      clear hY hTr HTp2 HTq hB10 hW10 HSelQ slP slQ s0 s1 s2 s3 s4 s5 s6 s7 s8 s9 s10 s11 s12 t0 t1 t2
      obtain ⟨hA8, hP8, hQ8, hAP, hAdd, hFP, hFQ⟩ := HSm.out
      by_cases hA0 : fA = 0
      · subst hA0
        obtain rfl := hAP rfl
        rcases hQ8 with rfl | rfl
        · have hT1 := HTp3.out rfl
          obtain ⟨B1, hT2⟩ := HTq3.out rfl
          obtain ⟨B2, hT3⟩ := HTr3.out rfl
          obtain rfl : pn = 1 := hT1.len
          obtain rfl : qn = 1 := hT2.len
          obtain rfl : rn3 = 1 := hT3.len
          obtain ⟨g1, g2, g3, g4, g5, rfl, i1, i2⟩ := one_cells hT1.row
          obtain ⟨j1, j2, j3, j4, j5, rfl, k1, k2⟩ := one_cells hT2.row
          obtain ⟨l1, l2, l3, l4, l5, rfl, m1, m2⟩ := one_cells hT3.row
          dsimp only at i2 k2 m2
          have HAd : Hid (∀ w', _) := hid fun w' => refAdd_any xP xQ (hFP rfl) (hFQ rfl) w'
          rw [hAdd rfl rfl] at HAd
          have HO1 : Hid (∀ w', Below Y.heap.size Y w' → _) := hid fun w' hb => one_any (c := pc) (cell_later hb i1)
          have HO2 : Hid (∀ w', Below Y.heap.size Y w' → _) := hid fun w' hb => one_any (c := qc) (cell_later hb k1)
          have HO3 : Hid (∀ w', Below Y.heap.size Y w' → _) := hid fun w' hb => one_any (c := rc3) (cell_later hb m1)
          clear hT1 hT2 hT3 HTp3 HTq3 HTr3 HSm hA8 hP8 hAP hAdd hFP hFQ
          go_wp2_with fail
          refine Calls.mono (HO1.out _ (Below.refl _ _)) ?_
          rintro e Y1 ⟨rfl, hY1⟩
          have hBa := Below.on hB11 hY1
          go_wp2_with fail
          refine Calls.mono (HO2.out _ hY1) ?_
          rintro e Y2 ⟨rfl, hy2⟩
          have hY2 := Below.on hY1 hy2
          have hBb := Below.on hBa hy2
          go_wp2_with fail
          refine Calls.mono (HO3.out _ hY2) ?_
          rintro e Y3 ⟨rfl, hy3⟩
          have hY3 := Below.on hY2 hy3
          have hBc := Below.on hBb hy3
          replace i1 := cell_later hY3 i1
          replace i2 := cell_later hY3 i2
          replace k1 := cell_later hY3 k1
          replace k2 := cell_later hY3 k2
          replace m1 := cell_later hY3 m1
          replace m2 := cell_later hY3 m2
          clear HO1 HO2 HO3 hY1 hY2 hy2 hy3 hY3 hBa hBb hB11
          go_upto_region 36 with fail
          have hY : Below Y3.heap.size Y3 Y3.drew := (Below.refl _ Y3).drew
          refine wp_region_held_drew (S := fun w' => w'.cell? ⟨j1, j2, none⟩ = some (.slice (some ⟨j3, j4, none⟩) 1 j5) ∧ w'.cell? ⟨j3, j4 + 1, none⟩ = some (.int .i64 xP) ∧ w'.cell? ⟨l1, l2, none⟩ = some (.slice (some ⟨l3, l4, none⟩) 1 l5) ∧ w'.cell? ⟨l3, l4 + 1, none⟩ = some (.int .i64 xQ)) (by kernel_rfl) (⟨cell_later hY k1, cell_later hY k2, cell_later hY m1, cell_later hY m2⟩) (fun hHeld => ?_)
          generalize Y3.drew = Y4 at *
          refine wpAnyH_take (i := 0) (v := ?tv9035) rfl (by kernel_rfl) (by kernel_rfl) (by kernel_rfl) (fun _ _ _ h => h) (Or.inl ⟨by rfl, ?hy9035⟩) (by assumption) ?rs9035
          case hy9035 => (intro w9 hSw; (try dsimp only at hSw); go_simp; (try with_reducible rfl))
          (try simp only [Act.put, List.getElem_toArray, List.getElem_cons_zero, List.getElem_cons_succ, List.setIfInBounds_toArray, List.set_cons_zero, List.set_cons_succ])
          refine wpAnyH_take (i := 1) (v := ?tv9036) rfl (by kernel_rfl) (by kernel_rfl) (by kernel_rfl) (fun _ _ _ h => h) (Or.inl ⟨by rfl, ?hy9036⟩) (by assumption) ?rs9036
          case hy9036 => (intro w9 hSw; (try dsimp only at hSw); go_simp; (try with_reducible rfl))
          (try simp only [Act.put, List.getElem_toArray, List.getElem_cons_zero, List.getElem_cons_succ, List.setIfInBounds_toArray, List.set_cons_zero, List.set_cons_succ])
          refine wpAnyH_take (i := 2) (v := ?tv9037) rfl (by kernel_rfl) (by kernel_rfl) (by kernel_rfl) (fun _ _ _ h => h) (Or.inl ⟨by rfl, ?hy9037⟩) (by assumption) ?rs9037
          case hy9037 => (intro w9 hSw; (try dsimp only at hSw); go_simp; (try with_reducible rfl))
          (try simp only [Act.put, List.getElem_toArray, List.getElem_cons_zero, List.getElem_cons_succ, List.setIfInBounds_toArray, List.set_cons_zero, List.set_cons_succ])
          refine wpAnyH_take (i := 3) (v := ?tv9038) rfl (by kernel_rfl) (by kernel_rfl) (by kernel_rfl) (fun _ _ _ h => h) (Or.inl ⟨by rfl, ?hy9038⟩) (by assumption) ?rs9038
          case hy9038 => (intro w9 hSw; (try dsimp only at hSw); go_simp; (try with_reducible rfl))
          (try simp only [Act.put, List.getElem_toArray, List.getElem_cons_zero, List.getElem_cons_succ, List.setIfInBounds_toArray, List.set_cons_zero, List.set_cons_succ])
          refine wpAnyH_take (i := 4) (v := ?tv9039) rfl (by kernel_rfl) (by kernel_rfl) (by kernel_rfl) (fun _ _ _ h => h) (Or.inl ⟨by rfl, ?hy9039⟩) (by assumption) ?rs9039
          case hy9039 => (intro w9 hSw; (try dsimp only at hSw); go_simp; (try with_reducible rfl))
          (try simp only [Act.put, List.getElem_toArray, List.getElem_cons_zero, List.getElem_cons_succ, List.setIfInBounds_toArray, List.set_cons_zero, List.set_cons_succ])
          refine wpAnyH_take (i := 5) (v := ?tv9040) rfl (by kernel_rfl) (by kernel_rfl) (by kernel_rfl) (fun _ _ _ h => h) (Or.inl ⟨by rfl, ?hy9040⟩) (by assumption) ?rs9040
          case hy9040 => (intro w9 hSw; (try dsimp only at hSw); go_simp; (try with_reducible rfl))
          (try simp only [Act.put, List.getElem_toArray, List.getElem_cons_zero, List.getElem_cons_succ, List.setIfInBounds_toArray, List.set_cons_zero, List.set_cons_succ])
          refine wpAnyH_take (i := 6) (v := ?tv9041) rfl (by kernel_rfl) (by kernel_rfl) (by kernel_rfl) (fun _ _ _ h => h) (Or.inl ⟨by rfl, ?hy9041⟩) (by assumption) ?rs9041
          case hy9041 => (intro w9 hSw; (try dsimp only at hSw); go_simp; (try with_reducible rfl))
          (try simp only [Act.put, List.getElem_toArray, List.getElem_cons_zero, List.getElem_cons_succ, List.setIfInBounds_toArray, List.set_cons_zero, List.set_cons_succ])
          refine wpAnyH_take (i := 7) (v := ?tv9042) rfl (by kernel_rfl) (by kernel_rfl) (by kernel_rfl) (fun _ _ _ h => h) (Or.inl ⟨by rfl, ?hy9042⟩) (by assumption) ?rs9042
          case hy9042 => (intro w9 hSw; (try dsimp only at hSw); go_simp; (try with_reducible rfl))
          (try simp only [Act.put, List.getElem_toArray, List.getElem_cons_zero, List.getElem_cons_succ, List.setIfInBounds_toArray, List.set_cons_zero, List.set_cons_succ])
          refine wpAnyH_take (i := 8) (v := ?tv9043) rfl (by kernel_rfl) (by kernel_rfl) (by kernel_rfl) (fun _ _ _ h => h) (Or.inl ⟨by rfl, ?hy9043⟩) (by assumption) ?rs9043
          case hy9043 => (intro w9 hSw; (try dsimp only at hSw); go_simp; (try with_reducible rfl))
          (try simp only [Act.put, List.getElem_toArray, List.getElem_cons_zero, List.getElem_cons_succ, List.setIfInBounds_toArray, List.set_cons_zero, List.set_cons_succ])
          refine wpAnyH_take (i := 9) (v := ?tv9044) rfl (by kernel_rfl) (by kernel_rfl) (by kernel_rfl) (fun _ _ _ h => h) (Or.inl ⟨by rfl, ?hy9044⟩) (by assumption) ?rs9044
          case hy9044 => (intro w9 hSw; (try dsimp only at hSw); go_simp; (try with_reducible rfl))
          (try simp only [Act.put, List.getElem_toArray, List.getElem_cons_zero, List.getElem_cons_succ, List.setIfInBounds_toArray, List.set_cons_zero, List.set_cons_succ])
          refine wpAnyH_take (i := 10) (v := ?tv9045) rfl (by kernel_rfl) (by kernel_rfl) (by kernel_rfl) (fun _ _ _ h => h) (Or.inl ⟨by rfl, ?hy9045⟩) (by assumption) ?rs9045
          case hy9045 => (intro w9 hSw; (try dsimp only at hSw); go_simp; (try with_reducible rfl))
          (try simp only [Act.put, List.getElem_toArray, List.getElem_cons_zero, List.getElem_cons_succ, List.setIfInBounds_toArray, List.set_cons_zero, List.set_cons_succ])
          refine wpAnyH_take (i := 11) (v := ?tv9046) rfl (by kernel_rfl) (by kernel_rfl) (by kernel_rfl) (fun _ _ _ h => h) (Or.inl ⟨by rfl, ?hy9046⟩) (by assumption) ?rs9046
          case hy9046 => (intro w9 hSw; (try dsimp only at hSw); go_simp; (try with_reducible rfl))
          (try simp only [Act.put, List.getElem_toArray, List.getElem_cons_zero, List.getElem_cons_succ, List.setIfInBounds_toArray, List.set_cons_zero, List.set_cons_succ])
          refine wpAnyH_ready (rs := [12]) (by kernel_rfl) (by simp) ?_
          refine AllReadyH.cons rfl (fun K hK => ?_) AllReadyH.nil
          go_simp
          go_wp2_with (first | (go_at_call 25; (refine Calls.mono (HAd.out _) ?_); rintro e Y5 ⟨rfl, rfl⟩))
          refine hK.out _ _ (⟨cell_later hY k1, cell_later hY k2, cell_later hY m1, cell_later hY m2⟩) (fun hHeld => ?_)
          clear hK K
          (try simp only [Act.put, List.getElem_toArray, List.getElem_cons_zero, List.getElem_cons_succ, List.setIfInBounds_toArray, List.set_cons_zero, List.set_cons_succ])
          refine wpAnyH_take (i := 13) (v := ?tv9047) rfl (by kernel_rfl) (by kernel_rfl) (by kernel_rfl) (fun _ _ _ h => h) (Or.inl ⟨by rfl, ?hy9047⟩) (by assumption) ?rs9047
          case hy9047 => (intro w9 hSw; (try dsimp only at hSw); go_simp; (try with_reducible rfl))
          (try simp only [Act.put, List.getElem_toArray, List.getElem_cons_zero, List.getElem_cons_succ, List.setIfInBounds_toArray, List.set_cons_zero, List.set_cons_succ])
          refine wpAnyH_take (i := 14) (v := ?tv9048) rfl (by kernel_rfl) (by kernel_rfl) (by kernel_rfl) (fun _ _ _ h => h) (Or.inl ⟨by rfl, ?hy9048⟩) (by assumption) ?rs9048
          case hy9048 => (intro w9 hSw; (try dsimp only at hSw); go_simp; (try with_reducible rfl))
          (try simp only [Act.put, List.getElem_toArray, List.getElem_cons_zero, List.getElem_cons_succ, List.setIfInBounds_toArray, List.set_cons_zero, List.set_cons_succ])
          refine wpAnyH_take (i := 15) (v := ?tv9049) rfl (by kernel_rfl) (by kernel_rfl) (by kernel_rfl) (fun _ _ _ h => h) (Or.inl ⟨by rfl, ?hy9049⟩) (by assumption) ?rs9049
          case hy9049 => (intro w9 hSw; (try dsimp only at hSw); go_simp; (try with_reducible rfl))
          (try simp only [Act.put, List.getElem_toArray, List.getElem_cons_zero, List.getElem_cons_succ, List.setIfInBounds_toArray, List.set_cons_zero, List.set_cons_succ])
          refine wpAnyH_ready (rs := [16]) (by kernel_rfl) (by simp) ?_
          refine AllReadyH.cons rfl (fun K hK => ?_) AllReadyH.nil
          go_simp
          refine hK.out _ _ (⟨cell_later hY k1, cell_later hY k2, cell_later hY m1, cell_later hY m2⟩) (fun hHeld => ?_)
          clear hK K
          (try simp only [Act.put, List.getElem_toArray, List.getElem_cons_zero, List.getElem_cons_succ, List.setIfInBounds_toArray, List.set_cons_zero, List.set_cons_succ])
          refine wpAnyH_ready (rs := [17]) (by kernel_rfl) (by simp) ?_
          refine AllReadyH.cons rfl (fun K hK => ?_) AllReadyH.nil
          go_simp
          refine hK.out _ _ (⟨cell_later hY k1, cell_later hY k2, cell_later hY m1, cell_later hY m2⟩) (fun hHeld => ?_)
          clear hK K
          (try simp only [Act.put, List.getElem_toArray, List.getElem_cons_zero, List.getElem_cons_succ, List.setIfInBounds_toArray, List.set_cons_zero, List.set_cons_succ])
          refine wpAnyH_done (by kernel_rfl) ?_ _
          clear hHeld
          replace hBc := Below.on hBc hY
          replace i1 := cell_later hY i1
          replace i2 := cell_later hY i2
          clear hY HAd k1 k2 m1 m2
          go_wp2
          go_ret
          exact ⟨by first | rfl | simp, hBc⟩
        · clear HTp3 HTq3 HTr3 HSm hA8 hP8 hAP hAdd hFP hFQ
          go_wp2
          go_ret
          exact ⟨by first | rfl | simp, hB11⟩
      · obtain rfl : fA = 8 := by rcases hA8 with h | h <;> first | exact absurd h hA0 | exact h
        clear HTp3 HTq3 HTr3 HSm hA8 hP8 hQ8 hAP hAdd hFP hFQ
        go_wp2
        go_ret
        exact ⟨by first | rfl | simp, hB11⟩

end Go.Proofs.YtnlaaejdianfjaaGreat
