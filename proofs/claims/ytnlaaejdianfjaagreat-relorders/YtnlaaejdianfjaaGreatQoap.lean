import Derived.Test.YtnlaaejdianfjaaGreatQoal
import Derived.Test.YtnlaaejdianfjaaGreatQoao
namespace Go.Proofs.YtnlaaejdianfjaaGreat
open Go.RowKit
set_option linter.unusedVariables false
set_option linter.unusedSimpArgs false

def snO (sn : List Bool) : Obj := .cells (sn.map Value.bool).toArray 56
set_option maxRecDepth 100000 in
set_option maxHeartbeats 4000000 in
theorem relOrders_any {w : World} {a : Option Addr} {len cap : Nat} {zs : List Nat} (h0 : zs.length = len) (h1 : len ≤ cap) (h2 : cap ≤ 9223372036854775807) (h3 : NumX w a zs) (by_ : Nat) (hby : by_ ≤ 255) (ds : Bool) :
    Calls Tryz.prog 6 #[.slice a len cap, .int .u8 (by_ : Int), .bool ds] w fun e w' => e = .returned (.bool true) ∧ Below w.heap.size w w' := by
  have HBg : Hid _ := hid (begun12_any w)
  have HN3 : Hid (∀ w', Below w.heap.size w w' → NumX w' a zs) := hid fun w' hb => h3.later hb
  clear h3
  go_enter Tryz.func6, Tryz.ntmps6
  go_wp2_with fail
  refine Calls.mono HBg.out ?_
  rintro e w1 ⟨rfl, hb1⟩
  clear HBg
  by_cases h60 : 60 < len
  · have g1 : decide ((60 : Int) < (len : Int)) = true := by rw [decide_eq_true_eq]; omega
    go_wp2
    go_ret
    exact ⟨rfl, hb1⟩
  have g1 : decide ((60 : Int) < (len : Int)) = false := by rw [decide_eq_false_iff_not]; omega
  have HSc : Hid _ := hid (schema_any w1)
  go_wp2_with fail
  refine Calls.mono HSc.out ?_
  rintro e w2 ⟨bt, rfl, hT, -, hb2⟩
  have hB2 := Below.on hb1 hb2
  obtain ⟨ca, cn, cc, ka, kn, kc, t0, t1, t2, hC⟩ := hT.tab0
  have hC2 : RowIs eCol (fun _ => True) w2 (.slice ca cn cc) tabT.2 := hC.mono (by decide) fun _ _ _ => trivial
  have HC2 : Hid (∀ w', Below w2.heap.size w2 w' → RowIs eCol (fun _ => True) w' (.slice ca cn cc) tabT.2) := hid fun w' hb => hC2.keep (by decide) fun b _ hl => hb.block b hl
  clear HSc hT hC hC2 hb2 hb1
  dsimp only [tabT] at t0
  have fld : ∀ w', (Instr.field 54 (.agg #[.slice (some ⟨bt, 0, none⟩) 2 2, .slice none 0 0]) 0).run Tryz.prog w' = .ok (.slice (some ⟨bt, 0, none⟩) 2 2) w' := fun w' => by first | rfl | go_simp
  go_upto_region 6 with fail
  have hb3 := bal (Below.refl _ w2) (.cells #[.string ⟨#[116]⟩, .slice ca cn cc, .slice ka kn kc] 33)
  have HRw : Hid _ := hid (rowsD_any h0 h1 h2 (HN3.out _ (Below.on hB2 hb3)) tabT.2 (by decide) (by decide) ⟨#[116]⟩ ka kn kc (HC2.out _ hb3) 15 (by decide))
  obtain ⟨R, hR⟩ : ∃ R, rowsX (tabT.2.map fun c => c.2.1) 15 zs = R := ⟨_, rfl⟩
  have hR15 : R.length ≤ 15 := by rw [← hR]; exact rowsX_len _ _ _
  have HRok : Hid (∀ r ∈ R, RwOK tabT.2 r) := hid (by rw [← hR]; exact rowsX_mem (by decide) _ _)
  rw [hR] at HRw
  have hB3 := Below.on hB2 hb3
  clear hR HN3 HC2 t1 t2 t0 hb3 fld
  go_wp2_with fail
  refine Calls.mono HRw.out ?_
  rintro e w4 ⟨v, rfl, hTe, hb4⟩
  have hB4 := Below.on hB3 hb4
  obtain ⟨B, hB⟩ : ∃ B, (w2.alloc (.cells #[.string ⟨#[116]⟩, .slice ca cn cc, .slice ka kn kc] 33)).heap.size = B := ⟨_, rfl⟩
  rw [hB] at hTe
  have hwB : w.heap.size ≤ B := by rw [← hB]; exact hB3.size
  have hB4s : B ≤ w4.heap.size := by rw [← hB]; exact hb4.size
  clear HRw hB3 hb4 hB hB2
  obtain ⟨Z, hO, hZR, hD⟩ := hTe
  obtain ⟨xa, nx, cx, rfl⟩ := hO.sl
  obtain rfl : nx = R.length := by rw [hO.lenV, zC_len, ← hZR, List.length_map]
  have hZl : Z.length = R.length := by rw [← hZR, List.length_map]
  have hxc : R.length ≤ cx ∧ cx ≤ 9223372036854775807 := by
    by_cases hp : 0 < R.length
    · obtain ⟨-, -, -, -, -, h5, h6⟩ := hO.rowG hp
      exact ⟨h5, h6⟩
    · rcases hO.2.2 with ⟨e, _⟩ | ⟨b', cap', cur, e, _, _, hnc, hc, _⟩
      · injection e with e1 e2 e3; exact ⟨by omega, by omega⟩
      · injection e with e1 e2 e3
        have hc' : cap' ≤ 9223372036854775807 := by simpa [maxLen] using hc
        exact ⟨by omega, by omega⟩
  have HZ : Hid (ZS B w4 xa Z) := hid fun hp => by
    obtain ⟨g, rfl, q1, q2, q3, -, -⟩ := hO.rowG (by omega)
    exact ⟨g, rfl, q1, q2, q3, hD⟩
  have HE : Hid (∀ i (h1 : i < Z.length) (h2 : i < R.length), Z[i].2 = if i < 0 then R[i] ++ [ixV i] else R[i]) := hid fun i h1 h2 => by
    rw [if_neg (by omega)]
    subst hZR
    rw [List.getElem_map]
  clear hO hD hZR
  go_wp2
  go_loopw [9] (fun v9 wr => ∃ (k : Nat) (Z : List Zt), k ≤ R.length ∧ v9 = .int .i64 k ∧ Z.length = R.length ∧ Hid (ZS B wr xa Z) ∧ Below w.heap.size w wr ∧ B ≤ wr.heap.size ∧ Hid (∀ i (h1 : i < Z.length) (h2 : i < R.length), Z[i].2 = if i < k then R[i] ++ [ixV i] else R[i])) (fun i _ => R.length - (intOf i).toNat)
  case atStart => exact ⟨0, Z, Nat.zero_le _, rfl, hZl, HZ, hB4, hB4s, HE⟩
  case round =>
    clear HZ HE hZl hB4 hB4s
    obtain ⟨k, Z, hk, rfl, hZl, HZ, hB4, hB4s, HE⟩ := hrel
    by_cases hlt : k < R.length
    · obtain ⟨g, rfl, hBg, hgl, hG, hD⟩ := HZ.out (by omega)
      obtain ⟨x0, f0⟩ := hG k Z[k] (List.getElem?_eq_getElem (by omega))
      have hOk := hD.own k (by omega)
      have hEk := HE.out k (by omega) hlt
      rw [if_neg (by omega)] at hEk
      obtain ⟨s, hs⟩ : ∃ s, Z[k].1 = s := ⟨_, rfl⟩
      obtain ⟨ra, rm, rd⟩ := s
      rw [hs] at x0 hOk
      rw [hEk] at hOk
      dsimp only [slV] at x0 hOk
      have hrl : R[k].length = 3 := (HRok.out _ (List.getElem_mem hlt)).1
      have HD : Hid _ := hid hD
      have HG : Hid _ := hid hG
      have HRk : Hid _ := hid hEk
      have HS : Hid _ := hid hs
      have hO5 := hOk.alloc (.cells #[.int .i64 1, .int .i64 (k : Int), .string ⟨#[]⟩] 44)
      have x5 := cell_later (bal (Below.refl _ wr) (.cells #[.int .i64 1, .int .i64 (k : Int), .string ⟨#[]⟩] 44)) x0
      have hs5 : B ≤ (wr.alloc (.cells #[.int .i64 1, .int .i64 (k : Int), .string ⟨#[]⟩] 44)).heap.size := Nat.le_trans hB4s (bal (Below.refl _ wr) _).size
      have hkm : (k : Int) < (R.length : Int) := by omega
      have hwk := wrapS hlt hxc.1 hxc.2
      have hkf : IntKind.i64.wrap (k : Int) = (k : Int) := wrapN (by omega)
      clear hOk hD hG hEk hs HZ f0
      go_wp2_with (first | (at_builtin; go_must (refine wpList_appR Tryz.underlying42 Tryz.infoTVal rfl (by decide) (by decide) rfl (.tmp 39) (.tmp 42) rfl _ (R[k].map cVs) wr.heap.size [.int .i64 1, .int .i64 (k : Int), .string ⟨#[]⟩] rfl rfl hO5 rfl (by simp [Value.oneCell']) (new3 wr _ _ _ _) (by rw [List.length_map, hrl]; decide) hs5 ?_)) | fail)
      intro v' w6 hO6 hg6 hown
      obtain ⟨a6, m6, d6, rfl⟩ := hO6.sl
      have hgr : (Value.slice ra rm rd).ownBlock ≠ some g := fun e => HD.out.out k (by omega) g (by rw [HS.out]; exact e) rfl
      have HD5 : Hid _ := hid (HD.out.later (bal (Below.refl _ wr) (.cells #[.int .i64 1, .int .i64 (k : Int), .string ⟨#[]⟩] 44)))
      have HG6 : Hid _ := hid ((HG.out.later (bal (Below.refl _ wr) (.cells #[.int .i64 1, .int .i64 (k : Int), .string ⟨#[]⟩] 44))).grown hg6 hgr)
      obtain ⟨x6, f6⟩ := HG6.out k Z[k] (List.getElem?_eq_getElem (by omega))
      have hg6l : g < w6.heap.size := Nat.lt_of_lt_of_le hgl (Nat.le_trans (bal (Below.refl _ wr) (.cells #[.int .i64 1, .int .i64 (k : Int), .string ⟨#[]⟩] 44)).size hg6.size)
      have hB6 := below_grows (bal hB4 (.cells #[.int .i64 1, .int .i64 (k : Int), .string ⟨#[]⟩] 44)) (Nat.le_trans hwB hs5) hg6 fun q e => Nat.le_trans hwB (hO5.blk q e).1
      have hs6 : B ≤ w6.heap.size := Nat.le_trans hs5 hg6.size
      have HDn : Hid (RowsD B (w6.setCell ⟨g, k, none⟩ (slV (a6, m6, d6))) (some g) (Z.set k ((a6, m6, d6), R[k] ++ [ixV k]))) := hid (HD5.out.put (s := (a6, m6, d6)) (by omega) (by rw [List.map_append]; exact hO6) (by rw [HS.out]; exact hg6) (by rw [HS.out, World.size_alloc]; exact hown) (by rw [World.size_alloc]; omega))
      have HGn : Hid (RowG (w6.setCell ⟨g, k, none⟩ (slV (a6, m6, d6))) g (Z.set k ((a6, m6, d6), R[k] ++ [ixV k]))) := hid (HG6.out.put (by omega) ((a6, m6, d6), R[k] ++ [ixV k]))
      dsimp only [slV] at HDn HGn
      have HEn : Hid (∀ i (h1 : i < (Z.set k ((a6, m6, d6), R[k] ++ [ixV k])).length) (h2 : i < R.length), (Z.set k ((a6, m6, d6), R[k] ++ [ixV k]))[i].2 = if i < k + 1 then R[i] ++ [ixV i] else R[i]) := hid fun i h1 h2 => by
        by_cases he : i = k
        · subst he
          rw [List.getElem_set_self, if_pos (by omega)]
        · rw [List.getElem_set_ne (fun e => he e.symm)]
          rw [HE.out i (by omega) h2]
          by_cases hi : i < k
          · rw [if_pos hi, if_pos (by omega)]
          · rw [if_neg hi, if_neg (by omega)]
      have hB7 := hB6.setCell (p := ⟨g, k, none⟩) (Nat.le_trans hwB hBg) (.slice a6 m6 d6)
      have hs7 : B ≤ (w6.setCell ⟨g, k, none⟩ (.slice a6 m6 d6)).heap.size := by simp only [World.setCell, Array.size_modify]; exact hs6
      have hg7 : g < (w6.setCell ⟨g, k, none⟩ (.slice a6 m6 d6)).heap.size := by simp only [World.setCell, Array.size_modify]; exact hg6l
      clear HD HG HRk HS HE HD5 HG6 hO5 hO6 hg6 hown hgr x5 x0 hs5 hB4 hB4s hgl hB6 hs6 hg6l
      go_wp2
      go_roundw
      case rel => exact ⟨k + 1, _, by omega, by go_num, by rw [List.length_set]; exact hZl, hid fun _ => ⟨g, rfl, hBg, hg7, HGn.out, HDn.out⟩, hB7, hs7, HEn⟩
      case measure => simp only [intOf]; omega
    · obtain rfl : k = R.length := by omega
      have hND : NumD R.length (Z.map (·.2)) := numD_of (L := tabT.2) rfl HRok.out hR15 (by rw [List.length_map]; exact hZl) fun i h1 h2 => by rw [List.getElem_map, HE.out i (by simpa using h1) h2, if_pos h2]
      have hX : RowIs eRow (fun _ => True) wr (.slice xa R.length cx) (Z.map (·.2)) := by
        by_cases hp : 0 < Z.length
        · obtain ⟨g, rfl, hBg, hgl, hG, hD⟩ := HZ.out hp
          refine rowZ_of hZl hxc.1 hxc.2 hG fun z hz => ?_
          obtain ⟨i, hi, rfl⟩ := List.mem_iff_getElem.1 hz
          exact OwnR.rowE (e := eVal) (hD.own i hi) (by simp) (fun _ _ _ => trivial) fun j h1 h2 => by show _ = _; simp [cVs]
        · exact ⟨_, _, _, rfl, by rw [List.length_map]; exact hZl, hxc.1, hxc.2, fun hp => by omega⟩
      obtain ⟨X, hXe⟩ : ∃ X, Z.map (·.2) = X := ⟨_, rfl⟩
      rw [hXe] at hND hX
      obtain ⟨r, hr⟩ : ∃ r, by_ % 3 = r := ⟨_, rfl⟩
      have hr3 : r < 3 := by omega
      have hO : OrdF r ds R.length (srtP (r : Int) ds X) := ordF_of hND (by omega)
      have HSo : Hid _ := hid (srcSort_any X (by have := hND.len; omega) (fun l hl => by rw [hND.four l hl]; decide) (fun l hl v hv => (hND.good l hl v hv).1) (fun l hl v hv => (hND.good l hl v hv).2) (r : Int) (by unfold Fits; omega) ds _ wr xa R.length cx hX)
      generalize srtP (r : Int) ds X = Y at *
      have nt : (by_ : Int).tmod 3 = (r : Int) := by rw [Int.tmod_eq_emod_of_nonneg (by omega)]; omega
      have hwr : IntKind.i64.wrap (r : Int) = (r : Int) := wrapN (by omega)
      have hwb : w.heap.size ≤ wr.heap.size := hB4.size
      clear hND hX hXe HZ HE hZl HRok hlt hk
      clear hr
      go_upto_region 14 with (first | (with_reducible refine Calls.mono HSo.out ?_; rintro e w7 ⟨ya, ny, cy, rfl, rY, hb7⟩))
      obtain rfl : R.length = ny := by rw [← hO.len]; exact (row_lens rY).1
      obtain ⟨-, hyc, hym⟩ := row_lens rY
      obtain ⟨bs, hbs⟩ : ∃ bs, w7.heap.size = bs := ⟨_, rfl⟩
      have bS : Bk (w7.alloc (.cells #[.bool false, .bool false, .bool false, .bool false, .bool false, .bool false, .bool false, .bool false, .bool false, .bool false, .bool false, .bool false, .bool false, .bool false, .bool false, .bool false, .bool false, .bool false, .bool false, .bool false] 56)) w7.heap.size (snO (List.replicate 20 false)) := Bk.new w7 _
      have hbW : Below w7.heap.size w7 (w7.alloc (.cells #[.bool false, .bool false, .bool false, .bool false, .bool false, .bool false, .bool false, .bool false, .bool false, .bool false, .bool false, .bool false, .bool false, .bool false, .bool false, .bool false, .bool false, .bool false, .bool false, .bool false] 56)) := bal (Below.refl _ w7) _
      have hB7 := Below.on hB4 hb7
      have hB8 := Below.on hB7 hbW
      rw [hbs] at bS ⊢
      have hwbs : w.heap.size ≤ bs := by rw [← hbs]; exact hB7.size
      generalize w7.alloc (.cells #[.bool false, .bool false, .bool false, .bool false, .bool false, .bool false, .bool false, .bool false, .bool false, .bool false, .bool false, .bool false, .bool false, .bool false, .bool false, .bool false, .bool false, .bool false, .bool false, .bool false] 56) = W at *
      have HY : Hid (∀ w', But bs W w' → RowIs eRow (fun _ => True) w' (.slice ya R.length cy) Y) := hid fun w' hb => ((rY.mono (by decide) (Q' := fun b => b < w7.heap.size) fun _ _ hl => hl).keep (by decide) fun b hq hl => (hb.block b (Nat.lt_of_lt_of_le hq hbW.size) (by rw [← hbs]; exact Nat.ne_of_lt hq)).trans (hbW.block b hq)).mono (by decide) fun _ _ _ => trivial
      have HO : Hid _ := hid hO
      have hn15 := hO.few
      have hYl := hO.len
      have HFin : Hid (∀ w', But bs W w' → Below w.heap.size w w') := hid fun w' hb => hb.below hB8 hwbs hB8.size
      clear rY hO hbW hB4 hB7 hB8 hb7 hB4s HSo hwb hbs
      go_wp2
      go_loopw [13, 14] (fun v13 v14 wz => ∃ (i : Nat) (sn : List Bool), i ≤ R.length ∧ v13 = .int .i64 i ∧ But bs W wz ∧ Bk wz bs (snO sn) ∧ sn.length = 20 ∧ Hid (∀ j (h : j < Y.length), j < i → ∀ N, Y[j].getD 3 vZ = ixV N → sn[N]? = some true)) (fun v _ _ => R.length - (intOf v).toNat)
      case atStart => exact ⟨0, List.replicate 20 false, Nat.zero_le _, rfl, But.refl _ _, bS, by decide, hid fun j h hj => absurd hj (by omega)⟩
      case round =>
        clear bS
        obtain ⟨i, sn, hi, rfl, hBt, bS, hsn, HSn⟩ := hrel
        by_cases hlt : i < R.length
        · have hiY : i < Y.length := by omega
          obtain ⟨b, o, qa, qn, qc, rfl, -, x0, rx⟩ := row1 (HY.out wr hBt) (k := i) hiY
          obtain ⟨y, hy⟩ : ∃ y, Y[i] = y := ⟨_, rfl⟩
          rw [hy] at rx
          have hyY : y ∈ Y := hy ▸ List.getElem_mem _
          have h4 := HO.out.four y hyY
          obtain ⟨N, hN, hyN⟩ := HO.out.ix y hyY
          obtain rfl : 4 = qn := by rw [← h4]; exact (row_lens rx).1
          obtain ⟨xb, xo, rfl, -, e0, e1, e2⟩ := val1 rx (k := 3) (by omega)
          have hy3 : y[3]'(by omega) = ixV N := by rw [← hyN, List.getD_eq_getElem?_getD, List.getElem?_eq_getElem (by omega)]; rfl
          rw [hy3] at e1
          dsimp only [ixV] at e1
          have hHy : Hid (Y[i] = y ∧ y ∈ Y ∧ y.length = 4 ∧ y.getD 3 vZ = ixV N) := hid ⟨hy, hyY, h4, hyN⟩
          have g2 : decide ((N : Int) < 0) = false := by rw [decide_eq_false_iff_not]; omega
          have g3 : decide ((19 : Int) < (N : Int)) = false := by rw [decide_eq_false_iff_not]; omega
          have hN20 : (N : Int) < 20 := by omega
          have hN20n : N < 20 := by omega
          have hiI : (i : Int) < (R.length : Int) := by omega
          have hwk := wrapS hlt hxc.1 hxc.2
          have s0 : wr.cell? ⟨bs, N, none⟩ = some (.bool (sn[N]'(by omega))) := by
            rw [bS.cell, List.getElem?_toArray, List.getElem?_map, List.getElem?_eq_getElem (by omega)]
            rfl
          have s1 := bS.free N
          have bS2 : Bk (wr.setCell ⟨bs, N, none⟩ (.bool true)) bs (snO (sn.set N true)) := by
            have := Bk.setK bS (k := N) (.bool true)
            have e : (sn.map Value.bool).toArray.setIfInBounds N (.bool true) = ((sn.set N true).map Value.bool).toArray := by simp [List.map_set]
            rw [e] at this
            exact this
          have hBt2 := hBt.trans (But.set bs N wr (.bool true))
          have HSn2 : Hid (∀ j (h : j < Y.length), j < i + 1 → ∀ M, Y[j].getD 3 vZ = ixV M → (sn.set N true)[M]? = some true) := hid fun j h hj M hM => by
            by_cases he : M = N
            · subst he; rw [List.getElem?_set_self (by omega)]
            · rw [List.getElem?_set_ne (fun e => he e.symm)]
              refine HSn.out j h ?_ M hM
              by_cases hji : j = i
              · subst hji
                rw [hy, hyN] at hM
                have : ((1 : Int), (N : Int), (⟨#[]⟩ : ByteArray)) = (1, (M : Int), ⟨#[]⟩) := hM
                injection this with _ h2
                injection h2 with h3 _
                omega
              · omega
          clear hy hyY hyN h4 rx hy3 e0 e2 HSn bS hBt
          go_upto_region 20 with fail
          generalize wr.setCell ⟨bs, N, none⟩ (.bool true) = W2 at *
          clear x0 e1 s0 s1 g2 g3
          have hsn2 : (sn.set N true).length = 20 := by rw [List.length_set]; exact hsn
          generalize sn.set N true = sn2 at *
          clear hsn
          by_cases hi0 : i = 0
          · subst hi0
            go_wp2
            go_roundw
            case rel => exact ⟨1, sn2, by omega, by go_num, hBt2, bS2, hsn2, HSn2⟩
            case measure => simp only [intOf]; omega
          obtain ⟨j, rfl⟩ : ∃ j, i = j + 1 := ⟨i - 1, by omega⟩
          have hjY : j < Y.length := by omega
          obtain ⟨b1, o1, pa, pn, pc, e1, -, x0, rx⟩ := row1 (HY.out W2 hBt2) (k := j) hjY
          injection e1 with e1
          injection e1 with e2 e3 _
          subst e2
          subst e3
          obtain ⟨b1, o1, qa2, qn2, qc2, e1, -, z0, rz⟩ := row1 (HY.out W2 hBt2) (k := j + 1) hiY
          injection e1 with e1
          injection e1 with e2 e3 _
          subst e2
          subst e3
          obtain ⟨x, hx⟩ : ∃ x, Y[j] = x := ⟨_, rfl⟩
          rw [hx] at rx
          rw [hHy.out.1] at rz
          have hxY : x ∈ Y := hx ▸ List.getElem_mem _
          have h4x := HO.out.four x hxY
          have h4y := hHy.out.2.2.1
          obtain ⟨M, hM, hxM⟩ := HO.out.ix x hxY
          obtain rfl : 4 = pn := by rw [← h4x]; exact (row_lens rx).1
          obtain rfl : 4 = qn2 := by rw [← h4y]; exact (row_lens rz).1
          obtain ⟨pb, po, rfl, -, d0, d1, d2⟩ := val1 rx (k := r) (by omega)
          obtain ⟨pb1, po1, e1, -, -, m1, -⟩ := val1 rx (k := 3) (by omega)
          injection e1 with e1
          injection e1 with e2 e3 _
          subst e2
          subst e3
          obtain ⟨qb, qo, rfl, -, c0, c1, c2⟩ := val1 rz (k := r) (by omega)
          obtain ⟨qb1, qo1, e1, -, -, n1, -⟩ := val1 rz (k := 3) (by omega)
          injection e1 with e1
          injection e1 with e2 e3 _
          subst e2
          subst e3
          have hx3 : x[3]'(by omega) = ixV M := by rw [← hxM, List.getD_eq_getElem?_getD, List.getElem?_eq_getElem (by omega)]; rfl
          have hy3 : y[3]'(by omega) = ixV N := by rw [← hHy.out.2.2.2, List.getD_eq_getElem?_getD, List.getElem?_eq_getElem (by omega)]; rfl
          rw [hx3] at m1
          rw [hy3] at n1
          dsimp only [ixV] at m1 n1
          obtain ⟨X, hX⟩ : ∃ X, x[r]'(by omega) = X := ⟨_, rfl⟩
          obtain ⟨V, hV⟩ : ∃ V, y[r]'(by omega) = V := ⟨_, rfl⟩
          rw [hX] at d0 d1 d2
          rw [hV] at c0 c1 c2
          have hgX := HO.out.good x hxY X (hX ▸ List.getElem_mem _)
          have hgV := HO.out.good y hHy.out.2.1 V (hV ▸ List.getElem_mem _)
          obtain ⟨cc, hcc⟩ : ∃ cc, cmpVt X V = cc := ⟨_, rfl⟩
          have HC : Hid (∀ w, Calls Tryz.prog 19 #[vV X, vV V] w fun e w' => e = .returned (.int .i64 cc) ∧ Below w.heap.size w w') := hid fun w' => by
            have := refCompare_any X.1 X.2.1 X.2.2 V.1 V.2.1 V.2.2 (by simpa [maxLen] using hgX.2.2) (by simpa [maxLen] using hgV.2.2) w'
            rw [refC_eq hgX.1 hgV.1] at this
            rw [← hcc]
            exact this
          have HK : Hid ((if ds then decide (0 ≤ cc) else decide (cc ≤ 0)) = true ∧ (cc = 0 → (M : Int) ≤ (N : Int))) := hid (by
            have hA := HO.out.adj j x y (by rw [List.getElem?_eq_getElem hjY, hx]) (by rw [List.getElem?_eq_getElem hiY, hHy.out.1])
            have f1 : x.getD r vZ = X := by rw [List.getD_eq_getElem?_getD, List.getElem?_eq_getElem (by omega), hX]; rfl
            have f2 : y.getD r vZ = V := by rw [List.getD_eq_getElem?_getD, List.getElem?_eq_getElem (by omega), hV]; rfl
            unfold okR behP ixN at hA
            rw [f1, f2, hcc, hxM, hHy.out.2.2.2] at hA
            exact hA)
          obtain ⟨X0, X1, X2⟩ := X
          obtain ⟨V0, V1, V2⟩ := V
          dsimp only [vV] at HC c0 c1 c2 d0 d1 d2
          have hjI : (j : Int) < (R.length : Int) := by omega
          have hwj : IntKind.i64.wrap (j : Int) = (j : Int) := wrapN (by omega)
          have hr4 : (r : Int) < 4 := by omega
          have hC : Below W2.heap.size W2 W2.drew := (Below.refl _ W2).drew
          clear rx rz hx hxY h4x h4y hxM hx3 hy3 hX hV hgX hgV hcc hHy hi0 hjY
          go_upto_region 21 with fail
          go_region_held (fun w' => w'.cell? ⟨b, o + j, none⟩ = some (.slice (some ⟨pb, po, none⟩) 4 pc) ∧ w'.cell? ⟨pb, po + r * 3, none⟩ = some (.int .i64 X0) ∧ w'.cell? ⟨pb, po + r * 3 + 1, none⟩ = some (.int .i64 X1) ∧ w'.cell? ⟨pb, po + r * 3 + 2, none⟩ = some (.string X2) ∧ w'.cell? ⟨b, o + (j + 1), none⟩ = some (.slice (some ⟨qb, qo, none⟩) 4 qc2) ∧ w'.cell? ⟨qb, qo + r * 3, none⟩ = some (.int .i64 V0) ∧ w'.cell? ⟨qb, qo + r * 3 + 1, none⟩ = some (.int .i64 V1) ∧ w'.cell? ⟨qb, qo + r * 3 + 2, none⟩ = some (.string V2))
            (exact ⟨cell_later hC x0, cell_later hC d0, cell_later hC d1, cell_later hC d2, cell_later hC z0, cell_later hC c0, cell_later hC c1, cell_later hC c2⟩)
            (first | (with_reducible refine Calls.mono (HC.out _) ?_; rintro e z1 ⟨rfl, hb1⟩; replace hC := Below.on hC hb1))
          all_goals
            have hBt4 := hBt2.trans (But.of hC)
            have bS4 := bS2.later hC
            have x4 := cell_later hC x0
            have z4 := cell_later hC z0
            have m4 := cell_later hC m1
            have n4 := cell_later hC n1
            clear hC HC x0 d0 d1 d2 z0 c0 c1 c2 m1 n1 hBt2 bS2
            cases ds with
            | true =>
              have hc0 : 0 ≤ cc := by have := HK.out.1; simpa using this
              have g4 : decide (cc < 0) = false := by rw [decide_eq_false_iff_not]; omega
              by_cases he : cc = 0
              · subst he
                have g5 : decide ((N : Int) < (M : Int)) = false := by rw [decide_eq_false_iff_not]; have := HK.out.2 rfl; omega
                have g7 : ¬ N < M := by rw [decide_eq_false_iff_not] at g5; omega
                have g8 : decide (N < M) = false := by rw [decide_eq_false_iff_not]; exact g7
                clear HK hc0 g4
                go_wp2
                go_quiet (fail)
                go_wp2
                go_roundw
                case rel => exact ⟨j + 1 + 1, sn2, by omega, by go_num, hBt4.rdrew _, ⟨bS4.row⟩, hsn2, HSn2⟩
                case measure => simp only [intOf]; omega
              · have g5 : decide (cc = 0) = false := by rw [decide_eq_false_iff_not]; exact he
                have g6 : (cc == 0) = false := by simpa using he
                clear HK hc0 he
                go_wp2
                go_quiet (fail)
                go_wp2
                go_roundw
                case rel => exact ⟨j + 1 + 1, sn2, by omega, by go_num, hBt4.rdrew _, ⟨bS4.row⟩, hsn2, HSn2⟩
                case measure => simp only [intOf]; omega
            | false =>
              have hc0 : cc ≤ 0 := by have := HK.out.1; simpa using this
              have g4 : decide (0 < cc) = false := by rw [decide_eq_false_iff_not]; omega
              by_cases he : cc = 0
              · subst he
                have g5 : decide ((N : Int) < (M : Int)) = false := by rw [decide_eq_false_iff_not]; have := HK.out.2 rfl; omega
                have g7 : ¬ N < M := by rw [decide_eq_false_iff_not] at g5; omega
                have g8 : decide (N < M) = false := by rw [decide_eq_false_iff_not]; exact g7
                clear HK hc0 g4
                go_wp2
                go_quiet (fail)
                go_wp2
                go_roundw
                case rel => exact ⟨j + 1 + 1, sn2, by omega, by go_num, hBt4.rdrew _, ⟨bS4.row⟩, hsn2, HSn2⟩
                case measure => simp only [intOf]; omega
              · have g5 : decide (cc = 0) = false := by rw [decide_eq_false_iff_not]; exact he
                have g6 : (cc == 0) = false := by simpa using he
                clear HK hc0 he
                go_wp2
                go_quiet (fail)
                go_wp2
                go_roundw
                case rel => exact ⟨j + 1 + 1, sn2, by omega, by go_num, hBt4.rdrew _, ⟨bS4.row⟩, hsn2, HSn2⟩
                case measure => simp only [intOf]; omega
        · obtain rfl : i = R.length := by omega
          have HAll : Hid (∀ q, q < R.length → wr.cell? ⟨bs, q, none⟩ = some (.bool true)) := hid fun q hq => by
            obtain ⟨j, hj, e⟩ := HO.out.all q hq
            have := HSn.out j hj (by omega) q e
            rw [bS.cell, List.getElem?_toArray, List.getElem?_map, this]
            rfl
          have hF := HFin.out _ hBt
          clear HO HSn HFin HY bS hBt
          go_wp2
          go_loopw [15] (fun v15 wq => ∃ q : Nat, q ≤ R.length ∧ v15 = .int .i64 q ∧ wq = wr) (fun v _ => R.length - (intOf v).toNat)
          case atStart => exact ⟨0, Nat.zero_le _, rfl, rfl⟩
          case round =>
            obtain ⟨q, hq, rfl, hwq⟩ := hrel
            by_cases hql : q < R.length
            · have c0 := HAll.out q hql
              have hqI : (q : Int) < (R.length : Int) := by omega
              have hq20 : (q : Int) < 20 := by omega
              have hwk := wrapS hql hxc.1 hxc.2
              subst hwq
              go_wp2
              go_roundw
              case rel => exact ⟨q + 1, by omega, by go_num, by first | rfl | trivial⟩
              case measure => simp only [intOf]; omega
            · obtain rfl : q = R.length := by omega
              subst hwq
              go_wp2
              go_ret
              exact ⟨by simp, hF⟩

end Go.Proofs.YtnlaaejdianfjaaGreat
namespace Go.Proofs.YtnlaaejdianfjaaGreat
open Go.RowKit
set_option linter.unusedVariables false
set_option linter.unusedSimpArgs false

theorem relOrdersW {w : World} {a : Option Addr} {len cap : Nat} {xs : List Int} (h : Rd .u8 w a len cap xs) (hx : ∀ x ∈ xs, 0 ≤ x ∧ x ≤ 255) (by_ : Nat) (hby : by_ ≤ 255) (ds : Bool) :
    Calls Tryz.prog 6 #[.slice a len cap, .int .u8 (by_ : Int), .bool ds] w fun e w' => e = .returned (.bool true) ∧ Below w.heap.size w w' := by
  obtain ⟨zs, h0, h3⟩ := NumX.of h hx
  exact relOrders_any h0 h.cap h.max h3 by_ hby ds

end Go.Proofs.YtnlaaejdianfjaaGreat
