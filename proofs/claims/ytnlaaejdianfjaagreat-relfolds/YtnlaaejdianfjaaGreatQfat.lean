import Derived.Test.YtnlaaejdianfjaaGreatQfas
import Derived.Test.YtnlaaejdianfjaaGreatQfah
namespace Go.Proofs.YtnlaaejdianfjaaGreat
open Go.RowKit
set_option linter.unusedVariables false
set_option linter.unusedSimpArgs false

theorem runV_eqs {k i : Int} {s : ByteArray} {k' i' : Int} {s' : ByteArray} {b : Bool} (hb : decide (((k, i, s) : Vt) = (k', i', s')) = b) (w : World) :
    (binOp .eql 44 (.agg #[.int .i64 k, .int .i64 i, .string s]) (.agg #[.int .i64 k', .int .i64 i', .string s'])).run Tryz.prog w = .ok (.bool b) w := by
  subst hb
  by_cases h1 : k = k'
  · by_cases h2 : i = i'
    · by_cases h5 : s = s'
      · subst h1 h2 h5
        simp only [decide_true]
        go_simp
      · have h3 : (s.toList == s'.toList) = false := by
          rw [same_nums, decide_eq_false_iff_not]
          intro e
          exact h5 (nums_inj (lexI_zero e))
        have h6 : decide (((k, i, s) : Vt) = (k', i', s')) = false := by simp [h5]
        rw [h6]
        subst h1 h2
        go_simp
    · have h3 : (i == i') = false := by simpa using h2
      have h4 : decide (i = i') = false := by simpa using h2
      have h6 : decide (((k, i, s) : Vt) = (k', i', s')) = false := by simp [h2]
      rw [h6]
      subst h1
      go_simp
  · have h3 : (k == k') = false := by simpa using h1
    have h4 : decide (k = k') = false := by simpa using h1
    have h6 : decide (((k, i, s) : Vt) = (k', i', s')) = false := by simp [h1]
    rw [h6]
    go_simp
theorem any_snocT {L : List (List Vt)} {k : Nat} (hk : k < L.length) (p : List Vt → Bool) : (L.take (k + 1)).any p = ((L.take k).any p || p L[k]) := by
  rw [List.take_succ_eq_append_getElem hk, List.any_append]; simp
/-- Select of the first table, folded, nothing else asked. -/
theorem selFT_any {its : List It} (hi5 : its.length ≤ 500) (hag : its.any (fun x => !decide (x.1 = 0)) = true) {ii c x lr : Sl} {w : World} {Q Q1 Q2 Q3 : Nat → Prop} (hi : RowIs eItem Q w (slV ii) its) (hc : RowIs eCol Q1 w (slV c) tbT.cols) (hx : RowIs eStr Q2 w (slV x) tbT.index) {L : List (List Vt)} (hL : RowIs eRow Q3 w (slV lr) L) (hL5 : L.length ≤ 500) (hR : ∀ r ∈ L, RwOK tbT.cols r) :
    Calls Tryz.prog 12 #[stV ⟨6, ⟨#[116]⟩, ⟨#[]⟩, (none, 0, 0), (none, 0, 0), (none, 0, 0), ii, ⟨#[]⟩, (none, 0, 0), (none, 0, 0), (none, 0, 0), false, (none, 0, 0)⟩, tbV ⟨#[116]⟩ c x, tbV ⟨#[]⟩ (none, 0, 0) (none, 0, 0), slV lr, slV (none, 0, 0)] w (TeSel w (foE (scP [tbT]) its (L, 0)) [foR (scP [tbT]) its (L, 0)]) := by
  have key := selF_any (s := ⟨6, ⟨#[116]⟩, ⟨#[]⟩, (none, 0, 0), (none, 0, 0), (none, 0, 0), ii, ⟨#[]⟩, (none, 0, 0), (none, 0, 0), (none, 0, 0), false, (none, 0, 0)⟩) rfl (n1 := ⟨#[116]⟩) (n2 := ⟨#[]⟩) (c1 := c) (x1 := x) (c2 := (none, 0, 0)) (x2 := (none, 0, 0)) (lr := lr) (rr := (none, 0, 0)) (w := w) (C := scP [tbT]) (by decide) (Rs := L) hL5
    (fun r hr => ⟨by rw [(hR r hr).1]; rfl, fun v hv => by have hg := rwOK_good (hR r hr) v hv; exact ⟨hg.2.1, mayV_size hg.1⟩⟩) (EF := 0)
    (fun W hb => fromN_any (t := tbT) rfl (by decide) (hc.keep (by decide) fun b _ hlt => hb.block b hlt) (hx.keep (by decide) fun b _ hlt => hb.block b hlt) (hL.keep (by decide) fun b _ hlt => hb.block b hlt))
    (l := []) (by decide) (fun x hx => by simp at hx) (RowIs.nil eG (fun _ => True) w) hi5 hi hag
  rw [fnd_none] at key
  exact key
theorem it2_row {w : World} {b : Nat} {x y : It} (h : Bk w b (.cells #[.int .i64 x.1, .string x.2.1, .string x.2.2, .int .i64 y.1, .string y.2.1, .string y.2.2] 50)) : RowIs eItem (fun _ => True) w (.slice (some ⟨b, 0, none⟩) 2 2) [x, y] :=
  ⟨_, 2, 2, rfl, rfl, Nat.le_refl _, by decide, fun _ => ⟨b, 0, rfl, trivial, fun i hi => by
    match i, hi with
    | 0, _ => exact ⟨[.int .i64 x.1, .string x.2.1, .string x.2.2], rfl, rfl, fun j hj => by
        match j, hj with
        | 0, _ => exact h.cell 0
        | 1, _ => exact h.cell 1
        | 2, _ => exact h.cell 2⟩
    | 1, _ => exact ⟨[.int .i64 y.1, .string y.2.1, .string y.2.2], rfl, rfl, fun j hj => by
        match j, hj with
        | 0, _ => exact h.cell 3
        | 1, _ => exact h.cell 4
        | 2, _ => exact h.cell 5⟩⟩⟩
theorem it1_row {w : World} {b : Nat} {x : It} (h : Bk w b (.cells #[.int .i64 x.1, .string x.2.1, .string x.2.2] 50)) : RowIs eItem (fun _ => True) w (.slice (some ⟨b, 0, none⟩) 1 1) [x] := one_row (e := eItem) (cs := [.int .i64 x.1, .string x.2.1, .string x.2.2]) rfl rfl fun j hj => by
  rw [h.cell]; simp only [List.getElem?_toArray]; exact List.getElem?_eq_getElem hj
theorem RowIs.upto {α : Type} {e : Ek α} {Q : Nat → Prop} {w : World} {ao : Option Addr} {n c : Nat} {l : List α} (h : RowIs e Q w (.slice ao n c) l) {m : Nat} (hm : m ≤ n) : RowIs e Q w (.slice ao m c) (l.take m) := by
  obtain ⟨_, _, _, e', h1, h2, h3, hx⟩ := h
  cases e'
  refine ⟨ao, m, c, rfl, by rw [List.length_take]; omega, by omega, by omega, fun hp => ?_⟩
  obtain ⟨b, o, rfl, hq, hc⟩ := hx (by omega)
  refine ⟨b, o, rfl, hq, fun i hi => ?_⟩
  obtain ⟨cs, r1, r2, r3⟩ := hc i (by rw [List.length_take] at hi; omega)
  exact ⟨cs, by rw [List.getElem_take]; exact r1, r2, r3⟩
set_option maxRecDepth 100000 in
theorem slice_rowsUpto {ao : Option Addr} {n c k : Nat} (hk : k ≤ n) (hc : n ≤ c) (hm : c ≤ 9223372036854775807) (w' : World) : (Instr.slice 36 (.slice ao n c) none (some (.int .i64 k)) none).run Tryz.prog w' = .ok (.slice ao k c) w' := by
  have e0 : ∀ a : Addr, a.add 0 = a := fun a => by unfold Addr.add; simp
  have hrc' : (k : Int) ≤ (c : Int) := by omega
  cases ao with
  | none => go_simp
  | some a => go_simp
set_option maxRecDepth 100000 in
theorem slice_rowsOff {ao : Option Addr} {n c k : Nat} (hr : k ≤ n) (hc : n ≤ c) (hm : c ≤ 9223372036854775807) (w' : World) : (Instr.slice 36 (.slice ao n c) (some (.int .i64 (k : Int))) none none).run Tryz.prog w' = .ok (.slice (if c = k then ao else ao.map (·.add (k * 1))) (n - k) (c - k)) w' := by
  have g2 : k ≤ c := by omega
  have g3 : (k : Int) ≤ (n : Int) := by omega
  have g4 : (n : Int) ≤ (c : Int) := by omega
  have g5 : ¬ (n : Int) < (k : Int) := by omega
  cases ao with
  | none => go_simp
  | some a => go_simp
theorem TeSel.congr {w w' : World} {E : Int} {R R' : List (List Vt)} {e : Ending} (h : TeSel w E R e w') (hR : E = 0 → R = R') : TeSel w E R' e w' := by
  obtain ⟨a, n, c, h1, h2, h3, h4⟩ := h
  exact ⟨a, n, c, h1, fun h0 => hR h0 ▸ h2 h0, h3, h4⟩
theorem col2_ok {r : List Vt} (h : RwOK tbT.cols r) : 2 < r.length ∧ (cvC 2 r).1 = 1 := by
  have h3 : r.length = 3 := h.1
  refine ⟨by omega, ?_⟩
  have := (h.2 2 (by decide) (by omega)).1
  unfold cvC
  rw [List.getD_eq_getElem?_getD, List.getElem?_eq_getElem (by omega)]
  exact this
/-- Select of the sum of the third column. -/
theorem selSum_any {b : Nat} {c x lr : Sl} {w : World} {Q1 Q2 Q3 : Nat → Prop} (hi : RowIs eItem (fun _ => True) w (.slice (some ⟨b, 0, none⟩) 1 1) [(2, ⟨#[]⟩, ⟨#[110]⟩)]) (hc : RowIs eCol Q1 w (slV c) tbT.cols) (hx : RowIs eStr Q2 w (slV x) tbT.index) {L : List (List Vt)} (hL : RowIs eRow Q3 w (slV lr) L) (hL5 : L.length ≤ 500) (hR : ∀ r ∈ L, RwOK tbT.cols r) :
    Calls Tryz.prog 12 #[.agg #[.int .i64 6, .string ⟨#[116]⟩, .string ⟨#[]⟩, .slice none 0 0, .slice none 0 0, .slice none 0 0, .slice (some ⟨b, 0, none⟩) 1 1, .string ⟨#[]⟩, .slice none 0 0, .slice none 0 0, .slice none 0 0, .bool false, .slice none 0 0], .agg #[.string ⟨#[116]⟩, slV c, slV x], .agg #[.string ⟨#[]⟩, .slice none 0 0, .slice none 0 0], slV lr, .slice none 0 0] w (TeSel w (smC 2 L).2 [[(1, (smC 2 L).1, ⟨#[]⟩)]]) := by
  have hs := fold_sum pl_n (L := L) fun r hr => col2_ok (hR r hr)
  refine (selFT_any (its := [(2, ⟨#[]⟩, ⟨#[110]⟩)]) (ii := (some ⟨b, 0, none⟩, 1, 1)) (c := c) (x := x) (lr := lr) (by simp) rfl hi hc hx hL hL5 hR).mono fun e w' h => ?_
  rw [hs.1] at h
  exact h.congr fun h0 => by rw [hs.2 h0]
theorem one_cells {Q : Nat → Prop} {w : World} {a : Option Addr} {c : Nat} {x : Vt} (h : RowIs eRow Q w (.slice a 1 c) [[x]]) : ∃ b o b' o' rc, a = some ⟨b, o, none⟩ ∧ w.cell? ⟨b, o, none⟩ = some (.slice (some ⟨b', o', none⟩) 1 rc) ∧ w.cell? ⟨b', o' + 1, none⟩ = some (.int .i64 x.2.1) := by
  obtain ⟨b, o, ra, rn, rc, rfl, -, m0, rm⟩ := row1 h (k := 0) (by simp)
  have rm' : RowIs eVal _ w (.slice ra rn rc) [x] := rm
  obtain rfl : 1 = rn := (row_lens rm').1
  obtain ⟨b', o', rfl, -, a0, a1, a2⟩ := val1 rm' (k := 0) (by simp)
  simp only [Nat.zero_mul, Nat.add_zero, List.getElem_cons_zero] at m0 a1
  exact ⟨b, o, b', o', rc, rfl, m0, a1⟩
set_option maxRecDepth 100000 in
theorem one_any {w : World} {b o b' o' rc c : Nat} (h : w.cell? ⟨b, o, none⟩ = some (.slice (some ⟨b', o', none⟩) 1 rc)) : Calls Tryz.prog 24 #[.slice (some ⟨b, o, none⟩) 1 c] w fun e w' => e = .returned (.bool true) ∧ Below w.heap.size w w' := by
  have hb := Below.refl w.heap.size w
  go_enter Tryz.func24, Tryz.ntmps24
  go_wp2
  go_ret
  exact ⟨rfl, hb⟩
set_option maxRecDepth 100000 in
set_option maxHeartbeats 16000000 in
theorem relFolds_t {a : Option Addr} {len cap : Nat} {zs : List Nat} (w : World) (hz : zs.length = len) (hlc : len ≤ cap) (hcm : cap ≤ 9223372036854775807) (hnx : NumX w a zs) (nu : Nat) (hnu : nu ≤ 255) : Calls Tryz.prog 8 #[.slice a len cap, .int .u8 (nu : Int), .bool true] w fun e w' => e = .returned (.bool true) ∧ Below w.heap.size w w' := by
  have H0 : Hid _ := hid (begun12_any w)
  have HS : Hid (∀ w1, _) := hid fun w1 => schemaT_any w1
  have HNu : Hid (∀ w1 : World, Below w.heap.size w w1 → NumX w1 a zs) := hid fun w1 hb => hnx.later hb
  clear hnx
  go_enter Tryz.func8, Tryz.ntmps8
  go_wp2_with fail
  refine Calls.mono H0.out ?_
  rintro e U ⟨rfl, hw⟩
  clear H0
  by_cases hl : 60 < len
  · have hl1 : (60 : Int) < (len : Int) := by omega
    have hl2 : decide ((60 : Int) < (len : Int)) = true := by simpa using hl1
    go_wp2
    go_ret
    exact ⟨rfl, hw⟩
  have hl1 : ¬ (60 : Int) < (len : Int) := by omega
  have hl2 : decide ((60 : Int) < (len : Int)) = false := by simpa using hl1
  go_wp2_with fail
  refine Calls.mono (HS.out _) ?_
  rintro e U1 ⟨tbk, rfl, hT, hbk, hb1⟩
  replace hw := Below.on hw hb1
  have hrow := hT.row
  obtain ⟨_, _, _, e', -, -, -, hx⟩ := hrow
  cases e'
  obtain ⟨_, _, e', -, hi⟩ := hx (by decide)
  cases e'
  obtain ⟨cs, hE, -, hcc⟩ := hi 0 (by simp)
  obtain ⟨ca, cn, cc, xa, xn, xc, rfl, hcol, hix⟩ := hE
  have c0 : U1.cell? ⟨tbk, 0, none⟩ = some (.string ⟨#[116]⟩) := by have := hcc 0 (show 0 < 3 by decide); simpa [eTbl] using this
  have c1 : U1.cell? ⟨tbk, 1, none⟩ = some (.slice ca cn cc) := by have := hcc 1 (show 1 < 3 by decide); simpa [eTbl] using this
  have c2 : U1.cell? ⟨tbk, 2, none⟩ = some (.slice xa xn xc) := by have := hcc 2 (show 2 < 3 by decide); simpa [eTbl] using this
  have HCol : Hid (∀ w', Below U1.heap.size U1 w' → RowIs eCol (fun _ => True) w' (.slice ca cn cc) tbT.cols) := hid fun w' hb => (hcol.mono (by decide) fun _ _ _ => trivial).keep (by decide) fun b _ hl => hb.block b hl
  have HIdx : Hid (∀ w', Below U1.heap.size U1 w' → RowIs eStr (fun _ => True) w' (.slice xa xn xc) tbT.index) := hid fun w' hb => (hix.mono (by decide) fun _ _ _ => trivial).keep (by decide) fun b _ hl => hb.block b hl
  obtain rfl : 3 = cn := (row_lens hcol).1
  have hft := fldT
  have hb2 := bal (Below.refl _ U1) (.cells #[.string ⟨#[116]⟩, .slice ca 3 cc, .slice xa xn xc] 33)
  have bT := Bk.new U1 (.cells #[.string ⟨#[116]⟩, .slice ca 3 cc, .slice xa xn xc] 33)
  clear hT hx hi hcc hb1 HS hcol hix
  go_upto_region 6 with fail
  generalize U1.alloc (.cells #[.string ⟨#[116]⟩, .slice ca 3 cc, .slice xa xn xc] 33) = U1t at *
  obtain ⟨qt, hqt⟩ : ∃ qt, U1.heap.size = qt := ⟨_, rfl⟩
  rw [hqt] at bT
  (try rw [hqt])
  obtain ⟨t0, t1, t2⟩ : U1t.cell? ⟨qt, 0, none⟩ = some (.string ⟨#[116]⟩) ∧ U1t.cell? ⟨qt, 1, none⟩ = some (.slice ca 3 cc) ∧ U1t.cell? ⟨qt, 2, none⟩ = some (.slice xa xn xc) := ⟨bT.cell 0, bT.cell 1, bT.cell 2⟩
  have HRw : Hid _ := hid (rowsP_any hz hlc hcm (HNu.out U1t (Below.on hw hb2)) tbT.cols (by decide) (by decide) ⟨#[116]⟩ xa xn xc (HCol.out _ hb2) 12 (by decide))
  obtain ⟨L, hL⟩ : ∃ L, rowsX (tbT.cols.map fun c => c.2.1) 12 zs = L := ⟨_, rfl⟩
  have hL12 : L.length ≤ 12 := by rw [← hL]; exact rowsX_len _ _ _
  have HRok : Hid (∀ r ∈ L, RwOK tbT.cols r) := hid (by rw [← hL]; exact rowsX_mem (by decide) _ _)
  rw [hL] at HRw
  replace hw := Below.on hw hb2
  clear hL HNu c0 c1 c2 hft hqt bT
  go_wp2_with fail
  refine Calls.mono HRw.out ?_
  rintro e W4 ⟨v, rfl, hTe, hb4⟩
  have hU4 : Below U1.heap.size U1 W4 := Below.on hb2 hb4
  replace hw := Below.on hw hb4
  replace t0 := cell_later hb4 t0
  replace t1 := cell_later hb4 t1
  replace t2 := cell_later hb4 t2
  obtain ⟨css, hO, -, -⟩ := id hTe
  obtain ⟨ba, bn, bc, rfl⟩ := hO.sl
  obtain rfl := hTe.len
  have rI : RowIs eRow (fun _ => True) W4 (.slice ba L.length bc) L := hTe.row.mono (by decide) fun _ _ _ => trivial
  obtain ⟨-, hbc, hbm⟩ := row_lens rI
  have HL : Hid (∀ w', Below W4.heap.size W4 w' → RowIs eRow (fun _ => True) w' (.slice ba L.length bc) L) := hid fun w' hb => rI.keep (by decide) fun b _ hl => hb.block b hl
  replace HCol : Hid (∀ w', Below W4.heap.size W4 w' → RowIs eCol (fun _ => True) w' (.slice ca 3 cc) tbT.cols) := hid fun w' hb => HCol.out w' (Below.on hU4 hb)
  replace HIdx : Hid (∀ w', Below W4.heap.size W4 w' → RowIs eStr (fun _ => True) w' (.slice xa xn xc) tbT.index) := hid fun w' hb => HIdx.out w' (Below.on hU4 hb)
  obtain ⟨bco, oco, hca, k0, k1, k2⟩ := col1 (HCol.out W4 (Below.refl _ _)) (k := 1) (by decide)
  subst hca
  have hnm : tbT.cols[1].1 = ⟨#[118]⟩ := rfl
  rw [hnm] at k0
  clear hTe hO rI HRw hb4 hb2 hU4 css hnm k1 k2 hbk
  obtain ⟨qi, hqi⟩ : ∃ qi, W4.heap.size = qi := ⟨_, rfl⟩
  have bI := (Bk.new W4 (.cells #[.int .i64 3, .string ⟨#[]⟩, .string ⟨#[118]⟩, .int .i64 4, .string ⟨#[]⟩, .string ⟨#[118]⟩] 50)).later (bal (Below.refl _ _) (.cells #[.int .i64 6, .string ⟨#[116]⟩, .string ⟨#[]⟩, .slice none 0 0, .slice none 0 0, .slice none 0 0, .slice (some ⟨qi, 0, none⟩) 2 2, .string ⟨#[]⟩, .slice none 0 0, .slice none 0 0, .slice none 0 0, .bool false, .slice none 0 0] 30))
  have bS := Bk.new (W4.alloc (.cells #[.int .i64 3, .string ⟨#[]⟩, .string ⟨#[118]⟩, .int .i64 4, .string ⟨#[]⟩, .string ⟨#[118]⟩] 50)) (.cells #[.int .i64 6, .string ⟨#[116]⟩, .string ⟨#[]⟩, .slice none 0 0, .slice none 0 0, .slice none 0 0, .slice (some ⟨qi, 0, none⟩) 2 2, .string ⟨#[]⟩, .slice none 0 0, .slice none 0 0, .slice none 0 0, .bool false, .slice none 0 0] 30)
  rw [World.size_alloc, hqi] at bS
  rw [hqi] at bI
  have hb5 := bal (bal (Below.refl _ W4) (.cells #[.int .i64 3, .string ⟨#[]⟩, .string ⟨#[118]⟩, .int .i64 4, .string ⟨#[]⟩, .string ⟨#[118]⟩] 50)) (.cells #[.int .i64 6, .string ⟨#[116]⟩, .string ⟨#[]⟩, .slice none 0 0, .slice none 0 0, .slice none 0 0, .slice (some ⟨qi, 0, none⟩) 2 2, .string ⟨#[]⟩, .slice none 0 0, .slice none 0 0, .slice none 0 0, .bool false, .slice none 0 0] 30)
  have HQi : Hid _ := hid hqi
  go_upto_region 12 with fail
  (try rw [hqi])
  (try rw [World.size_alloc, hqi])
  clear hqi k0
  generalize (W4.alloc (.cells #[.int .i64 3, .string ⟨#[]⟩, .string ⟨#[118]⟩, .int .i64 4, .string ⟨#[]⟩, .string ⟨#[118]⟩] 50)).alloc (.cells #[.int .i64 6, .string ⟨#[116]⟩, .string ⟨#[]⟩, .slice none 0 0, .slice none 0 0, .slice none 0 0, .slice (some ⟨qi, 0, none⟩) 2 2, .string ⟨#[]⟩, .slice none 0 0, .slice none 0 0, .slice none 0 0, .bool false, .slice none 0 0] 30) = W5 at *
  have hw5 := Below.on hw hb5
  replace t0 := cell_later hb5 t0
  replace t1 := cell_later hb5 t1
  replace t2 := cell_later hb5 t2
  have HSel : Hid _ := hid (selFT_any (its := [(3, ⟨#[]⟩, ⟨#[118]⟩), (4, ⟨#[]⟩, ⟨#[118]⟩)]) (ii := (some ⟨qi, 0, none⟩, 2, 2)) (c := (some ⟨bco, oco, none⟩, 3, cc)) (x := (xa, xn, xc)) (lr := (ba, L.length, bc)) (by simp) rfl (it2_row bI) (HCol.out _ hb5) (HIdx.out _ hb5) (HL.out _ hb5) (by omega) HRok.out)
  dsimp only [stV, tbV, slV] at HSel
  obtain ⟨s0, s1, s2, s3, s4, s5, s6, s7, s8, s9, s10, s11, s12⟩ : W5.cell? ⟨qi + 1, 0, none⟩ = some (.int .i64 6) ∧ W5.cell? ⟨qi + 1, 1, none⟩ = some (.string ⟨#[116]⟩) ∧ W5.cell? ⟨qi + 1, 2, none⟩ = some (.string ⟨#[]⟩) ∧ W5.cell? ⟨qi + 1, 3, none⟩ = some (.slice none 0 0) ∧ W5.cell? ⟨qi + 1, 4, none⟩ = some (.slice none 0 0) ∧ W5.cell? ⟨qi + 1, 5, none⟩ = some (.slice none 0 0) ∧ W5.cell? ⟨qi + 1, 6, none⟩ = some (.slice (some ⟨qi, 0, none⟩) 2 2) ∧ W5.cell? ⟨qi + 1, 7, none⟩ = some (.string ⟨#[]⟩) ∧ W5.cell? ⟨qi + 1, 8, none⟩ = some (.slice none 0 0) ∧ W5.cell? ⟨qi + 1, 9, none⟩ = some (.slice none 0 0) ∧ W5.cell? ⟨qi + 1, 10, none⟩ = some (.slice none 0 0) ∧ W5.cell? ⟨qi + 1, 11, none⟩ = some (.bool false) ∧ W5.cell? ⟨qi + 1, 12, none⟩ = some (.slice none 0 0) := ⟨bS.cell 0, bS.cell 1, bS.cell 2, bS.cell 3, bS.cell 4, bS.cell 5, bS.cell 6, bS.cell 7, bS.cell 8, bS.cell 9, bS.cell 10, bS.cell 11, bS.cell 12⟩
  clear bS bI
  by_cases hL0 : L = []
  · subst hL0
    rw [fold_mm0 pl_v] at HSel
    dsimp only [List.length_nil] at HSel
    clear HL HCol HIdx HRok
    go_wp2_with fail
    refine Calls.mono HSel.out ?_
    rintro e W6 ⟨ma, mn, mc, rfl, -, hN, hb6⟩
    obtain ⟨rfl, rfl, rfl⟩ := hN (by simp)
    have hB6 := Below.on hw5 hb6
    clear HSel hb6 hN s0 s1 s2 s3 s4 s5 s6 s7 s8 s9 s10 s11 s12
    go_wp2
    go_ret
    exact ⟨by first | rfl | simp, hB6⟩
  have hlen : 0 < L.length := List.length_pos_iff.2 hL0
  have hlI : decide ((L.length : Int) = 0) = false := by rw [decide_eq_false_iff_not]; omega
  have hlI2 : ((L.length : Int) == 0) = false := by simpa using hL0
  obtain ⟨A, B, he, hr, hA, hB, hAl, hBl⟩ := fold_mm pl_v (L := L) (fun r hr => by rw [rwOK_len (HRok.out r hr)]; decide) hL0
  rw [he, hr] at HSel
  have HAB : Hid _ := hid (And.intro hA (And.intro hB (And.intro hAl hBl)))
  clear he hr hA hB hAl hBl
  go_wp2_with fail
  refine Calls.mono HSel.out ?_
  rintro e W6 ⟨ma, mn, mc, rfl, hT, -, hb6⟩
  have hT' := hT rfl
  obtain rfl : mn = 1 := hT'.len
  have hB6 := Below.on hw5 hb6
  have hb46 := Below.on hb5 hb6
  obtain ⟨b7, o7, ra, rn, rc, rfl, -, m0, rm⟩ := row1 hT'.row (k := 0) (by simp)
  have rm' : RowIs eVal _ W6 (.slice ra rn rc) [A, B] := rm
  obtain rfl : 2 = rn := (row_lens rm').1
  obtain ⟨b8, o8, rfl, -, a0, a1, a2⟩ := val1 rm' (k := 0) (by simp)
  obtain ⟨b8', o8', e8, -, e0, e1, e2⟩ := val1 rm' (k := 1) (by simp)
  cases e8
  simp only [Nat.zero_mul, Nat.one_mul, Nat.add_zero, List.getElem_cons_zero, List.getElem_cons_succ] at m0 a0 a1 a2 e0 e1 e2
  obtain ⟨A0, A1, A2⟩ := A
  obtain ⟨B0, B1, B2⟩ := B
  dsimp only at a0 a1 a2 e0 e1 e2
  have HLv : Hid (∀ w', Below W6.heap.size W6 w' → RowIs eRow (fun _ => True) w' (.slice ba L.length bc) L) := hid fun w' hb => HL.out w' (Below.on hb46 hb)
  have HAfter : Hid _ := hid (And.intro HL.out (And.intro HCol.out HIdx.out))
  replace t0 := cell_later hb6 t0
  replace t1 := cell_later hb6 t1
  replace t2 := cell_later hb6 t2
  have HT : Hid (W6.cell? ⟨qt, 0, none⟩ = some (.string ⟨#[116]⟩) ∧ W6.cell? ⟨qt, 1, none⟩ = some (.slice (some ⟨bco, oco, none⟩) 3 cc) ∧ W6.cell? ⟨qt, 2, none⟩ = some (.slice xa xn xc)) := hid ⟨t0, t1, t2⟩
  have HB6 : Hid _ := hid hB6
  clear HSel hb6 hT hT' rm rm' s0 s1 s2 s3 s4 s5 s6 s7 s8 s9 s10 s11 s12 t0 t1 t2 HL HCol HIdx hb5 hw5 hB6
  go_wp2
  have HLen : Hid (0 < L.length) := hid hlen
  go_loopw [14, 15, 16] (fun v14 v15 v16 wr => ∃ (k : Nat), k ≤ L.length ∧ v16 = .int .i64 k ∧ v14 = .bool ((L.take k).any fun r => decide (cvC 1 r = (A0, A1, A2))) ∧ v15 = .bool ((L.take k).any fun r => decide (cvC 1 r = (B0, B1, B2))) ∧ Below W6.heap.size W6 wr) (fun _ _ i _ => L.length - (intOf i).toNat)
  case atStart => exact ⟨0, Nat.zero_le _, rfl, rfl, rfl, Below.refl _ _⟩
  case round =>
    obtain ⟨k, hk, rfl, rfl, rfl, hB⟩ := hrel
    by_cases hlt : k < L.length
    · have hnA := any_snocT hlt fun r => decide (cvC 1 r = (A0, A1, A2))
      have hnB := any_snocT hlt fun r => decide (cvC 1 r = (B0, B1, B2))
      generalize ((L.take k).any fun r => decide (cvC 1 r = (A0, A1, A2))) = la at *
      generalize ((L.take k).any fun r => decide (cvC 1 r = (B0, B1, B2))) = lb at *
      obtain ⟨b, o, xa', xn', xc', rfl, -, x0, rx⟩ := row1 (HLv.out wr hB) hlt
      have hmem := List.getElem_mem hlt
      have hok := HRok.out _ hmem
      have hx3 : L[k].length = 3 := rwOK_len hok
      have hcm' : cvC 1 L[k] ∈ L.map (cvC 1) := List.mem_map_of_mem hmem
      obtain ⟨b9, o9, rfl, -, y0, y1, y2⟩ := val1 rx (k := 1) (by omega)
      have hxn : L[k].length = xn' := (row_lens rx).1
      obtain rfl : 3 = xn' := by omega
      have hcv : L[k][1]'(by omega) = cvC 1 L[k] := by unfold cvC; rw [List.getD_eq_getElem?_getD, List.getElem?_eq_getElem (by omega)]; rfl
      rw [hcv] at y0 y1 y2
      have hgd : ∀ v ∈ L.map (cvC 1), mayV v.1 v.2.1 (nums v.2.2) = true ∧ v.2.2.size ≤ 9223372036854775807 := fun v hv => by
        obtain ⟨r, hr, rfl⟩ := List.mem_map.1 hv
        have h3 : r.length = 3 := rwOK_len (HRok.out r hr)
        have hm : cvC 1 r ∈ r := by unfold cvC; rw [List.getD_eq_getElem?_getD, List.getElem?_eq_getElem (by omega)]; exact List.getElem_mem _
        have hg := rwOK_good (HRok.out r hr) _ hm
        exact ⟨hg.1, by have := hg.2.2; simpa [maxLen] using this⟩
      obtain ⟨hA, hBm, hAl, hBl⟩ := HAB.out
      obtain ⟨V, hV⟩ : ∃ V, cvC 1 L[k] = V := ⟨_, rfl⟩
      rw [hV] at hnA hnB y0 y1 y2 hcm'
      obtain ⟨v0, v1, v2⟩ := V
      have gV := hgd _ hcm'
      have gA := hgd _ hA
      have gB := hgd _ hBm
      have hc1 := hAl _ hcm'
      have hc2 := hBl _ hcm'
      have HC1 : Hid (∀ w', _) := hid fun w' => refCompare_any v0 v1 v2 A0 A1 A2 gV.2 gA.2 w'
      have HC2 : Hid (∀ w', _) := hid fun w' => refCompare_any v0 v1 v2 B0 B1 B2 gV.2 gB.2 w'
      rw [refC_eq gV.1 gA.1] at HC1
      rw [refC_eq gV.1 gB.1] at HC2
      rw [show cmpV v0 v1 (nums v2) A0 A1 (nums A2) = cmpVt (v0, v1, v2) (A0, A1, A2) from rfl] at HC1
      rw [show cmpV v0 v1 (nums v2) B0 B1 (nums B2) = cmpVt (v0, v1, v2) (B0, B1, B2) from rfl] at HC2
      generalize cmpVt (v0, v1, v2) (A0, A1, A2) = r1 at *
      generalize cmpVt (v0, v1, v2) (B0, B1, B2) = r2 at *
      have d1 : decide (r1 < 0) = false := by simpa using hc1
      have d2 : decide (0 < r2) = false := by simpa using hc2
      obtain ⟨eA, heA⟩ : ∃ eA, decide (((v0, v1, v2) : Vt) = (A0, A1, A2)) = eA := ⟨_, rfl⟩
      obtain ⟨eB, heB⟩ : ∃ eB, decide (((v0, v1, v2) : Vt) = (B0, B1, B2)) = eB := ⟨_, rfl⟩
      have fA := fun w' => runV_eqs heA w'
      have fB := fun w' => runV_eqs heB w'
      rw [heA] at hnA
      rw [heB] at hnB
      have HnA : Hid _ := hid hnA
      have HnB : Hid _ := hid hnB
      have hkI : (k : Int) < (L.length : Int) := by omega
      have hwk := wrapS (k := k) (n := L.length) (c := bc) hlt hbc hbm
      obtain ⟨q7, hq7⟩ : ∃ q7, wr.heap.size = q7 := ⟨_, rfl⟩
      have bV := Bk.new wr (.cells #[.int .i64 v0, .int .i64 v1, .string v2] 44)
      rw [hq7] at bV
      have hw7 := bal (Below.refl _ wr) (.cells #[.int .i64 v0, .int .i64 v1, .string v2] 44)
      have hB7 := Below.on hB hw7
      dsimp only at y0 y1 y2
      clear rx hmem hok hx3 hcm' hcv hgd hA hBm hAl hBl hV gV gA gB hc1 hc2 heA heB hnA hnB HRok HAB HAfter HT HLv hxn
      go_upto_region 22 with fail
      (try rw [hq7])
      clear hq7
      generalize wr.alloc (.cells #[.int .i64 v0, .int .i64 v1, .string v2] 44) = W7 at *
      obtain ⟨z0, z1, z2⟩ := (⟨bV.row⟩ : Bv W7 q7 v0 v1 v2).cells
      replace m0 := cell_later hB7 m0
      replace a0 := cell_later hB7 a0
      replace a1 := cell_later hB7 a1
      replace a2 := cell_later hB7 a2
      replace e0 := cell_later hB7 e0
      replace e1 := cell_later hB7 e1
      replace e2 := cell_later hB7 e2
      clear x0 y0 y1 y2 bV
      have hY : Below W7.heap.size W7 W7.drew := (Below.refl _ W7).drew
      refine wp_region_held_drew (S := fun w' => w'.cell? ⟨q7, 0, none⟩ = some (.int .i64 v0) ∧ w'.cell? ⟨q7, 1, none⟩ = some (.int .i64 v1) ∧ w'.cell? ⟨q7, 2, none⟩ = some (.string v2) ∧ w'.cell? ⟨b7, o7, none⟩ = some (.slice (some ⟨b8, o8, none⟩) 2 rc) ∧ w'.cell? ⟨b8, o8, none⟩ = some (.int .i64 A0) ∧ w'.cell? ⟨b8, o8 + 1, none⟩ = some (.int .i64 A1) ∧ w'.cell? ⟨b8, o8 + 2, none⟩ = some (.string A2) ∧ w'.cell? ⟨b8, o8 + 3, none⟩ = some (.int .i64 B0) ∧ w'.cell? ⟨b8, o8 + 3 + 1, none⟩ = some (.int .i64 B1) ∧ w'.cell? ⟨b8, o8 + 3 + 2, none⟩ = some (.string B2)) (by kernel_rfl) (⟨cell_later hY z0, cell_later hY z1, cell_later hY z2, cell_later hY m0, cell_later hY a0, cell_later hY a1, cell_later hY a2, cell_later hY e0, cell_later hY e1, cell_later hY e2⟩) (fun hHeld => ?_)
      generalize W7.drew = y at *
      refine wpAnyH_take (i := 0) (v := ?tv9001) rfl (by kernel_rfl) (by kernel_rfl) (by kernel_rfl) (fun _ _ _ h => h) (Or.inl ⟨by rfl, ?hy9001⟩) (by assumption) ?rs9001
      case hy9001 => (intro w9 hSw; (try dsimp only at hSw); go_simp; (try with_reducible rfl))
      (try simp only [Act.put, List.getElem_toArray, List.getElem_cons_zero, List.getElem_cons_succ, List.setIfInBounds_toArray, List.set_cons_zero, List.set_cons_succ])
      refine wpAnyH_take (i := 1) (v := ?tv9002) rfl (by kernel_rfl) (by kernel_rfl) (by kernel_rfl) (fun _ _ _ h => h) (Or.inl ⟨by rfl, ?hy9002⟩) (by assumption) ?rs9002
      case hy9002 => (intro w9 hSw; (try dsimp only at hSw); go_simp; (try with_reducible rfl))
      (try simp only [Act.put, List.getElem_toArray, List.getElem_cons_zero, List.getElem_cons_succ, List.setIfInBounds_toArray, List.set_cons_zero, List.set_cons_succ])
      refine wpAnyH_take (i := 2) (v := ?tv9003) rfl (by kernel_rfl) (by kernel_rfl) (by kernel_rfl) (fun _ _ _ h => h) (Or.inl ⟨by rfl, ?hy9003⟩) (by assumption) ?rs9003
      case hy9003 => (intro w9 hSw; (try dsimp only at hSw); go_simp; (try with_reducible rfl))
      (try simp only [Act.put, List.getElem_toArray, List.getElem_cons_zero, List.getElem_cons_succ, List.setIfInBounds_toArray, List.set_cons_zero, List.set_cons_succ])
      refine wpAnyH_take (i := 3) (v := ?tv9004) rfl (by kernel_rfl) (by kernel_rfl) (by kernel_rfl) (fun _ _ _ h => h) (Or.inl ⟨by rfl, ?hy9004⟩) (by assumption) ?rs9004
      case hy9004 => (intro w9 hSw; (try dsimp only at hSw); go_simp; (try with_reducible rfl))
      (try simp only [Act.put, List.getElem_toArray, List.getElem_cons_zero, List.getElem_cons_succ, List.setIfInBounds_toArray, List.set_cons_zero, List.set_cons_succ])
      refine wpAnyH_take (i := 4) (v := ?tv9005) rfl (by kernel_rfl) (by kernel_rfl) (by kernel_rfl) (fun _ _ _ h => h) (Or.inl ⟨by rfl, ?hy9005⟩) (by assumption) ?rs9005
      case hy9005 => (intro w9 hSw; (try dsimp only at hSw); go_simp; (try with_reducible rfl))
      (try simp only [Act.put, List.getElem_toArray, List.getElem_cons_zero, List.getElem_cons_succ, List.setIfInBounds_toArray, List.set_cons_zero, List.set_cons_succ])
      refine wpAnyH_take (i := 5) (v := ?tv9006) rfl (by kernel_rfl) (by kernel_rfl) (by kernel_rfl) (fun _ _ _ h => h) (Or.inl ⟨by rfl, ?hy9006⟩) (by assumption) ?rs9006
      case hy9006 => (intro w9 hSw; (try dsimp only at hSw); go_simp; (try with_reducible rfl))
      (try simp only [Act.put, List.getElem_toArray, List.getElem_cons_zero, List.getElem_cons_succ, List.setIfInBounds_toArray, List.set_cons_zero, List.set_cons_succ])
      refine wpAnyH_ready (rs := [6]) (by kernel_rfl) (by simp) ?_
      refine AllReadyH.cons rfl (fun K hK => ?_) AllReadyH.nil
      go_simp
      go_wp2_with (first | (go_at_call 19; (refine Calls.mono (HC1.out _) ?_); rintro e y ⟨rfl, hby⟩; replace hY := Below.on hY hby))
      refine hK.out _ _ (⟨cell_later hY z0, cell_later hY z1, cell_later hY z2, cell_later hY m0, cell_later hY a0, cell_later hY a1, cell_later hY a2, cell_later hY e0, cell_later hY e1, cell_later hY e2⟩) (fun hHeld => ?_)
      clear hK K
      (try simp only [Act.put, List.getElem_toArray, List.getElem_cons_zero, List.getElem_cons_succ, List.setIfInBounds_toArray, List.set_cons_zero, List.set_cons_succ])
      refine wpAnyH_take (i := 7) (v := ?tv9007) rfl (by kernel_rfl) (by kernel_rfl) (by kernel_rfl) (fun _ _ _ h => h) (Or.inl ⟨by rfl, ?hy9007⟩) (by assumption) ?rs9007
      case hy9007 => (intro w9 hSw; (try dsimp only at hSw); go_simp; (try with_reducible rfl))
      (try simp only [Act.put, List.getElem_toArray, List.getElem_cons_zero, List.getElem_cons_succ, List.setIfInBounds_toArray, List.set_cons_zero, List.set_cons_succ])
      refine wpAnyH_take (i := 8) (v := ?tv9008) rfl (by kernel_rfl) (by kernel_rfl) (by kernel_rfl) (fun _ _ _ h => h) (Or.inl ⟨by rfl, ?hy9008⟩) (by assumption) ?rs9008
      case hy9008 => (intro w9 hSw; (try dsimp only at hSw); go_simp; (try with_reducible rfl))
      (try simp only [Act.put, List.getElem_toArray, List.getElem_cons_zero, List.getElem_cons_succ, List.setIfInBounds_toArray, List.set_cons_zero, List.set_cons_succ])
      refine wpAnyH_take (i := 9) (v := ?tv9009) rfl (by kernel_rfl) (by kernel_rfl) (by kernel_rfl) (fun _ _ _ h => h) (Or.inl ⟨by rfl, ?hy9009⟩) (by assumption) ?rs9009
      case hy9009 => (intro w9 hSw; (try dsimp only at hSw); go_simp; (try with_reducible rfl))
      (try simp only [Act.put, List.getElem_toArray, List.getElem_cons_zero, List.getElem_cons_succ, List.setIfInBounds_toArray, List.set_cons_zero, List.set_cons_succ])
      refine wpAnyH_take (i := 10) (v := ?tv9010) rfl (by kernel_rfl) (by kernel_rfl) (by kernel_rfl) (fun _ _ _ h => h) (Or.inl ⟨by rfl, ?hy9010⟩) (by assumption) ?rs9010
      case hy9010 => (intro w9 hSw; (try dsimp only at hSw); go_simp; (try with_reducible rfl))
      (try simp only [Act.put, List.getElem_toArray, List.getElem_cons_zero, List.getElem_cons_succ, List.setIfInBounds_toArray, List.set_cons_zero, List.set_cons_succ])
      refine wpAnyH_take (i := 11) (v := ?tv9011) rfl (by kernel_rfl) (by kernel_rfl) (by kernel_rfl) (fun _ _ _ h => h) (Or.inl ⟨by rfl, ?hy9011⟩) (by assumption) ?rs9011
      case hy9011 => (intro w9 hSw; (try dsimp only at hSw); go_simp; (try with_reducible rfl))
      (try simp only [Act.put, List.getElem_toArray, List.getElem_cons_zero, List.getElem_cons_succ, List.setIfInBounds_toArray, List.set_cons_zero, List.set_cons_succ])
      refine wpAnyH_take (i := 12) (v := ?tv9012) rfl (by kernel_rfl) (by kernel_rfl) (by kernel_rfl) (fun _ _ _ h => h) (Or.inl ⟨by rfl, ?hy9012⟩) (by assumption) ?rs9012
      case hy9012 => (intro w9 hSw; (try dsimp only at hSw); go_simp; (try with_reducible rfl))
      (try simp only [Act.put, List.getElem_toArray, List.getElem_cons_zero, List.getElem_cons_succ, List.setIfInBounds_toArray, List.set_cons_zero, List.set_cons_succ])
      refine wpAnyH_take (i := 13) (v := ?tv9013) rfl (by kernel_rfl) (by kernel_rfl) (by kernel_rfl) (fun _ _ _ h => h) (Or.inl ⟨by rfl, ?hy9013⟩) (by assumption) ?rs9013
      case hy9013 => (intro w9 hSw; (try dsimp only at hSw); go_simp; (try with_reducible rfl))
      (try simp only [Act.put, List.getElem_toArray, List.getElem_cons_zero, List.getElem_cons_succ, List.setIfInBounds_toArray, List.set_cons_zero, List.set_cons_succ])
      refine wpAnyH_take (i := 14) (v := ?tv9014) rfl (by kernel_rfl) (by kernel_rfl) (by kernel_rfl) (fun _ _ _ h => h) (Or.inl ⟨by rfl, ?hy9014⟩) (by assumption) ?rs9014
      case hy9014 => (intro w9 hSw; (try dsimp only at hSw); go_simp; (try with_reducible rfl))
      (try simp only [Act.put, List.getElem_toArray, List.getElem_cons_zero, List.getElem_cons_succ, List.setIfInBounds_toArray, List.set_cons_zero, List.set_cons_succ])
      refine wpAnyH_ready (rs := [15]) (by kernel_rfl) (by simp) ?_
      refine AllReadyH.cons rfl (fun K hK => ?_) AllReadyH.nil
      go_simp
      go_wp2_with (first | (go_at_call 19; (refine Calls.mono (HC2.out _) ?_); rintro e y ⟨rfl, hby⟩; replace hY := Below.on hY hby))
      refine hK.out _ _ (⟨cell_later hY z0, cell_later hY z1, cell_later hY z2, cell_later hY m0, cell_later hY a0, cell_later hY a1, cell_later hY a2, cell_later hY e0, cell_later hY e1, cell_later hY e2⟩) (fun hHeld => ?_)
      clear hK K
      (try simp only [Act.put, List.getElem_toArray, List.getElem_cons_zero, List.getElem_cons_succ, List.setIfInBounds_toArray, List.set_cons_zero, List.set_cons_succ])
      refine wpAnyH_take (i := 16) (v := ?tv9015) rfl (by kernel_rfl) (by kernel_rfl) (by kernel_rfl) (fun _ _ _ h => h) (Or.inl ⟨by rfl, ?hy9015⟩) (by assumption) ?rs9015
      case hy9015 => (intro w9 hSw; (try dsimp only at hSw); go_simp; (try with_reducible rfl))
      (try simp only [Act.put, List.getElem_toArray, List.getElem_cons_zero, List.getElem_cons_succ, List.setIfInBounds_toArray, List.set_cons_zero, List.set_cons_succ])
      refine wpAnyH_take (i := 17) (v := ?tv9016) rfl (by kernel_rfl) (by kernel_rfl) (by kernel_rfl) (fun _ _ _ h => h) (Or.inl ⟨by rfl, ?hy9016⟩) (by assumption) ?rs9016
      case hy9016 => (intro w9 hSw; (try dsimp only at hSw); go_simp; (try with_reducible rfl))
      (try simp only [Act.put, List.getElem_toArray, List.getElem_cons_zero, List.getElem_cons_succ, List.setIfInBounds_toArray, List.set_cons_zero, List.set_cons_succ])
      refine wpAnyH_done (by kernel_rfl) ?_ _
      clear hHeld
      replace hB7 := Below.on hB7 hY
      replace z0 := cell_later hY z0
      replace z1 := cell_later hY z1
      replace z2 := cell_later hY z2
      replace m0 := cell_later hY m0
      replace a0 := cell_later hY a0
      replace a1 := cell_later hY a1
      replace a2 := cell_later hY a2
      replace e0 := cell_later hY e0
      replace e1 := cell_later hY e1
      replace e2 := cell_later hY e2
      clear hY HC1 HC2 hw7
      cases la <;> cases lb
      · have HnA2 : Hid (((L.take (k + 1)).any fun r => decide (cvC 1 r = (A0, A1, A2))) = eA) := hid (by rw [HnA.out]; simp)
        have HnB2 : Hid (((L.take (k + 1)).any fun r => decide (cvC 1 r = (B0, B1, B2))) = eB) := hid (by rw [HnB.out]; simp)
        clear HnA HnB
        go_upto_region 24 with fail
        go_quiet (fail)
        go_wp2
        go_roundw
        case rel => exact ⟨k + 1, hlt, by go_num, by rw [HnA2.out], by rw [HnB2.out], ⟨hB7.os, hB7.tape, hB7.output, hB7.size, hB7.block⟩⟩
        case measure => simp only [intOf]; omega
      · have HnA2 : Hid (((L.take (k + 1)).any fun r => decide (cvC 1 r = (A0, A1, A2))) = eA) := hid (by rw [HnA.out]; simp)
        have HnB2 : Hid (((L.take (k + 1)).any fun r => decide (cvC 1 r = (B0, B1, B2))) = true) := hid (by rw [HnB.out]; simp)
        clear HnA HnB
        go_upto_region 24 with fail
        go_quiet (fail)
        go_wp2
        go_roundw
        case rel => exact ⟨k + 1, hlt, by go_num, by rw [HnA2.out], by rw [HnB2.out], ⟨hB7.os, hB7.tape, hB7.output, hB7.size, hB7.block⟩⟩
        case measure => simp only [intOf]; omega
      · have HnA2 : Hid (((L.take (k + 1)).any fun r => decide (cvC 1 r = (A0, A1, A2))) = true) := hid (by rw [HnA.out]; simp)
        have HnB2 : Hid (((L.take (k + 1)).any fun r => decide (cvC 1 r = (B0, B1, B2))) = eB) := hid (by rw [HnB.out]; simp)
        clear HnA HnB
        go_upto_region 24 with fail
        go_quiet (fail)
        go_wp2
        go_roundw
        case rel => exact ⟨k + 1, hlt, by go_num, by rw [HnA2.out], by rw [HnB2.out], ⟨hB7.os, hB7.tape, hB7.output, hB7.size, hB7.block⟩⟩
        case measure => simp only [intOf]; omega
      · have HnA2 : Hid (((L.take (k + 1)).any fun r => decide (cvC 1 r = (A0, A1, A2))) = true) := hid (by rw [HnA.out]; simp)
        have HnB2 : Hid (((L.take (k + 1)).any fun r => decide (cvC 1 r = (B0, B1, B2))) = true) := hid (by rw [HnB.out]; simp)
        clear HnA HnB
        go_upto_region 24 with fail
        go_quiet (fail)
        go_wp2
        go_roundw
        case rel => exact ⟨k + 1, hlt, by go_num, by rw [HnA2.out], by rw [HnB2.out], ⟨hB7.os, hB7.tape, hB7.output, hB7.size, hB7.block⟩⟩
        case measure => simp only [intOf]; omega
    · obtain rfl : k = L.length := by omega
      obtain ⟨hA, hBm, -, -⟩ := HAB.out
      have hnA : ((L.take L.length).any fun r => decide (cvC 1 r = (A0, A1, A2))) = true := by
        rw [List.take_length, List.any_eq_true]
        obtain ⟨r, hr, he⟩ := List.mem_map.1 hA
        exact ⟨r, hr, by simpa using he⟩
      have hnB : ((L.take L.length).any fun r => decide (cvC 1 r = (B0, B1, B2))) = true := by
        rw [List.take_length, List.any_eq_true]
        obtain ⟨r, hr, he⟩ := List.mem_map.1 hBm
        exact ⟨r, hr, by simpa using he⟩
      rw [hnA, hnB]
      have hBw := Below.on HB6.out hB
      have hkI : ¬ (L.length : Int) < (L.length : Int) := by omega
      clear hA hBm hnA hnB HAB HLv m0 a0 a1 a2 e0 e1 e2
      clear HAfter HT HRok HLen HB6
      go_wp2
      go_ret
      exact ⟨rfl, hBw⟩

end Go.Proofs.YtnlaaejdianfjaaGreat
