import Derived.Test.YtnlaaejdianfjabGreatQpaq
import Derived.Test.YtnlaaejdianfjabGreatQpam
namespace Go.Proofs.YtnlaaejdianfjabGreat
open Go.RowKit
set_option linter.unusedVariables false
set_option linter.unusedSimpArgs false

theorem wpAnyH_strN {P : Program} {md : Region.Mode} {ops : Array Oper} {Q : Exit → Act → World → Prop} {S S' : World → Prop} (h : ∀ w, S' w → S w) : ∀ (fuel : Nat) (listed : Array Bool) (a : Act) (w : World), wpAnyH P md ops Q S' fuel listed a w → wpAnyH P md ops Q S fuel listed a w
  | 0, _, _, _, k => k
  | fuel + 1, _, _, _, k => ⟨k.1, fun i hi => wpOp_mono (fun _ _ y => ⟨h _ y.1, wpAnyH_strN h fuel _ _ _ y.2⟩) (k.2 i hi)⟩
theorem mayV_sizeN {v : Vt} (h : mayV v.1 v.2.1 (nums v.2.2) = true) : v.2.2.size ≤ 281474976710656 := by
  have hl := nums_len v.2.2
  rcases mayV_one h with ⟨h1, h2⟩ | ⟨h1, h2, h3, -⟩
  · rw [h2] at hl
    simp at hl
    omega
  · omega
theorem rwG {C : List Co} {r : List Vt} (h : RwOK C r) (v : Vt) (hv : v ∈ r) : Fits v.2.1 ∧ v.2.2.size ≤ 281474976710656 := by
  have hg := rwOK_good h v hv
  exact ⟨hg.2.1, mayV_sizeN hg.1⟩
theorem bk_one {w : World} {b : Nat} {v : Value} {t : TypeId} {mk : Nat × Nat} (h : Bk w b (.cells #[v] t mk)) : ∀ j (hj : j < [v].length), w.cell? ⟨b, j, none⟩ = some [v][j] := fun j hj => by
  obtain rfl : j = 0 := by simpa using hj
  exact h.cell 0
/-- A column of a table, as an expression. -/
def xCl (tb nm : ByteArray) : Pg × Tg := ((2, (0, 0, ⟨#[]⟩, tb, nm)), .nil)
theorem pr01 : naP (scP [tbT, tbU]) (xCl ⟨#[116]⟩ ⟨#[107]⟩) = (((0 : Nat) : Int), 0) ∧ naP (scP [tbT, tbU]) (xCl ⟨#[117]⟩ ⟨#[114]⟩) = (((3 + 1 : Nat) : Int), 0) := ⟨by decide +kernel, by decide +kernel⟩
theorem pr22 : naP (scP [tbT, tbU]) (xCl ⟨#[116]⟩ ⟨#[110]⟩) = (((2 : Nat) : Int), 0) ∧ naP (scP [tbT, tbU]) (xCl ⟨#[117]⟩ ⟨#[110]⟩) = (((3 + 2 : Nat) : Int), 0) := ⟨by decide +kernel, by decide +kernel⟩
theorem pr10 : naP (scP [tbT, tbU]) (xCl ⟨#[116]⟩ ⟨#[118]⟩) = (((1 : Nat) : Int), 0) ∧ naP (scP [tbT, tbU]) (xCl ⟨#[117]⟩ ⟨#[107]⟩) = (((3 + 0 : Nat) : Int), 0) := ⟨by decide +kernel, by decide +kernel⟩
theorem pr02 : naP (scP [tbT, tbU]) (xCl ⟨#[116]⟩ ⟨#[107]⟩) = (((0 : Nat) : Int), 0) ∧ naP (scP [tbT, tbU]) (xCl ⟨#[117]⟩ ⟨#[110]⟩) = (((3 + 2 : Nat) : Int), 0) := ⟨by decide +kernel, by decide +kernel⟩
theorem ak_eq {l r : List Vt} (hl : l.length = 3) (hr : r.length = 3) {ma mb : Nat} (ha : ma < 3) (hb : mb < 3) : akP l r ma (3 + mb) = decide (l[ma]'(by omega) = r[mb]'(by omega)) := by
  have e1 : ptP l r ma = (l[ma]'(by omega), true) := by
    unfold ptP
    rw [List.getElem?_append_left (by omega), List.getElem?_eq_getElem (by omega)]
  have e2 : ptP l r (3 + mb) = (r[mb]'(by omega), true) := by
    unfold ptP
    rw [List.getElem?_append_right (by omega), show 3 + mb - l.length = mb by omega, List.getElem?_eq_getElem (by omega)]
  unfold akP
  rw [e1, e2]
  simp only [Bool.true_and]
  have : (cmpVt (l[ma]'(by omega)) (r[mb]'(by omega)) = 0) ↔ (l[ma]'(by omega) = r[mb]'(by omega)) := by
    unfold cmpVt
    rw [cmpV_zero]
    constructor
    · intro ⟨h1, h2, h3⟩
      exact Prod.ext h1 (Prod.ext h2 (nums_inj h3))
    · intro h
      rw [h]; exact ⟨rfl, rfl, rfl⟩
  exact decide_eq_decide.2 this
theorem runV_eqN2 {k i : Int} {s : ByteArray} {k' i' : Int} {s' : ByteArray} {b : Bool} (hb : decide (((k, i, s) : Vt) = (k', i', s')) = b) (w : World) :
    (binOp .eql 39 (.agg #[.int .i64 k, .int .i64 i, .string s]) (.agg #[.int .i64 k', .int .i64 i', .string s'])).run Tryz.prog w = .ok (.bool b) w := by
  subst hb
  by_cases h1 : k = k'
  · by_cases h2 : i = i'
    · by_cases h5 : s = s'
      · subst h1 h2 h5
        simp only [decide_true]
        go_simp
      · have h3 : (s.toList == s'.toList) = false := by
          rw [same_nums, decide_eq_false_iff_not]
          intro e
          exact h5 (nums_inj (lexI_zero e))
        have h6 : decide (((k, i, s) : Vt) = (k', i', s')) = false := by simp [h5]
        rw [h6]
        subst h1 h2
        go_simp
    · have h3 : (i == i') = false := by simpa using h2
      have h4 : decide (i = i') = false := by simpa using h2
      have h6 : decide (((k, i, s) : Vt) = (k', i', s')) = false := by simp [h2]
      rw [h6]
      subst h1
      go_simp
  · have h3 : (k == k') = false := by simpa using h1
    have h4 : decide (k = k') = false := by simpa using h1
    have h6 : decide (((k, i, s) : Vt) = (k', i', s')) = false := by simp [h1]
    rw [h6]
    go_simp
theorem ex2_row {w : World} {b : Nat} {na nb : ByteArray} (h : Bk w b (.cells #[.int .i64 2, .int .i64 0, .int .i64 0, .string ⟨#[]⟩, .string ⟨#[116]⟩, .string na, .slice none 0 0, .int .i64 2, .int .i64 0, .int .i64 0, .string ⟨#[]⟩, .string ⟨#[117]⟩, .string nb, .slice none 0 0] 42)) : RowIs eG (fun _ => True) w (.slice (some ⟨b, 0, none⟩) 2 2) [xCl ⟨#[116]⟩ na, xCl ⟨#[117]⟩ nb] :=
  ⟨_, 2, 2, rfl, rfl, Nat.le_refl _, by decide, fun _ => ⟨b, 0, rfl, trivial, fun i hi => by
    match i, hi with
    | 0, _ => exact ⟨[.int .i64 2, .int .i64 0, .int .i64 0, .string ⟨#[]⟩, .string ⟨#[116]⟩, .string na, .slice none 0 0], ⟨none, 0, 0, rfl, rfl, Nat.le_refl _, by decide, fun h => absurd h (by omega)⟩, rfl, fun j hj => by
        have hj3 : j < 7 := hj
        match j, hj3 with
        | 0, _ => exact h.cell 0
        | 1, _ => exact h.cell 1
        | 2, _ => exact h.cell 2
        | 3, _ => exact h.cell 3
        | 4, _ => exact h.cell 4
        | 5, _ => exact h.cell 5
        | 6, _ => exact h.cell 6⟩
    | 1, _ => exact ⟨[.int .i64 2, .int .i64 0, .int .i64 0, .string ⟨#[]⟩, .string ⟨#[117]⟩, .string nb, .slice none 0 0], ⟨none, 0, 0, rfl, rfl, Nat.le_refl _, by decide, fun h => absurd h (by omega)⟩, rfl, fun j hj => by
        have hj3 : j < 7 := hj
        match j, hj3 with
        | 0, _ => exact h.cell 7
        | 1, _ => exact h.cell 8
        | 2, _ => exact h.cell 9
        | 3, _ => exact h.cell 10
        | 4, _ => exact h.cell 11
        | 5, _ => exact h.cell 12
        | 6, _ => exact h.cell 13⟩⟩⟩
theorem Bk.st13 {y : World} {q : Nat} {a0 a1 a2 a3 a4 a5 a6 a7 a8 a9 a10 a11 a12 : Value} {t : TypeId} (h : Bk y q (.cells #[a0, a1, a2, a3, a4, a5, a6, a7, a8, a9, a10, a11, a12] t (0, 0))) (b0 b1 b2 b3 b4 b5 b6 b7 b8 b9 b10 b11 b12 : Value) : Bk (stW y q [b0, b1, b2, b3, b4, b5, b6, b7, b8, b9, b10, b11, b12]) q (.cells #[b0, b1, b2, b3, b4, b5, b6, b7, b8, b9, b10, b11, b12] t (0, 0)) := ⟨by
  show (((((((((((((y.setCell ⟨q, 0, none⟩ b0).setCell ⟨q, 0 + 1, none⟩ b1).setCell ⟨q, 0 + 1 + 1, none⟩ b2).setCell ⟨q, 0 + 1 + 1 + 1, none⟩ b3).setCell ⟨q, 0 + 1 + 1 + 1 + 1, none⟩ b4).setCell ⟨q, 0 + 1 + 1 + 1 + 1 + 1, none⟩ b5).setCell ⟨q, 0 + 1 + 1 + 1 + 1 + 1 + 1, none⟩ b6).setCell ⟨q, 0 + 1 + 1 + 1 + 1 + 1 + 1 + 1, none⟩ b7).setCell ⟨q, 0 + 1 + 1 + 1 + 1 + 1 + 1 + 1 + 1, none⟩ b8).setCell ⟨q, 0 + 1 + 1 + 1 + 1 + 1 + 1 + 1 + 1 + 1, none⟩ b9).setCell ⟨q, 0 + 1 + 1 + 1 + 1 + 1 + 1 + 1 + 1 + 1 + 1, none⟩ b10).setCell ⟨q, 0 + 1 + 1 + 1 + 1 + 1 + 1 + 1 + 1 + 1 + 1 + 1, none⟩ b11).setCell ⟨q, 0 + 1 + 1 + 1 + 1 + 1 + 1 + 1 + 1 + 1 + 1 + 1 + 1, none⟩ b12).heap[q]? = _
  simp [World.setCell, Array.getElem?_modify, h.row]⟩
theorem schemaBoth {w : World} {b : Nat} (hT : IsT w tbs (some ⟨b, 0, none⟩) 2 2) : ∃ ca cc xa xn xc ua uc ya yn yc, w.cell? ⟨b, 0, none⟩ = some (.string ⟨#[116]⟩) ∧ w.cell? ⟨b, 1, none⟩ = some (.slice ca 3 cc) ∧ w.cell? ⟨b, 2, none⟩ = some (.slice xa xn xc) ∧ w.cell? ⟨b, 3, none⟩ = some (.string ⟨#[117]⟩) ∧ w.cell? ⟨b, 4, none⟩ = some (.slice ua 3 uc) ∧ w.cell? ⟨b, 5, none⟩ = some (.slice ya yn yc) ∧
    RowIs eCol (fun _ => True) w (.slice ca 3 cc) tbT.cols ∧ RowIs eStr (fun _ => True) w (.slice xa xn xc) tbT.index ∧ RowIs eCol (fun _ => True) w (.slice ua 3 uc) tbU.cols ∧ RowIs eStr (fun _ => True) w (.slice ya yn yc) tbU.index := by
  have hrow := hT.row
  obtain ⟨_, _, _, e', -, -, -, hx⟩ := hrow
  cases e'
  obtain ⟨_, _, e', -, hi⟩ := hx (by decide)
  cases e'
  obtain ⟨cs, hE, -, hcc⟩ := hi 0 (by simp)
  obtain ⟨ca, cn, cc, xa, xn, xc, rfl, hcol, hix⟩ := hE
  obtain ⟨cs2, hE2, -, hcc2⟩ := hi 1 (by simp)
  obtain ⟨ua, un, uc, ya, yn, yc, rfl, hcol2, hix2⟩ := hE2
  obtain rfl : 3 = cn := (row_lens hcol).1
  obtain rfl : 3 = un := (row_lens hcol2).1
  refine ⟨ca, cc, xa, xn, xc, ua, uc, ya, yn, yc, ?_, ?_, ?_, ?_, ?_, ?_, hcol.mono (by decide) fun _ _ _ => trivial, hix.mono (by decide) fun _ _ _ => trivial, hcol2.mono (by decide) fun _ _ _ => trivial, hix2.mono (by decide) fun _ _ _ => trivial⟩
  · have := hcc 0 (show 0 < 3 by decide); simpa [eTbl] using this
  · have := hcc 1 (show 1 < 3 by decide); simpa [eTbl] using this
  · have := hcc 2 (show 2 < 3 by decide); simpa [eTbl] using this
  · have := hcc2 0 (show 0 < 3 by decide); simpa [eTbl] using this
  · have := hcc2 1 (show 1 < 3 by decide); simpa [eTbl] using this
  · have := hcc2 2 (show 2 < 3 by decide); simpa [eTbl] using this
set_option maxRecDepth 100000 in
set_option maxHeartbeats 16000000 in
theorem relPairs_any {a : Option Addr} {len cap : Nat} {a1 : Option Addr} {len1 cap1 : Nat} {zs zs1 : List Nat} (w : World) (hz : zs.length = len) (hlc : len ≤ cap) (hcm : cap ≤ 9223372036854775807) (hnx : NumX w a zs) (hz1 : zs1.length = len1) (hlc1 : len1 ≤ cap1) (hcm1 : cap1 ≤ 9223372036854775807) (hnx1 : NumX w a1 zs1) (on : Nat) (hon : on ≤ 255) : Calls Tryz.prog 3 #[.slice a len cap, .slice a1 len1 cap1, .int .u8 (on : Int)] w fun e w' => e = .returned (.bool true) ∧ Below w.heap.size w w' := by
  have H0 : Hid _ := hid (begun12_any w)
  have HS : Hid (∀ w1, _) := hid fun w1 => schemaT_any w1
  have HNu : Hid (∀ w1 : World, Below w.heap.size w w1 → NumX w1 a zs) := hid fun w1 hb => hnx.later hb
  have HNu1 : Hid (∀ w1 : World, Below w.heap.size w w1 → NumX w1 a1 zs1) := hid fun w1 hb => hnx1.later hb
  clear hnx hnx1
  go_enter Tryz.func3, Tryz.ntmps3
  go_wp2_with fail
  refine Calls.mono H0.out ?_
  rintro e U ⟨rfl, hw⟩
  clear H0
  by_cases hl : 50 < len
  · have hl1 : (50 : Int) < (len : Int) := by omega
    have hl2 : decide ((50 : Int) < (len : Int)) = true := by simpa using hl1
    go_wp2
    go_ret
    exact ⟨rfl, hw⟩
  have hl1 : ¬ (50 : Int) < (len : Int) := by omega
  have hl2 : decide ((50 : Int) < (len : Int)) = false := by simpa using hl1
  by_cases hm : 50 < len1
  · have hm1 : (50 : Int) < (len1 : Int) := by omega
    have hm2 : decide ((50 : Int) < (len1 : Int)) = true := by simpa using hm1
    go_wp2
    go_ret
    exact ⟨rfl, hw⟩
  have hm1 : ¬ (50 : Int) < (len1 : Int) := by omega
  have hm2 : decide ((50 : Int) < (len1 : Int)) = false := by simpa using hm1
  go_wp2_with fail
  refine Calls.mono (HS.out _) ?_
  rintro e U1 ⟨tbk, rfl, hT, hbk, hb1⟩
  replace hw := Below.on hw hb1
  obtain ⟨ca, cc, xa, xn, xc, ua, uc, ya, yn, yc, c0, c1, c2, c3, c4, c5, hcol, hix, hcol2, hix2⟩ := schemaBoth hT
  have HTb : Hid (∀ w', Below U1.heap.size U1 w' → RowIs eCol (fun _ => True) w' (.slice ca 3 cc) tbT.cols ∧ RowIs eStr (fun _ => True) w' (.slice xa xn xc) tbT.index ∧ RowIs eCol (fun _ => True) w' (.slice ua 3 uc) tbU.cols ∧ RowIs eStr (fun _ => True) w' (.slice ya yn yc) tbU.index) := hid fun w' hb => ⟨hcol.keep (by decide) fun b _ hl => hb.block b hl, hix.keep (by decide) fun b _ hl => hb.block b hl, hcol2.keep (by decide) fun b _ hl => hb.block b hl, hix2.keep (by decide) fun b _ hl => hb.block b hl⟩
  have hb2 := bal (Below.refl _ U1) (.cells #[.slice (some ⟨tbk, 0, none⟩) 2 2, .slice none 0 0] 27)
  have bS := Bk.new U1 (.cells #[.slice (some ⟨tbk, 0, none⟩) 2 2, .slice none 0 0] 27)
  clear hT hbk HS hcol hix hcol2 hix2 hb1
  go_upto_region 6 with fail
  generalize U1.alloc (.cells #[.slice (some ⟨tbk, 0, none⟩) 2 2, .slice none 0 0] 27) = U2 at *
  obtain ⟨qs, hqs⟩ : ∃ qs, U1.heap.size = qs := ⟨_, rfl⟩
  rw [hqs] at bS
  (try rw [hqs])
  clear hqs
  obtain ⟨s0, s1⟩ : U2.cell? ⟨qs, 0, none⟩ = some (.slice (some ⟨tbk, 0, none⟩) 2 2) ∧ U2.cell? ⟨qs, 1, none⟩ = some (.slice none 0 0) := ⟨bS.cell 0, bS.cell 1⟩
  replace c0 := cell_later hb2 c0
  replace c1 := cell_later hb2 c1
  replace c2 := cell_later hb2 c2
  replace c3 := cell_later hb2 c3
  replace c4 := cell_later hb2 c4
  replace c5 := cell_later hb2 c5
  replace hw := Below.on hw hb2
  replace HTb : Hid (∀ w', Below U2.heap.size U2 w' → RowIs eCol (fun _ => True) w' (.slice ca 3 cc) tbT.cols ∧ RowIs eStr (fun _ => True) w' (.slice xa xn xc) tbT.index ∧ RowIs eCol (fun _ => True) w' (.slice ua 3 uc) tbU.cols ∧ RowIs eStr (fun _ => True) w' (.slice ya yn yc) tbU.index) := hid fun w' hb => HTb.out w' (Below.on hb2 hb)
  clear bS hb2 s1
  have hts : tbk < U2.heap.size := World.block_lt_of_cell? _ _ c0
  have hqq : qs < U2.heap.size := World.block_lt_of_cell? _ _ s0
  go_cut [8, 9] (fun v8 v9 w' => ∃ q8 q9, v8 = .pointer (some ⟨q8, 0, none⟩) ∧ v9 = .pointer (some ⟨q9, 0, none⟩) ∧ Bk w' q8 (.cells #[.string ⟨#[116]⟩, .slice ca 3 cc, .slice xa xn xc] 32) ∧ Bk w' q9 (.cells #[.string ⟨#[117]⟩, .slice ua 3 uc, .slice ya yn yc] 32) ∧ Below U2.heap.size U2 w')
  case first =>
    clear HTb HNu HNu1
    have hY : Below U2.heap.size U2 U2.drew := (Below.refl _ U2).drew
    refine wp_region_held_drew (S := fun w' => w'.cell? ⟨qs, 0, none⟩ = some (.slice (some ⟨tbk, 0, none⟩) 2 2) ∧ w'.cell? ⟨tbk, 0, none⟩ = some (.string ⟨#[116]⟩) ∧ w'.cell? ⟨tbk, 1, none⟩ = some (.slice ca 3 cc) ∧ w'.cell? ⟨tbk, 2, none⟩ = some (.slice xa xn xc) ∧ w'.cell? ⟨tbk, 3, none⟩ = some (.string ⟨#[117]⟩) ∧ w'.cell? ⟨tbk, 4, none⟩ = some (.slice ua 3 uc) ∧ w'.cell? ⟨tbk, 5, none⟩ = some (.slice ya yn yc)) (by kernel_rfl) (⟨cell_later hY s0, cell_later hY c0, cell_later hY c1, cell_later hY c2, cell_later hY c3, cell_later hY c4, cell_later hY c5⟩) (fun hHeld => ?_)
    generalize U2.drew = y at *
    refine wpAnyH_take (i := 0) (v := ?tv14097) rfl (by kernel_rfl) (by kernel_rfl) (by kernel_rfl) (fun _ _ _ h => h) (Or.inl ⟨by rfl, ?hy14097⟩) (by assumption) ?rs14097
    case hy14097 => (intro w9 hSw; (try dsimp only at hSw); go_simp; (try with_reducible rfl))
    (try simp only [Act.put, List.getElem_toArray, List.getElem_cons_zero, List.getElem_cons_succ, List.setIfInBounds_toArray, List.set_cons_zero, List.set_cons_succ])
    refine wpAnyH_take (i := 1) (v := ?tv14098) rfl (by kernel_rfl) (by kernel_rfl) (by kernel_rfl) (fun _ _ _ h => h) (Or.inl ⟨by rfl, ?hy14098⟩) (by assumption) ?rs14098
    case hy14098 => (intro w9 hSw; (try dsimp only at hSw); go_simp; (try with_reducible rfl))
    (try simp only [Act.put, List.getElem_toArray, List.getElem_cons_zero, List.getElem_cons_succ, List.setIfInBounds_toArray, List.set_cons_zero, List.set_cons_succ])
    refine wpAnyH_take (i := 2) (v := ?tv14099) rfl (by kernel_rfl) (by kernel_rfl) (by kernel_rfl) (fun _ _ _ h => h) (Or.inl ⟨by rfl, ?hy14099⟩) (by assumption) ?rs14099
    case hy14099 => (intro w9 hSw; (try dsimp only at hSw); go_simp; (try with_reducible rfl))
    (try simp only [Act.put, List.getElem_toArray, List.getElem_cons_zero, List.getElem_cons_succ, List.setIfInBounds_toArray, List.set_cons_zero, List.set_cons_succ])
    refine wpAnyH_take (i := 3) (v := ?tv14100) rfl (by kernel_rfl) (by kernel_rfl) (by kernel_rfl) (fun _ _ _ h => h) (Or.inl ⟨by rfl, ?hy14100⟩) (by assumption) ?rs14100
    case hy14100 => (intro w9 hSw; (try dsimp only at hSw); go_simp; (try with_reducible rfl))
    (try simp only [Act.put, List.getElem_toArray, List.getElem_cons_zero, List.getElem_cons_succ, List.setIfInBounds_toArray, List.set_cons_zero, List.set_cons_succ])
    refine wpAnyH_take (i := 4) (v := ?tv14101) rfl (by kernel_rfl) (by kernel_rfl) (by kernel_rfl) (fun _ _ _ h => h) (Or.inl ⟨by rfl, ?hy14101⟩) (by assumption) ?rs14101
    case hy14101 => (intro w9 hSw; (try dsimp only at hSw); go_simp; (try with_reducible rfl))
    (try simp only [Act.put, List.getElem_toArray, List.getElem_cons_zero, List.getElem_cons_succ, List.setIfInBounds_toArray, List.set_cons_zero, List.set_cons_succ])
    refine wpAnyH_take (i := 5) (v := ?tv14102) rfl (by kernel_rfl) (by kernel_rfl) (by kernel_rfl) (fun _ _ _ h => h) (Or.inl ⟨by rfl, ?hy14102⟩) (by assumption) ?rs14102
    case hy14102 => (intro w9 hSw; (try dsimp only at hSw); go_simp; (try with_reducible rfl))
    (try simp only [Act.put, List.getElem_toArray, List.getElem_cons_zero, List.getElem_cons_succ, List.setIfInBounds_toArray, List.set_cons_zero, List.set_cons_succ])
    refine wpAnyH_take (i := 6) (v := ?tv14103) rfl (by kernel_rfl) (by kernel_rfl) (by kernel_rfl) (fun _ _ _ h => h) (Or.inl ⟨by rfl, ?hy14103⟩) (by assumption) ?rs14103
    case hy14103 => (intro w9 hSw; (try dsimp only at hSw); go_simp; (try with_reducible rfl))
    (try simp only [Act.put, List.getElem_toArray, List.getElem_cons_zero, List.getElem_cons_succ, List.setIfInBounds_toArray, List.set_cons_zero, List.set_cons_succ])
    refine wpAnyH_take (i := 7) (v := ?tv14104) rfl (by kernel_rfl) (by kernel_rfl) (by kernel_rfl) (fun _ _ _ h => h) (Or.inl ⟨by rfl, ?hy14104⟩) (by assumption) ?rs14104
    case hy14104 => (intro w9 hSw; (try dsimp only at hSw); go_simp; (try with_reducible rfl))
    (try simp only [Act.put, List.getElem_toArray, List.getElem_cons_zero, List.getElem_cons_succ, List.setIfInBounds_toArray, List.set_cons_zero, List.set_cons_succ])
    refine wpAnyH_ready (rs := [8, 9]) (by kernel_rfl) (by simp) ?_
    refine AllReadyH.cons rfl (fun K hK => ?_) (AllReadyH.cons rfl (fun K hK => ?_) AllReadyH.nil)
    · go_simp
      have b_q8 := Bk.new y (.cells #[.string ⟨#[]⟩, .slice none 0 0, .slice none 0 0] 32)
      obtain ⟨q8, h_q8⟩ : ∃ z, y.heap.size = z := ⟨_, rfl⟩
      have l_q8 : U2.heap.size ≤ q8 := by rw [← h_q8]; exact hY.size
      replace hY := bal hY (.cells #[.string ⟨#[]⟩, .slice none 0 0, .slice none 0 0] 32)
      refine hK.out _ _ (⟨cell_later hY s0, cell_later hY c0, cell_later hY c1, cell_later hY c2, cell_later hY c3, cell_later hY c4, cell_later hY c5⟩) (fun hHeld => ?_)
      clear hK K
      (try simp only [Act.put, List.getElem_toArray, List.getElem_cons_zero, List.getElem_cons_succ, List.setIfInBounds_toArray, List.set_cons_zero, List.set_cons_succ])
      rw [h_q8] at b_q8
      (try rw [h_q8])
      clear h_q8
      generalize y.alloc (.cells #[.string ⟨#[]⟩, .slice none 0 0, .slice none 0 0] 32) = y at *
      refine wpAnyH_ready (rs := [9]) (by kernel_rfl) (by simp) ?_
      refine AllReadyH.cons rfl (fun K hK => ?_) AllReadyH.nil
      go_simp
      have b_q9 := Bk.new y (.cells #[.string ⟨#[]⟩, .slice none 0 0, .slice none 0 0] 32)
      obtain ⟨q9, h_q9⟩ : ∃ z, y.heap.size = z := ⟨_, rfl⟩
      have l_q9 : U2.heap.size ≤ q9 := by rw [← h_q9]; exact hY.size
      have n_q9 : q8 < q9 := by rw [← h_q9]; exact b_q8.lt
      replace b_q8 := b_q8.later (bal (Below.refl _ y) (.cells #[.string ⟨#[]⟩, .slice none 0 0, .slice none 0 0] 32))
      replace hY := bal hY (.cells #[.string ⟨#[]⟩, .slice none 0 0, .slice none 0 0] 32)
      refine hK.out _ _ (⟨cell_later hY s0, cell_later hY c0, cell_later hY c1, cell_later hY c2, cell_later hY c3, cell_later hY c4, cell_later hY c5⟩) (fun hHeld => ?_)
      clear hK K
      (try simp only [Act.put, List.getElem_toArray, List.getElem_cons_zero, List.getElem_cons_succ, List.setIfInBounds_toArray, List.set_cons_zero, List.set_cons_succ])
      rw [h_q9] at b_q9
      (try rw [h_q9])
      clear h_q9
      generalize y.alloc (.cells #[.string ⟨#[]⟩, .slice none 0 0, .slice none 0 0] 32) = y at *
      refine wpAnyH_ready (rs := [10]) (by kernel_rfl) (by simp) ?_
      refine AllReadyH.cons rfl (fun K hK => ?_) AllReadyH.nil
      have hth : (y).there q8 0 3 := b_q8.there rfl
      rw [if_pos (by rfl)]
      refine wp_store_mid _ _ _ rfl q8 0 (List.toArray [.string ⟨#[116]⟩, .slice ca 3 cc, .slice xa xn xc]) rfl rfl hth (by kernel_rfl) (by simp [Value.oneCell']) ?_
      show K _ (stW (y) q8 [.string ⟨#[116]⟩, .slice ca 3 cc, .slice xa xn xc])
      refine hK.out _ _ (⟨stW_far (by omega) (cell_later hY s0), stW_far (by omega) (cell_later hY c0), stW_far (by omega) (cell_later hY c1), stW_far (by omega) (cell_later hY c2), stW_far (by omega) (cell_later hY c3), stW_far (by omega) (cell_later hY c4), stW_far (by omega) (cell_later hY c5)⟩) (fun hHeld => ?_)
      clear hK K hth
      (try simp only [Act.put, List.getElem_toArray, List.getElem_cons_zero, List.getElem_cons_succ, List.setIfInBounds_toArray, List.set_cons_zero, List.set_cons_succ])
      have b8' := b_q8.st3 (.string ⟨#[116]⟩) (.slice ca 3 cc) (.slice xa xn xc)
      have b9' : Bk (stW y q8 [.string ⟨#[116]⟩, .slice ca 3 cc, .slice xa xn xc]) q9 (.cells #[.string ⟨#[]⟩, .slice none 0 0, .slice none 0 0] 32) := ⟨(stW_heap (by omega)).trans b_q9.row⟩
      clear b_q8 b_q9
      have b_q9 := b9'
      refine wpAnyH_ready (rs := [11]) (by kernel_rfl) (by simp) ?_
      refine AllReadyH.cons rfl (fun K hK => ?_) AllReadyH.nil
      have hth : (stW y q8 [.string ⟨#[116]⟩, .slice ca 3 cc, .slice xa xn xc]).there q9 0 3 := b_q9.there rfl
      rw [if_pos (by rfl)]
      refine wp_store_mid _ _ _ rfl q9 0 (List.toArray [.string ⟨#[117]⟩, .slice ua 3 uc, .slice ya yn yc]) rfl rfl hth (by kernel_rfl) (by simp [Value.oneCell']) ?_
      show K _ (stW (stW y q8 [.string ⟨#[116]⟩, .slice ca 3 cc, .slice xa xn xc]) q9 [.string ⟨#[117]⟩, .slice ua 3 uc, .slice ya yn yc])
      refine hK.out _ _ (⟨stW_far (by omega) (stW_far (by omega) (cell_later hY s0)), stW_far (by omega) (stW_far (by omega) (cell_later hY c0)), stW_far (by omega) (stW_far (by omega) (cell_later hY c1)), stW_far (by omega) (stW_far (by omega) (cell_later hY c2)), stW_far (by omega) (stW_far (by omega) (cell_later hY c3)), stW_far (by omega) (stW_far (by omega) (cell_later hY c4)), stW_far (by omega) (stW_far (by omega) (cell_later hY c5))⟩) (fun hHeld => ?_)
      clear hK K hth
      (try simp only [Act.put, List.getElem_toArray, List.getElem_cons_zero, List.getElem_cons_succ, List.setIfInBounds_toArray, List.set_cons_zero, List.set_cons_succ])
      refine wpAnyH_done (by kernel_rfl) ?_ _
      clear hHeld
      have b9z := b_q9.st3 (.string ⟨#[117]⟩) (.slice ua 3 uc) (.slice ya yn yc)
      have b8z : Bk (stW (stW y q8 [.string ⟨#[116]⟩, .slice ca 3 cc, .slice xa xn xc]) q9 [.string ⟨#[117]⟩, .slice ua 3 uc, .slice ya yn yc]) q8 (.cells #[.string ⟨#[116]⟩, .slice ca 3 cc, .slice xa xn xc] 32) := ⟨(stW_heap (by omega)).trans b8'.row⟩
      have hBz := stW_below (l := [.string ⟨#[117]⟩, .slice ua 3 uc, .slice ya yn yc]) (b := q9) (stW_below (l := [.string ⟨#[116]⟩, .slice ca 3 cc, .slice xa xn xc]) (b := q8) hY l_q8) l_q9
      (try go_wp2_with fail)
      go_meet
      exact ⟨q8, q9, rfl, rfl, b8z, b9z, hBz⟩
    · go_simp
      have b_q9 := Bk.new y (.cells #[.string ⟨#[]⟩, .slice none 0 0, .slice none 0 0] 32)
      obtain ⟨q9, h_q9⟩ : ∃ z, y.heap.size = z := ⟨_, rfl⟩
      have l_q9 : U2.heap.size ≤ q9 := by rw [← h_q9]; exact hY.size
      replace hY := bal hY (.cells #[.string ⟨#[]⟩, .slice none 0 0, .slice none 0 0] 32)
      refine hK.out _ _ (⟨cell_later hY s0, cell_later hY c0, cell_later hY c1, cell_later hY c2, cell_later hY c3, cell_later hY c4, cell_later hY c5⟩) (fun hHeld => ?_)
      clear hK K
      (try simp only [Act.put, List.getElem_toArray, List.getElem_cons_zero, List.getElem_cons_succ, List.setIfInBounds_toArray, List.set_cons_zero, List.set_cons_succ])
      rw [h_q9] at b_q9
      (try rw [h_q9])
      clear h_q9
      generalize y.alloc (.cells #[.string ⟨#[]⟩, .slice none 0 0, .slice none 0 0] 32) = y at *
      refine wpAnyH_ready (rs := [8]) (by kernel_rfl) (by simp) ?_
      refine AllReadyH.cons rfl (fun K hK => ?_) AllReadyH.nil
      go_simp
      have b_q8 := Bk.new y (.cells #[.string ⟨#[]⟩, .slice none 0 0, .slice none 0 0] 32)
      obtain ⟨q8, h_q8⟩ : ∃ z, y.heap.size = z := ⟨_, rfl⟩
      have l_q8 : U2.heap.size ≤ q8 := by rw [← h_q8]; exact hY.size
      have n_q8 : q9 < q8 := by rw [← h_q8]; exact b_q9.lt
      replace b_q9 := b_q9.later (bal (Below.refl _ y) (.cells #[.string ⟨#[]⟩, .slice none 0 0, .slice none 0 0] 32))
      replace hY := bal hY (.cells #[.string ⟨#[]⟩, .slice none 0 0, .slice none 0 0] 32)
      refine hK.out _ _ (⟨cell_later hY s0, cell_later hY c0, cell_later hY c1, cell_later hY c2, cell_later hY c3, cell_later hY c4, cell_later hY c5⟩) (fun hHeld => ?_)
      clear hK K
      (try simp only [Act.put, List.getElem_toArray, List.getElem_cons_zero, List.getElem_cons_succ, List.setIfInBounds_toArray, List.set_cons_zero, List.set_cons_succ])
      rw [h_q8] at b_q8
      (try rw [h_q8])
      clear h_q8
      generalize y.alloc (.cells #[.string ⟨#[]⟩, .slice none 0 0, .slice none 0 0] 32) = y at *
      refine wpAnyH_ready (rs := [10]) (by kernel_rfl) (by simp) ?_
      refine AllReadyH.cons rfl (fun K hK => ?_) AllReadyH.nil
      have hth : (y).there q8 0 3 := b_q8.there rfl
      rw [if_pos (by rfl)]
      refine wp_store_mid _ _ _ rfl q8 0 (List.toArray [.string ⟨#[116]⟩, .slice ca 3 cc, .slice xa xn xc]) rfl rfl hth (by kernel_rfl) (by simp [Value.oneCell']) ?_
      show K _ (stW (y) q8 [.string ⟨#[116]⟩, .slice ca 3 cc, .slice xa xn xc])
      refine hK.out _ _ (⟨stW_far (by omega) (cell_later hY s0), stW_far (by omega) (cell_later hY c0), stW_far (by omega) (cell_later hY c1), stW_far (by omega) (cell_later hY c2), stW_far (by omega) (cell_later hY c3), stW_far (by omega) (cell_later hY c4), stW_far (by omega) (cell_later hY c5)⟩) (fun hHeld => ?_)
      clear hK K hth
      (try simp only [Act.put, List.getElem_toArray, List.getElem_cons_zero, List.getElem_cons_succ, List.setIfInBounds_toArray, List.set_cons_zero, List.set_cons_succ])
      have b8' := b_q8.st3 (.string ⟨#[116]⟩) (.slice ca 3 cc) (.slice xa xn xc)
      have b9' : Bk (stW y q8 [.string ⟨#[116]⟩, .slice ca 3 cc, .slice xa xn xc]) q9 (.cells #[.string ⟨#[]⟩, .slice none 0 0, .slice none 0 0] 32) := ⟨(stW_heap (by omega)).trans b_q9.row⟩
      clear b_q8 b_q9
      have b_q9 := b9'
      refine wpAnyH_ready (rs := [11]) (by kernel_rfl) (by simp) ?_
      refine AllReadyH.cons rfl (fun K hK => ?_) AllReadyH.nil
      have hth : (stW y q8 [.string ⟨#[116]⟩, .slice ca 3 cc, .slice xa xn xc]).there q9 0 3 := b_q9.there rfl
      rw [if_pos (by rfl)]
      refine wp_store_mid _ _ _ rfl q9 0 (List.toArray [.string ⟨#[117]⟩, .slice ua 3 uc, .slice ya yn yc]) rfl rfl hth (by kernel_rfl) (by simp [Value.oneCell']) ?_
      show K _ (stW (stW y q8 [.string ⟨#[116]⟩, .slice ca 3 cc, .slice xa xn xc]) q9 [.string ⟨#[117]⟩, .slice ua 3 uc, .slice ya yn yc])
      refine hK.out _ _ (⟨stW_far (by omega) (stW_far (by omega) (cell_later hY s0)), stW_far (by omega) (stW_far (by omega) (cell_later hY c0)), stW_far (by omega) (stW_far (by omega) (cell_later hY c1)), stW_far (by omega) (stW_far (by omega) (cell_later hY c2)), stW_far (by omega) (stW_far (by omega) (cell_later hY c3)), stW_far (by omega) (stW_far (by omega) (cell_later hY c4)), stW_far (by omega) (stW_far (by omega) (cell_later hY c5))⟩) (fun hHeld => ?_)
      clear hK K hth
      (try simp only [Act.put, List.getElem_toArray, List.getElem_cons_zero, List.getElem_cons_succ, List.setIfInBounds_toArray, List.set_cons_zero, List.set_cons_succ])
      refine wpAnyH_done (by kernel_rfl) ?_ _
      clear hHeld
      have b9z := b_q9.st3 (.string ⟨#[117]⟩) (.slice ua 3 uc) (.slice ya yn yc)
      have b8z : Bk (stW (stW y q8 [.string ⟨#[116]⟩, .slice ca 3 cc, .slice xa xn xc]) q9 [.string ⟨#[117]⟩, .slice ua 3 uc, .slice ya yn yc]) q8 (.cells #[.string ⟨#[116]⟩, .slice ca 3 cc, .slice xa xn xc] 32) := ⟨(stW_heap (by omega)).trans b8'.row⟩
      have hBz := stW_below (l := [.string ⟨#[117]⟩, .slice ua 3 uc, .slice ya yn yc]) (b := q9) (stW_below (l := [.string ⟨#[116]⟩, .slice ca 3 cc, .slice xa xn xc]) (b := q8) hY l_q8) l_q9
      (try go_wp2_with fail)
      go_meet
      exact ⟨q8, q9, rfl, rfl, b8z, b9z, hBz⟩
  case rest =>
  obtain ⟨q8, q9, rfl, rfl, b8, b9, hb3⟩ := hcut
  replace hw := Below.on hw hb3
  replace HTb : Hid (∀ w', Below wc.heap.size wc w' → RowIs eCol (fun _ => True) w' (.slice ca 3 cc) tbT.cols ∧ RowIs eStr (fun _ => True) w' (.slice xa xn xc) tbT.index ∧ RowIs eCol (fun _ => True) w' (.slice ua 3 uc) tbU.cols ∧ RowIs eStr (fun _ => True) w' (.slice ya yn yc) tbU.index) := hid fun w' hb => HTb.out w' (Below.on hb3 hb)
  obtain ⟨t0, t1, t2⟩ : wc.cell? ⟨q8, 0, none⟩ = some (.string ⟨#[116]⟩) ∧ wc.cell? ⟨q8, 1, none⟩ = some (.slice ca 3 cc) ∧ wc.cell? ⟨q8, 2, none⟩ = some (.slice xa xn xc) := ⟨b8.cell 0, b8.cell 1, b8.cell 2⟩
  obtain ⟨u0, u1, u2⟩ : wc.cell? ⟨q9, 0, none⟩ = some (.string ⟨#[117]⟩) ∧ wc.cell? ⟨q9, 1, none⟩ = some (.slice ua 3 uc) ∧ wc.cell? ⟨q9, 2, none⟩ = some (.slice ya yn yc) := ⟨b9.cell 0, b9.cell 1, b9.cell 2⟩
  clear b8 b9 hb3 c0 c1 c2 c3 c4 c5 s0 hts hqq
  have HR1 : Hid (∀ w', Below wc.heap.size wc w' → _) := hid fun w' hb => rowsP_any hz hlc hcm (HNu.out w' (Below.on hw hb)) tbT.cols (by decide) (by decide) ⟨#[116]⟩ xa xn xc (HTb.out w' hb).1 10 (by decide)
  have HR2 : Hid (∀ w', Below wc.heap.size wc w' → _) := hid fun w' hb => rowsP_any hz1 hlc1 hcm1 (HNu1.out w' (Below.on hw hb)) tbU.cols (by decide) (by decide) ⟨#[117]⟩ ya yn yc (HTb.out w' hb).2.2.1 10 (by decide)
  obtain ⟨L, hL⟩ : ∃ L, rowsX (tbT.cols.map fun c => c.2.1) 10 zs = L := ⟨_, rfl⟩
  obtain ⟨R, hR⟩ : ∃ R, rowsX (tbU.cols.map fun c => c.2.1) 10 zs1 = R := ⟨_, rfl⟩
  have hL10 : L.length ≤ 10 := by rw [← hL]; exact rowsX_len _ _ _
  have hR10 : R.length ≤ 10 := by rw [← hR]; exact rowsX_len _ _ _
  have HokL : Hid (∀ r ∈ L, RwOK tbT.cols r) := hid (by rw [← hL]; exact rowsX_mem (by decide) _ _)
  have HokR : Hid (∀ r ∈ R, RwOK tbU.cols r) := hid (by rw [← hR]; exact rowsX_mem (by decide) _ _)
  rw [hL] at HR1
  rw [hR] at HR2
  clear hL hR HNu HNu1
  go_upto_region 7 with fail
  generalize hwc : wc = W3 at *
  clear hwc
  go_cut [10, 11] (fun v10 v11 w' => ∃ la lc ra rc, v10 = .slice la L.length lc ∧ v11 = .slice ra R.length rc ∧ RowIs eRow (fun _ => True) w' (.slice la L.length lc) L ∧ RowIs eRow (fun _ => True) w' (.slice ra R.length rc) R ∧ Below W3.heap.size W3 w')
  case first =>
    have hY : Below W3.heap.size W3 W3.drew := (Below.refl _ W3).drew
    refine wp_region_held_drew (S := fun w' => w'.cell? ⟨q8, 0, none⟩ = some (.string ⟨#[116]⟩) ∧ w'.cell? ⟨q8, 1, none⟩ = some (.slice ca 3 cc) ∧ w'.cell? ⟨q8, 2, none⟩ = some (.slice xa xn xc) ∧ w'.cell? ⟨q9, 0, none⟩ = some (.string ⟨#[117]⟩) ∧ w'.cell? ⟨q9, 1, none⟩ = some (.slice ua 3 uc) ∧ w'.cell? ⟨q9, 2, none⟩ = some (.slice ya yn yc)) (by kernel_rfl) (⟨cell_later hY t0, cell_later hY t1, cell_later hY t2, cell_later hY u0, cell_later hY u1, cell_later hY u2⟩) (fun hHeld => ?_)
    generalize W3.drew = y at *
    refine wpAnyH_take (i := 0) (v := ?tv14105) rfl (by kernel_rfl) (by kernel_rfl) (by kernel_rfl) (fun _ _ _ h => h) (Or.inl ⟨by rfl, ?hy14105⟩) (by assumption) ?rs14105
    case hy14105 => (intro w9 hSw; (try dsimp only at hSw); go_simp; (try with_reducible rfl))
    (try simp only [Act.put, List.getElem_toArray, List.getElem_cons_zero, List.getElem_cons_succ, List.setIfInBounds_toArray, List.set_cons_zero, List.set_cons_succ])
    refine wpAnyH_take (i := 1) (v := ?tv14106) rfl (by kernel_rfl) (by kernel_rfl) (by kernel_rfl) (fun _ _ _ h => h) (Or.inl ⟨by rfl, ?hy14106⟩) (by assumption) ?rs14106
    case hy14106 => (intro w9 hSw; (try dsimp only at hSw); go_simp; (try with_reducible rfl))
    (try simp only [Act.put, List.getElem_toArray, List.getElem_cons_zero, List.getElem_cons_succ, List.setIfInBounds_toArray, List.set_cons_zero, List.set_cons_succ])
    refine wpAnyH_take (i := 3) (v := ?tv14107) rfl (by kernel_rfl) (by kernel_rfl) (by kernel_rfl) (fun _ _ _ h => h) (Or.inl ⟨by rfl, ?hy14107⟩) (by assumption) ?rs14107
    case hy14107 => (intro w9 hSw; (try dsimp only at hSw); go_simp; (try with_reducible rfl))
    (try simp only [Act.put, List.getElem_toArray, List.getElem_cons_zero, List.getElem_cons_succ, List.setIfInBounds_toArray, List.set_cons_zero, List.set_cons_succ])
    refine wpAnyH_take (i := 4) (v := ?tv14108) rfl (by kernel_rfl) (by kernel_rfl) (by kernel_rfl) (fun _ _ _ h => h) (Or.inl ⟨by rfl, ?hy14108⟩) (by assumption) ?rs14108
    case hy14108 => (intro w9 hSw; (try dsimp only at hSw); go_simp; (try with_reducible rfl))
    (try simp only [Act.put, List.getElem_toArray, List.getElem_cons_zero, List.getElem_cons_succ, List.setIfInBounds_toArray, List.set_cons_zero, List.set_cons_succ])
    refine wpAnyH_ready (rs := [2]) (by kernel_rfl) (by simp) ?_
    refine AllReadyH.cons rfl (fun K hK => ?_) AllReadyH.nil
    go_simp
    go_wp2_with (first | (go_at_call 6; (refine Calls.mono (HR1.out _ hY) ?_); rintro e y ⟨v1, rfl, hT1, hby⟩; replace hY := Below.on hY hby))
    obtain ⟨css1, hO1, -, -⟩ := id hT1
    obtain ⟨a1, n1, c1, rfl⟩ := hO1.sl
    obtain rfl := hT1.len
    have r1 := hT1.row.mono (Q' := fun _ => True) (by decide) fun _ _ _ => trivial
    clear hT1 hO1 hby
    refine hK.out _ _ (⟨cell_later hY t0, cell_later hY t1, cell_later hY t2, cell_later hY u0, cell_later hY u1, cell_later hY u2⟩) (fun hHeld => ?_)
    clear hK K
    (try simp only [Act.put, List.getElem_toArray, List.getElem_cons_zero, List.getElem_cons_succ, List.setIfInBounds_toArray, List.set_cons_zero, List.set_cons_succ])
    refine wpAnyH_ready (rs := [5]) (by kernel_rfl) (by simp) ?_
    refine AllReadyH.cons rfl (fun K hK => ?_) AllReadyH.nil
    go_simp
    go_wp2_with (first | (go_at_call 6; (refine Calls.mono (HR2.out _ hY) ?_); rintro e y ⟨v2, rfl, hT2, hby⟩; replace hY := Below.on hY hby; replace r1 := r1.keep (w' := y) (by decide) fun b _ hl => hby.block b hl))
    obtain ⟨css2, hO2, -, -⟩ := id hT2
    obtain ⟨a2, n2, c2, rfl⟩ := hO2.sl
    obtain rfl := hT2.len
    have r2 := hT2.row.mono (Q' := fun _ => True) (by decide) fun _ _ _ => trivial
    clear hT2 hO2 hby
    refine hK.out _ _ (⟨cell_later hY t0, cell_later hY t1, cell_later hY t2, cell_later hY u0, cell_later hY u1, cell_later hY u2⟩) (fun hHeld => ?_)
    clear hK K
    (try simp only [Act.put, List.getElem_toArray, List.getElem_cons_zero, List.getElem_cons_succ, List.setIfInBounds_toArray, List.set_cons_zero, List.set_cons_succ])
    refine wpAnyH_ready (rs := [6]) (by kernel_rfl) (by simp) ?_
    refine AllReadyH.cons rfl (fun K hK => ?_) AllReadyH.nil
    go_simp
    refine hK.out _ _ (⟨cell_later hY t0, cell_later hY t1, cell_later hY t2, cell_later hY u0, cell_later hY u1, cell_later hY u2⟩) (fun hHeld => ?_)
    clear hK K
    (try simp only [Act.put, List.getElem_toArray, List.getElem_cons_zero, List.getElem_cons_succ, List.setIfInBounds_toArray, List.set_cons_zero, List.set_cons_succ])
    refine wpAnyH_ready (rs := [7]) (by kernel_rfl) (by simp) ?_
    refine AllReadyH.cons rfl (fun K hK => ?_) AllReadyH.nil
    go_simp
    refine hK.out _ _ (⟨cell_later hY t0, cell_later hY t1, cell_later hY t2, cell_later hY u0, cell_later hY u1, cell_later hY u2⟩) (fun hHeld => ?_)
    clear hK K
    (try simp only [Act.put, List.getElem_toArray, List.getElem_cons_zero, List.getElem_cons_succ, List.setIfInBounds_toArray, List.set_cons_zero, List.set_cons_succ])
    refine wpAnyH_done (by kernel_rfl) ?_ _
    clear hHeld
    (try go_wp2_with fail)
    go_meet
    exact ⟨_, _, _, _, rfl, rfl, r1, r2, hY⟩
  case rest =>
  obtain ⟨la, lc, ra, rc, rfl, rfl, rL, rR, hb4⟩ := hcut
  replace hw := Below.on hw hb4
  replace HTb : Hid (∀ w', Below wc.heap.size wc w' → RowIs eCol (fun _ => True) w' (.slice ca 3 cc) tbT.cols ∧ RowIs eStr (fun _ => True) w' (.slice xa xn xc) tbT.index ∧ RowIs eCol (fun _ => True) w' (.slice ua 3 uc) tbU.cols ∧ RowIs eStr (fun _ => True) w' (.slice ya yn yc) tbU.index) := hid fun w' hb => HTb.out w' (Below.on hb4 hb)
  replace t0 := cell_later hb4 t0
  replace t1 := cell_later hb4 t1
  replace t2 := cell_later hb4 t2
  replace u0 := cell_later hb4 u0
  replace u1 := cell_later hb4 u1
  replace u2 := cell_later hb4 u2
  clear HR1 HR2 hb4
  generalize hwc : wc = W4 at *
  clear hwc
  go_upto_region 8 with fail
  go_cut [12, 13] (fun v12 v13 w' => ∃ ma mb : Nat, v12 = .int .i64 ma ∧ v13 = .int .i64 mb ∧ ((ma = 0 ∧ mb = 1) ∨ (ma = 2 ∧ mb = 2) ∨ (ma = 1 ∧ mb = 0) ∨ (ma = 0 ∧ mb = 2)) ∧ Below W4.heap.size W4 w')
  case first =>
    clear HTb rL rR HokL HokR t0 t1 t2 u0 u1 u2
    obtain ⟨r, hr⟩ : ∃ r, on % 4 = r := ⟨_, rfl⟩
    have hr4 : r < 4 := by omega
    have nt : (on : Int).tmod 4 = (r : Int) := by rw [Int.tmod_eq_emod_of_nonneg (by omega)]; omega
    have hY : Below W4.heap.size W4 W4.drew := (Below.refl _ W4).drew
    clear hr
    match r, hr4 with
    | 0, _ =>
      have nt : (on : Int).tmod 4 = 0 := nt
      refine wp_region_held_drew (S := fun w' => True) (by kernel_rfl) trivial (fun hHeld => ?_)
      generalize W4.drew = y at *
      refine wpAnyH_take (i := 1) (v := ?tv14001) rfl (by kernel_rfl) (by kernel_rfl) (by kernel_rfl) (fun _ _ _ h => h) (Or.inl ⟨by rfl, ?hy14001⟩) (by assumption) ?rs14001
      case hy14001 => (intro w9 hSw; (try dsimp only at hSw); go_simp; (try with_reducible rfl))
      (try simp only [Act.put, List.getElem_toArray, List.getElem_cons_zero, List.getElem_cons_succ, List.setIfInBounds_toArray, List.set_cons_zero, List.set_cons_succ])
      refine wpAnyH_take (i := 2) (v := ?tv14002) rfl (by kernel_rfl) (by kernel_rfl) (by kernel_rfl) (fun _ _ _ h => h) (Or.inl ⟨by rfl, ?hy14002⟩) (by assumption) ?rs14002
      case hy14002 => (intro w9 hSw; (try dsimp only at hSw); go_simp; (try with_reducible rfl))
      (try simp only [Act.put, List.getElem_toArray, List.getElem_cons_zero, List.getElem_cons_succ, List.setIfInBounds_toArray, List.set_cons_zero, List.set_cons_succ])
      refine wpAnyH_take (i := 6) (v := ?tv14003) rfl (by kernel_rfl) (by kernel_rfl) (by kernel_rfl) (fun _ _ _ h => h) (Or.inl ⟨by rfl, ?hy14003⟩) (by assumption) ?rs14003
      case hy14003 => (intro w9 hSw; (try dsimp only at hSw); go_simp; (try with_reducible rfl))
      (try simp only [Act.put, List.getElem_toArray, List.getElem_cons_zero, List.getElem_cons_succ, List.setIfInBounds_toArray, List.set_cons_zero, List.set_cons_succ])
      refine wpAnyH_take (i := 7) (v := ?tv14004) rfl (by kernel_rfl) (by kernel_rfl) (by kernel_rfl) (fun _ _ _ h => h) (Or.inl ⟨by rfl, ?hy14004⟩) (by assumption) ?rs14004
      case hy14004 => (intro w9 hSw; (try dsimp only at hSw); go_simp; (try with_reducible rfl))
      (try simp only [Act.put, List.getElem_toArray, List.getElem_cons_zero, List.getElem_cons_succ, List.setIfInBounds_toArray, List.set_cons_zero, List.set_cons_succ])
      refine wpAnyH_ready (rs := [0, 5]) (by kernel_rfl) (by simp) ?_
      refine AllReadyH.cons rfl (fun K hK => ?_) (AllReadyH.cons rfl (fun K hK => ?_) AllReadyH.nil)
      · go_simp
        have b_p1 := Bk.new y (.cells #[.int .i64 0, .int .i64 2, .int .i64 1, .int .i64 0] 3)
        obtain ⟨p1, h_p1⟩ : ∃ z, y.heap.size = z := ⟨_, rfl⟩
        replace hY := bal hY (.cells #[.int .i64 0, .int .i64 2, .int .i64 1, .int .i64 0] 3)
        refine hK.out _ _ (trivial) (fun hHeld => ?_)
        clear hK K
        (try simp only [Act.put, List.getElem_toArray, List.getElem_cons_zero, List.getElem_cons_succ, List.setIfInBounds_toArray, List.set_cons_zero, List.set_cons_succ])
        rw [h_p1] at b_p1
        (try rw [h_p1])
        clear h_p1
        generalize y.alloc (.cells #[.int .i64 0, .int .i64 2, .int .i64 1, .int .i64 0] 3) = y at *
        have d_p1 : y.cell? ⟨p1, 0, none⟩ = some (.int .i64 0) := b_p1.cell 0
        clear hHeld
        refine wpAnyH_strN (S' := fun w' => w'.cell? ⟨p1, 0, none⟩ = some (.int .i64 0)) (fun _ h => trivial) _ _ _ _ ?_
        have hHeld : y.cell? ⟨p1, 0, none⟩ = some (.int .i64 0) := d_p1
        refine wpAnyH_take (i := 3) (v := ?tv14009) rfl (by kernel_rfl) (by kernel_rfl) (by kernel_rfl) (fun _ _ _ h => h) (Or.inl ⟨by rfl, ?hy14009⟩) (by assumption) ?rs14009
        case hy14009 => (intro w9 hSw; (try dsimp only at hSw); go_simp; (try with_reducible rfl))
        (try simp only [Act.put, List.getElem_toArray, List.getElem_cons_zero, List.getElem_cons_succ, List.setIfInBounds_toArray, List.set_cons_zero, List.set_cons_succ])
        refine wpAnyH_take (i := 4) (v := ?tv14010) rfl (by kernel_rfl) (by kernel_rfl) (by kernel_rfl) (fun _ _ _ h => h) (Or.inl ⟨by rfl, ?hy14010⟩) (by assumption) ?rs14010
        case hy14010 => (intro w9 hSw; (try dsimp only at hSw); go_simp; (try with_reducible rfl))
        (try simp only [Act.put, List.getElem_toArray, List.getElem_cons_zero, List.getElem_cons_succ, List.setIfInBounds_toArray, List.set_cons_zero, List.set_cons_succ])
        refine wpAnyH_ready (rs := [5, 10]) (by kernel_rfl) (by simp) ?_
        refine AllReadyH.cons rfl (fun K hK => ?_) (AllReadyH.cons rfl (fun K hK => ?_) AllReadyH.nil)
        · go_simp
          have b_p2 := Bk.new y (.cells #[.int .i64 1, .int .i64 2, .int .i64 0, .int .i64 2] 3)
          obtain ⟨p2, h_p2⟩ : ∃ z, y.heap.size = z := ⟨_, rfl⟩
          replace d_p1 := cell_later (bal (Below.refl _ y) (.cells #[.int .i64 1, .int .i64 2, .int .i64 0, .int .i64 2] 3)) d_p1
          replace hY := bal hY (.cells #[.int .i64 1, .int .i64 2, .int .i64 0, .int .i64 2] 3)
          refine hK.out _ _ (d_p1) (fun hHeld => ?_)
          clear hK K
          (try simp only [Act.put, List.getElem_toArray, List.getElem_cons_zero, List.getElem_cons_succ, List.setIfInBounds_toArray, List.set_cons_zero, List.set_cons_succ])
          rw [h_p2] at b_p2
          (try rw [h_p2])
          clear h_p2
          generalize y.alloc (.cells #[.int .i64 1, .int .i64 2, .int .i64 0, .int .i64 2] 3) = y at *
          have d_p2 : y.cell? ⟨p2, 0, none⟩ = some (.int .i64 1) := b_p2.cell 0
          clear hHeld
          refine wpAnyH_strN (S' := fun w' => w'.cell? ⟨p2, 0, none⟩ = some (.int .i64 1) ∧ w'.cell? ⟨p1, 0, none⟩ = some (.int .i64 0)) (fun _ h => h.2) _ _ _ _ ?_
          have hHeld : y.cell? ⟨p2, 0, none⟩ = some (.int .i64 1) ∧ y.cell? ⟨p1, 0, none⟩ = some (.int .i64 0) := ⟨d_p2, d_p1⟩
          refine wpAnyH_take (i := 8) (v := ?tv14005) rfl (by kernel_rfl) (by kernel_rfl) (by kernel_rfl) (fun _ _ _ h => h) (Or.inl ⟨by rfl, ?hy14005⟩) (by assumption) ?rs14005
          case hy14005 => (intro w9 hSw; (try dsimp only at hSw); go_simp; (try with_reducible rfl))
          (try simp only [Act.put, List.getElem_toArray, List.getElem_cons_zero, List.getElem_cons_succ, List.setIfInBounds_toArray, List.set_cons_zero, List.set_cons_succ])
          refine wpAnyH_take (i := 9) (v := ?tv14006) rfl (by kernel_rfl) (by kernel_rfl) (by kernel_rfl) (fun _ _ _ h => h) (Or.inl ⟨by rfl, ?hy14006⟩) (by assumption) ?rs14006
          case hy14006 => (intro w9 hSw; (try dsimp only at hSw); go_simp; (try with_reducible rfl))
          (try simp only [Act.put, List.getElem_toArray, List.getElem_cons_zero, List.getElem_cons_succ, List.setIfInBounds_toArray, List.set_cons_zero, List.set_cons_succ])
          refine wpAnyH_ready (rs := [10]) (by kernel_rfl) (by simp) ?_
          refine AllReadyH.cons rfl (fun K hK => ?_) AllReadyH.nil
          go_simp
          refine hK.out _ _ (⟨d_p2, d_p1⟩) (fun hHeld => ?_)
          clear hK K
          (try simp only [Act.put, List.getElem_toArray, List.getElem_cons_zero, List.getElem_cons_succ, List.setIfInBounds_toArray, List.set_cons_zero, List.set_cons_succ])
          refine wpAnyH_ready (rs := [11]) (by kernel_rfl) (by simp) ?_
          refine AllReadyH.cons rfl (fun K hK => ?_) AllReadyH.nil
          go_simp
          refine hK.out _ _ (⟨d_p2, d_p1⟩) (fun hHeld => ?_)
          clear hK K
          (try simp only [Act.put, List.getElem_toArray, List.getElem_cons_zero, List.getElem_cons_succ, List.setIfInBounds_toArray, List.set_cons_zero, List.set_cons_succ])
          refine wpAnyH_done (by kernel_rfl) ?_ _
          clear hHeld
          (try go_wp2_with fail)
          go_meet
          exact ⟨0, 1, rfl, rfl, by simp, hY⟩
        · go_simp
          refine hK.out _ _ (d_p1) (fun hHeld => ?_)
          clear hK K
          (try simp only [Act.put, List.getElem_toArray, List.getElem_cons_zero, List.getElem_cons_succ, List.setIfInBounds_toArray, List.set_cons_zero, List.set_cons_succ])
          refine wpAnyH_ready (rs := [5]) (by kernel_rfl) (by simp) ?_
          refine AllReadyH.cons rfl (fun K hK => ?_) AllReadyH.nil
          go_simp
          have b_p2 := Bk.new y (.cells #[.int .i64 1, .int .i64 2, .int .i64 0, .int .i64 2] 3)
          obtain ⟨p2, h_p2⟩ : ∃ z, y.heap.size = z := ⟨_, rfl⟩
          replace d_p1 := cell_later (bal (Below.refl _ y) (.cells #[.int .i64 1, .int .i64 2, .int .i64 0, .int .i64 2] 3)) d_p1
          replace hY := bal hY (.cells #[.int .i64 1, .int .i64 2, .int .i64 0, .int .i64 2] 3)
          refine hK.out _ _ (d_p1) (fun hHeld => ?_)
          clear hK K
          (try simp only [Act.put, List.getElem_toArray, List.getElem_cons_zero, List.getElem_cons_succ, List.setIfInBounds_toArray, List.set_cons_zero, List.set_cons_succ])
          rw [h_p2] at b_p2
          (try rw [h_p2])
          clear h_p2
          generalize y.alloc (.cells #[.int .i64 1, .int .i64 2, .int .i64 0, .int .i64 2] 3) = y at *
          have d_p2 : y.cell? ⟨p2, 0, none⟩ = some (.int .i64 1) := b_p2.cell 0
          clear hHeld
          refine wpAnyH_strN (S' := fun w' => w'.cell? ⟨p2, 0, none⟩ = some (.int .i64 1) ∧ w'.cell? ⟨p1, 0, none⟩ = some (.int .i64 0)) (fun _ h => h.2) _ _ _ _ ?_
          have hHeld : y.cell? ⟨p2, 0, none⟩ = some (.int .i64 1) ∧ y.cell? ⟨p1, 0, none⟩ = some (.int .i64 0) := ⟨d_p2, d_p1⟩
          refine wpAnyH_take (i := 8) (v := ?tv14007) rfl (by kernel_rfl) (by kernel_rfl) (by kernel_rfl) (fun _ _ _ h => h) (Or.inl ⟨by rfl, ?hy14007⟩) (by assumption) ?rs14007
          case hy14007 => (intro w9 hSw; (try dsimp only at hSw); go_simp; (try with_reducible rfl))
          (try simp only [Act.put, List.getElem_toArray, List.getElem_cons_zero, List.getElem_cons_succ, List.setIfInBounds_toArray, List.set_cons_zero, List.set_cons_succ])
          refine wpAnyH_take (i := 9) (v := ?tv14008) rfl (by kernel_rfl) (by kernel_rfl) (by kernel_rfl) (fun _ _ _ h => h) (Or.inl ⟨by rfl, ?hy14008⟩) (by assumption) ?rs14008
          case hy14008 => (intro w9 hSw; (try dsimp only at hSw); go_simp; (try with_reducible rfl))
          (try simp only [Act.put, List.getElem_toArray, List.getElem_cons_zero, List.getElem_cons_succ, List.setIfInBounds_toArray, List.set_cons_zero, List.set_cons_succ])
          refine wpAnyH_ready (rs := [11]) (by kernel_rfl) (by simp) ?_
          refine AllReadyH.cons rfl (fun K hK => ?_) AllReadyH.nil
          go_simp
          refine hK.out _ _ (⟨d_p2, d_p1⟩) (fun hHeld => ?_)
          clear hK K
          (try simp only [Act.put, List.getElem_toArray, List.getElem_cons_zero, List.getElem_cons_succ, List.setIfInBounds_toArray, List.set_cons_zero, List.set_cons_succ])
          refine wpAnyH_done (by kernel_rfl) ?_ _
          clear hHeld
          (try go_wp2_with fail)
          go_meet
          exact ⟨0, 1, rfl, rfl, by simp, hY⟩
      · go_simp
        have b_p2 := Bk.new y (.cells #[.int .i64 1, .int .i64 2, .int .i64 0, .int .i64 2] 3)
        obtain ⟨p2, h_p2⟩ : ∃ z, y.heap.size = z := ⟨_, rfl⟩
        replace hY := bal hY (.cells #[.int .i64 1, .int .i64 2, .int .i64 0, .int .i64 2] 3)
        refine hK.out _ _ (trivial) (fun hHeld => ?_)
        clear hK K
        (try simp only [Act.put, List.getElem_toArray, List.getElem_cons_zero, List.getElem_cons_succ, List.setIfInBounds_toArray, List.set_cons_zero, List.set_cons_succ])
        rw [h_p2] at b_p2
        (try rw [h_p2])
        clear h_p2
        generalize y.alloc (.cells #[.int .i64 1, .int .i64 2, .int .i64 0, .int .i64 2] 3) = y at *
        have d_p2 : y.cell? ⟨p2, 0, none⟩ = some (.int .i64 1) := b_p2.cell 0
        clear hHeld
        refine wpAnyH_strN (S' := fun w' => w'.cell? ⟨p2, 0, none⟩ = some (.int .i64 1)) (fun _ h => trivial) _ _ _ _ ?_
        have hHeld : y.cell? ⟨p2, 0, none⟩ = some (.int .i64 1) := d_p2
        refine wpAnyH_take (i := 8) (v := ?tv14011) rfl (by kernel_rfl) (by kernel_rfl) (by kernel_rfl) (fun _ _ _ h => h) (Or.inl ⟨by rfl, ?hy14011⟩) (by assumption) ?rs14011
        case hy14011 => (intro w9 hSw; (try dsimp only at hSw); go_simp; (try with_reducible rfl))
        (try simp only [Act.put, List.getElem_toArray, List.getElem_cons_zero, List.getElem_cons_succ, List.setIfInBounds_toArray, List.set_cons_zero, List.set_cons_succ])
        refine wpAnyH_take (i := 9) (v := ?tv14012) rfl (by kernel_rfl) (by kernel_rfl) (by kernel_rfl) (fun _ _ _ h => h) (Or.inl ⟨by rfl, ?hy14012⟩) (by assumption) ?rs14012
        case hy14012 => (intro w9 hSw; (try dsimp only at hSw); go_simp; (try with_reducible rfl))
        (try simp only [Act.put, List.getElem_toArray, List.getElem_cons_zero, List.getElem_cons_succ, List.setIfInBounds_toArray, List.set_cons_zero, List.set_cons_succ])
        refine wpAnyH_ready (rs := [0]) (by kernel_rfl) (by simp) ?_
        refine AllReadyH.cons rfl (fun K hK => ?_) AllReadyH.nil
        go_simp
        have b_p1 := Bk.new y (.cells #[.int .i64 0, .int .i64 2, .int .i64 1, .int .i64 0] 3)
        obtain ⟨p1, h_p1⟩ : ∃ z, y.heap.size = z := ⟨_, rfl⟩
        replace d_p2 := cell_later (bal (Below.refl _ y) (.cells #[.int .i64 0, .int .i64 2, .int .i64 1, .int .i64 0] 3)) d_p2
        replace hY := bal hY (.cells #[.int .i64 0, .int .i64 2, .int .i64 1, .int .i64 0] 3)
        refine hK.out _ _ (d_p2) (fun hHeld => ?_)
        clear hK K
        (try simp only [Act.put, List.getElem_toArray, List.getElem_cons_zero, List.getElem_cons_succ, List.setIfInBounds_toArray, List.set_cons_zero, List.set_cons_succ])
        rw [h_p1] at b_p1
        (try rw [h_p1])
        clear h_p1
        generalize y.alloc (.cells #[.int .i64 0, .int .i64 2, .int .i64 1, .int .i64 0] 3) = y at *
        have d_p1 : y.cell? ⟨p1, 0, none⟩ = some (.int .i64 0) := b_p1.cell 0
        clear hHeld
        refine wpAnyH_strN (S' := fun w' => w'.cell? ⟨p1, 0, none⟩ = some (.int .i64 0) ∧ w'.cell? ⟨p2, 0, none⟩ = some (.int .i64 1)) (fun _ h => h.2) _ _ _ _ ?_
        have hHeld : y.cell? ⟨p1, 0, none⟩ = some (.int .i64 0) ∧ y.cell? ⟨p2, 0, none⟩ = some (.int .i64 1) := ⟨d_p1, d_p2⟩
        refine wpAnyH_take (i := 3) (v := ?tv14013) rfl (by kernel_rfl) (by kernel_rfl) (by kernel_rfl) (fun _ _ _ h => h) (Or.inl ⟨by rfl, ?hy14013⟩) (by assumption) ?rs14013
        case hy14013 => (intro w9 hSw; (try dsimp only at hSw); go_simp; (try with_reducible rfl))
        (try simp only [Act.put, List.getElem_toArray, List.getElem_cons_zero, List.getElem_cons_succ, List.setIfInBounds_toArray, List.set_cons_zero, List.set_cons_succ])
        refine wpAnyH_take (i := 4) (v := ?tv14014) rfl (by kernel_rfl) (by kernel_rfl) (by kernel_rfl) (fun _ _ _ h => h) (Or.inl ⟨by rfl, ?hy14014⟩) (by assumption) ?rs14014
        case hy14014 => (intro w9 hSw; (try dsimp only at hSw); go_simp; (try with_reducible rfl))
        (try simp only [Act.put, List.getElem_toArray, List.getElem_cons_zero, List.getElem_cons_succ, List.setIfInBounds_toArray, List.set_cons_zero, List.set_cons_succ])
        refine wpAnyH_ready (rs := [10]) (by kernel_rfl) (by simp) ?_
        refine AllReadyH.cons rfl (fun K hK => ?_) AllReadyH.nil
        go_simp
        refine hK.out _ _ (⟨d_p1, d_p2⟩) (fun hHeld => ?_)
        clear hK K
        (try simp only [Act.put, List.getElem_toArray, List.getElem_cons_zero, List.getElem_cons_succ, List.setIfInBounds_toArray, List.set_cons_zero, List.set_cons_succ])
        refine wpAnyH_ready (rs := [11]) (by kernel_rfl) (by simp) ?_
        refine AllReadyH.cons rfl (fun K hK => ?_) AllReadyH.nil
        go_simp
        refine hK.out _ _ (⟨d_p1, d_p2⟩) (fun hHeld => ?_)
        clear hK K
        (try simp only [Act.put, List.getElem_toArray, List.getElem_cons_zero, List.getElem_cons_succ, List.setIfInBounds_toArray, List.set_cons_zero, List.set_cons_succ])
        refine wpAnyH_done (by kernel_rfl) ?_ _
        clear hHeld
        (try go_wp2_with fail)
        go_meet
        exact ⟨0, 1, rfl, rfl, by simp, hY⟩
    | 1, _ =>
      have nt : (on : Int).tmod 4 = 1 := nt
      refine wp_region_held_drew (S := fun w' => True) (by kernel_rfl) trivial (fun hHeld => ?_)
      generalize W4.drew = y at *
      refine wpAnyH_take (i := 1) (v := ?tv14015) rfl (by kernel_rfl) (by kernel_rfl) (by kernel_rfl) (fun _ _ _ h => h) (Or.inl ⟨by rfl, ?hy14015⟩) (by assumption) ?rs14015
      case hy14015 => (intro w9 hSw; (try dsimp only at hSw); go_simp; (try with_reducible rfl))
      (try simp only [Act.put, List.getElem_toArray, List.getElem_cons_zero, List.getElem_cons_succ, List.setIfInBounds_toArray, List.set_cons_zero, List.set_cons_succ])
      refine wpAnyH_take (i := 2) (v := ?tv14016) rfl (by kernel_rfl) (by kernel_rfl) (by kernel_rfl) (fun _ _ _ h => h) (Or.inl ⟨by rfl, ?hy14016⟩) (by assumption) ?rs14016
      case hy14016 => (intro w9 hSw; (try dsimp only at hSw); go_simp; (try with_reducible rfl))
      (try simp only [Act.put, List.getElem_toArray, List.getElem_cons_zero, List.getElem_cons_succ, List.setIfInBounds_toArray, List.set_cons_zero, List.set_cons_succ])
      refine wpAnyH_take (i := 6) (v := ?tv14017) rfl (by kernel_rfl) (by kernel_rfl) (by kernel_rfl) (fun _ _ _ h => h) (Or.inl ⟨by rfl, ?hy14017⟩) (by assumption) ?rs14017
      case hy14017 => (intro w9 hSw; (try dsimp only at hSw); go_simp; (try with_reducible rfl))
      (try simp only [Act.put, List.getElem_toArray, List.getElem_cons_zero, List.getElem_cons_succ, List.setIfInBounds_toArray, List.set_cons_zero, List.set_cons_succ])
      refine wpAnyH_take (i := 7) (v := ?tv14018) rfl (by kernel_rfl) (by kernel_rfl) (by kernel_rfl) (fun _ _ _ h => h) (Or.inl ⟨by rfl, ?hy14018⟩) (by assumption) ?rs14018
      case hy14018 => (intro w9 hSw; (try dsimp only at hSw); go_simp; (try with_reducible rfl))
      (try simp only [Act.put, List.getElem_toArray, List.getElem_cons_zero, List.getElem_cons_succ, List.setIfInBounds_toArray, List.set_cons_zero, List.set_cons_succ])
      refine wpAnyH_ready (rs := [0, 5]) (by kernel_rfl) (by simp) ?_
      refine AllReadyH.cons rfl (fun K hK => ?_) (AllReadyH.cons rfl (fun K hK => ?_) AllReadyH.nil)
      · go_simp
        have b_p1 := Bk.new y (.cells #[.int .i64 0, .int .i64 2, .int .i64 1, .int .i64 0] 3)
        obtain ⟨p1, h_p1⟩ : ∃ z, y.heap.size = z := ⟨_, rfl⟩
        replace hY := bal hY (.cells #[.int .i64 0, .int .i64 2, .int .i64 1, .int .i64 0] 3)
        refine hK.out _ _ (trivial) (fun hHeld => ?_)
        clear hK K
        (try simp only [Act.put, List.getElem_toArray, List.getElem_cons_zero, List.getElem_cons_succ, List.setIfInBounds_toArray, List.set_cons_zero, List.set_cons_succ])
        rw [h_p1] at b_p1
        (try rw [h_p1])
        clear h_p1
        generalize y.alloc (.cells #[.int .i64 0, .int .i64 2, .int .i64 1, .int .i64 0] 3) = y at *
        have d_p1 : y.cell? ⟨p1, 1, none⟩ = some (.int .i64 2) := b_p1.cell 1
        clear hHeld
        refine wpAnyH_strN (S' := fun w' => w'.cell? ⟨p1, 1, none⟩ = some (.int .i64 2)) (fun _ h => trivial) _ _ _ _ ?_
        have hHeld : y.cell? ⟨p1, 1, none⟩ = some (.int .i64 2) := d_p1
        refine wpAnyH_take (i := 3) (v := ?tv14023) rfl (by kernel_rfl) (by kernel_rfl) (by kernel_rfl) (fun _ _ _ h => h) (Or.inl ⟨by rfl, ?hy14023⟩) (by assumption) ?rs14023
        case hy14023 => (intro w9 hSw; (try dsimp only at hSw); go_simp; (try with_reducible rfl))
        (try simp only [Act.put, List.getElem_toArray, List.getElem_cons_zero, List.getElem_cons_succ, List.setIfInBounds_toArray, List.set_cons_zero, List.set_cons_succ])
        refine wpAnyH_take (i := 4) (v := ?tv14024) rfl (by kernel_rfl) (by kernel_rfl) (by kernel_rfl) (fun _ _ _ h => h) (Or.inl ⟨by rfl, ?hy14024⟩) (by assumption) ?rs14024
        case hy14024 => (intro w9 hSw; (try dsimp only at hSw); go_simp; (try with_reducible rfl))
        (try simp only [Act.put, List.getElem_toArray, List.getElem_cons_zero, List.getElem_cons_succ, List.setIfInBounds_toArray, List.set_cons_zero, List.set_cons_succ])
        refine wpAnyH_ready (rs := [5, 10]) (by kernel_rfl) (by simp) ?_
        refine AllReadyH.cons rfl (fun K hK => ?_) (AllReadyH.cons rfl (fun K hK => ?_) AllReadyH.nil)
        · go_simp
          have b_p2 := Bk.new y (.cells #[.int .i64 1, .int .i64 2, .int .i64 0, .int .i64 2] 3)
          obtain ⟨p2, h_p2⟩ : ∃ z, y.heap.size = z := ⟨_, rfl⟩
          replace d_p1 := cell_later (bal (Below.refl _ y) (.cells #[.int .i64 1, .int .i64 2, .int .i64 0, .int .i64 2] 3)) d_p1
          replace hY := bal hY (.cells #[.int .i64 1, .int .i64 2, .int .i64 0, .int .i64 2] 3)
          refine hK.out _ _ (d_p1) (fun hHeld => ?_)
          clear hK K
          (try simp only [Act.put, List.getElem_toArray, List.getElem_cons_zero, List.getElem_cons_succ, List.setIfInBounds_toArray, List.set_cons_zero, List.set_cons_succ])
          rw [h_p2] at b_p2
          (try rw [h_p2])
          clear h_p2
          generalize y.alloc (.cells #[.int .i64 1, .int .i64 2, .int .i64 0, .int .i64 2] 3) = y at *
          have d_p2 : y.cell? ⟨p2, 1, none⟩ = some (.int .i64 2) := b_p2.cell 1
          clear hHeld
          refine wpAnyH_strN (S' := fun w' => w'.cell? ⟨p2, 1, none⟩ = some (.int .i64 2) ∧ w'.cell? ⟨p1, 1, none⟩ = some (.int .i64 2)) (fun _ h => h.2) _ _ _ _ ?_
          have hHeld : y.cell? ⟨p2, 1, none⟩ = some (.int .i64 2) ∧ y.cell? ⟨p1, 1, none⟩ = some (.int .i64 2) := ⟨d_p2, d_p1⟩
          refine wpAnyH_take (i := 8) (v := ?tv14019) rfl (by kernel_rfl) (by kernel_rfl) (by kernel_rfl) (fun _ _ _ h => h) (Or.inl ⟨by rfl, ?hy14019⟩) (by assumption) ?rs14019
          case hy14019 => (intro w9 hSw; (try dsimp only at hSw); go_simp; (try with_reducible rfl))
          (try simp only [Act.put, List.getElem_toArray, List.getElem_cons_zero, List.getElem_cons_succ, List.setIfInBounds_toArray, List.set_cons_zero, List.set_cons_succ])
          refine wpAnyH_take (i := 9) (v := ?tv14020) rfl (by kernel_rfl) (by kernel_rfl) (by kernel_rfl) (fun _ _ _ h => h) (Or.inl ⟨by rfl, ?hy14020⟩) (by assumption) ?rs14020
          case hy14020 => (intro w9 hSw; (try dsimp only at hSw); go_simp; (try with_reducible rfl))
          (try simp only [Act.put, List.getElem_toArray, List.getElem_cons_zero, List.getElem_cons_succ, List.setIfInBounds_toArray, List.set_cons_zero, List.set_cons_succ])
          refine wpAnyH_ready (rs := [10]) (by kernel_rfl) (by simp) ?_
          refine AllReadyH.cons rfl (fun K hK => ?_) AllReadyH.nil
          go_simp
          refine hK.out _ _ (⟨d_p2, d_p1⟩) (fun hHeld => ?_)
          clear hK K
          (try simp only [Act.put, List.getElem_toArray, List.getElem_cons_zero, List.getElem_cons_succ, List.setIfInBounds_toArray, List.set_cons_zero, List.set_cons_succ])
          refine wpAnyH_ready (rs := [11]) (by kernel_rfl) (by simp) ?_
          refine AllReadyH.cons rfl (fun K hK => ?_) AllReadyH.nil
          go_simp
          refine hK.out _ _ (⟨d_p2, d_p1⟩) (fun hHeld => ?_)
          clear hK K
          (try simp only [Act.put, List.getElem_toArray, List.getElem_cons_zero, List.getElem_cons_succ, List.setIfInBounds_toArray, List.set_cons_zero, List.set_cons_succ])
          refine wpAnyH_done (by kernel_rfl) ?_ _
          clear hHeld
          (try go_wp2_with fail)
          go_meet
          exact ⟨2, 2, rfl, rfl, by simp, hY⟩
        · go_simp
          refine hK.out _ _ (d_p1) (fun hHeld => ?_)
          clear hK K
          (try simp only [Act.put, List.getElem_toArray, List.getElem_cons_zero, List.getElem_cons_succ, List.setIfInBounds_toArray, List.set_cons_zero, List.set_cons_succ])
          refine wpAnyH_ready (rs := [5]) (by kernel_rfl) (by simp) ?_
          refine AllReadyH.cons rfl (fun K hK => ?_) AllReadyH.nil
          go_simp
          have b_p2 := Bk.new y (.cells #[.int .i64 1, .int .i64 2, .int .i64 0, .int .i64 2] 3)
          obtain ⟨p2, h_p2⟩ : ∃ z, y.heap.size = z := ⟨_, rfl⟩
          replace d_p1 := cell_later (bal (Below.refl _ y) (.cells #[.int .i64 1, .int .i64 2, .int .i64 0, .int .i64 2] 3)) d_p1
          replace hY := bal hY (.cells #[.int .i64 1, .int .i64 2, .int .i64 0, .int .i64 2] 3)
          refine hK.out _ _ (d_p1) (fun hHeld => ?_)
          clear hK K
          (try simp only [Act.put, List.getElem_toArray, List.getElem_cons_zero, List.getElem_cons_succ, List.setIfInBounds_toArray, List.set_cons_zero, List.set_cons_succ])
          rw [h_p2] at b_p2
          (try rw [h_p2])
          clear h_p2
          generalize y.alloc (.cells #[.int .i64 1, .int .i64 2, .int .i64 0, .int .i64 2] 3) = y at *
          have d_p2 : y.cell? ⟨p2, 1, none⟩ = some (.int .i64 2) := b_p2.cell 1
          clear hHeld
          refine wpAnyH_strN (S' := fun w' => w'.cell? ⟨p2, 1, none⟩ = some (.int .i64 2) ∧ w'.cell? ⟨p1, 1, none⟩ = some (.int .i64 2)) (fun _ h => h.2) _ _ _ _ ?_
          have hHeld : y.cell? ⟨p2, 1, none⟩ = some (.int .i64 2) ∧ y.cell? ⟨p1, 1, none⟩ = some (.int .i64 2) := ⟨d_p2, d_p1⟩
          refine wpAnyH_take (i := 8) (v := ?tv14021) rfl (by kernel_rfl) (by kernel_rfl) (by kernel_rfl) (fun _ _ _ h => h) (Or.inl ⟨by rfl, ?hy14021⟩) (by assumption) ?rs14021
          case hy14021 => (intro w9 hSw; (try dsimp only at hSw); go_simp; (try with_reducible rfl))
          (try simp only [Act.put, List.getElem_toArray, List.getElem_cons_zero, List.getElem_cons_succ, List.setIfInBounds_toArray, List.set_cons_zero, List.set_cons_succ])
          refine wpAnyH_take (i := 9) (v := ?tv14022) rfl (by kernel_rfl) (by kernel_rfl) (by kernel_rfl) (fun _ _ _ h => h) (Or.inl ⟨by rfl, ?hy14022⟩) (by assumption) ?rs14022
          case hy14022 => (intro w9 hSw; (try dsimp only at hSw); go_simp; (try with_reducible rfl))
          (try simp only [Act.put, List.getElem_toArray, List.getElem_cons_zero, List.getElem_cons_succ, List.setIfInBounds_toArray, List.set_cons_zero, List.set_cons_succ])
          refine wpAnyH_ready (rs := [11]) (by kernel_rfl) (by simp) ?_
          refine AllReadyH.cons rfl (fun K hK => ?_) AllReadyH.nil
          go_simp
          refine hK.out _ _ (⟨d_p2, d_p1⟩) (fun hHeld => ?_)
          clear hK K
          (try simp only [Act.put, List.getElem_toArray, List.getElem_cons_zero, List.getElem_cons_succ, List.setIfInBounds_toArray, List.set_cons_zero, List.set_cons_succ])
          refine wpAnyH_done (by kernel_rfl) ?_ _
          clear hHeld
          (try go_wp2_with fail)
          go_meet
          exact ⟨2, 2, rfl, rfl, by simp, hY⟩
      · go_simp
        have b_p2 := Bk.new y (.cells #[.int .i64 1, .int .i64 2, .int .i64 0, .int .i64 2] 3)
        obtain ⟨p2, h_p2⟩ : ∃ z, y.heap.size = z := ⟨_, rfl⟩
        replace hY := bal hY (.cells #[.int .i64 1, .int .i64 2, .int .i64 0, .int .i64 2] 3)
        refine hK.out _ _ (trivial) (fun hHeld => ?_)
        clear hK K
        (try simp only [Act.put, List.getElem_toArray, List.getElem_cons_zero, List.getElem_cons_succ, List.setIfInBounds_toArray, List.set_cons_zero, List.set_cons_succ])
        rw [h_p2] at b_p2
        (try rw [h_p2])
        clear h_p2
        generalize y.alloc (.cells #[.int .i64 1, .int .i64 2, .int .i64 0, .int .i64 2] 3) = y at *
        have d_p2 : y.cell? ⟨p2, 1, none⟩ = some (.int .i64 2) := b_p2.cell 1
        clear hHeld
        refine wpAnyH_strN (S' := fun w' => w'.cell? ⟨p2, 1, none⟩ = some (.int .i64 2)) (fun _ h => trivial) _ _ _ _ ?_
        have hHeld : y.cell? ⟨p2, 1, none⟩ = some (.int .i64 2) := d_p2
        refine wpAnyH_take (i := 8) (v := ?tv14025) rfl (by kernel_rfl) (by kernel_rfl) (by kernel_rfl) (fun _ _ _ h => h) (Or.inl ⟨by rfl, ?hy14025⟩) (by assumption) ?rs14025
        case hy14025 => (intro w9 hSw; (try dsimp only at hSw); go_simp; (try with_reducible rfl))
        (try simp only [Act.put, List.getElem_toArray, List.getElem_cons_zero, List.getElem_cons_succ, List.setIfInBounds_toArray, List.set_cons_zero, List.set_cons_succ])
        refine wpAnyH_take (i := 9) (v := ?tv14026) rfl (by kernel_rfl) (by kernel_rfl) (by kernel_rfl) (fun _ _ _ h => h) (Or.inl ⟨by rfl, ?hy14026⟩) (by assumption) ?rs14026
        case hy14026 => (intro w9 hSw; (try dsimp only at hSw); go_simp; (try with_reducible rfl))
        (try simp only [Act.put, List.getElem_toArray, List.getElem_cons_zero, List.getElem_cons_succ, List.setIfInBounds_toArray, List.set_cons_zero, List.set_cons_succ])
        refine wpAnyH_ready (rs := [0]) (by kernel_rfl) (by simp) ?_
        refine AllReadyH.cons rfl (fun K hK => ?_) AllReadyH.nil
        go_simp
        have b_p1 := Bk.new y (.cells #[.int .i64 0, .int .i64 2, .int .i64 1, .int .i64 0] 3)
        obtain ⟨p1, h_p1⟩ : ∃ z, y.heap.size = z := ⟨_, rfl⟩
        replace d_p2 := cell_later (bal (Below.refl _ y) (.cells #[.int .i64 0, .int .i64 2, .int .i64 1, .int .i64 0] 3)) d_p2
        replace hY := bal hY (.cells #[.int .i64 0, .int .i64 2, .int .i64 1, .int .i64 0] 3)
        refine hK.out _ _ (d_p2) (fun hHeld => ?_)
        clear hK K
        (try simp only [Act.put, List.getElem_toArray, List.getElem_cons_zero, List.getElem_cons_succ, List.setIfInBounds_toArray, List.set_cons_zero, List.set_cons_succ])
        rw [h_p1] at b_p1
        (try rw [h_p1])
        clear h_p1
        generalize y.alloc (.cells #[.int .i64 0, .int .i64 2, .int .i64 1, .int .i64 0] 3) = y at *
        have d_p1 : y.cell? ⟨p1, 1, none⟩ = some (.int .i64 2) := b_p1.cell 1
        clear hHeld
        refine wpAnyH_strN (S' := fun w' => w'.cell? ⟨p1, 1, none⟩ = some (.int .i64 2) ∧ w'.cell? ⟨p2, 1, none⟩ = some (.int .i64 2)) (fun _ h => h.2) _ _ _ _ ?_
        have hHeld : y.cell? ⟨p1, 1, none⟩ = some (.int .i64 2) ∧ y.cell? ⟨p2, 1, none⟩ = some (.int .i64 2) := ⟨d_p1, d_p2⟩
        refine wpAnyH_take (i := 3) (v := ?tv14027) rfl (by kernel_rfl) (by kernel_rfl) (by kernel_rfl) (fun _ _ _ h => h) (Or.inl ⟨by rfl, ?hy14027⟩) (by assumption) ?rs14027
        case hy14027 => (intro w9 hSw; (try dsimp only at hSw); go_simp; (try with_reducible rfl))
        (try simp only [Act.put, List.getElem_toArray, List.getElem_cons_zero, List.getElem_cons_succ, List.setIfInBounds_toArray, List.set_cons_zero, List.set_cons_succ])
        refine wpAnyH_take (i := 4) (v := ?tv14028) rfl (by kernel_rfl) (by kernel_rfl) (by kernel_rfl) (fun _ _ _ h => h) (Or.inl ⟨by rfl, ?hy14028⟩) (by assumption) ?rs14028
        case hy14028 => (intro w9 hSw; (try dsimp only at hSw); go_simp; (try with_reducible rfl))
        (try simp only [Act.put, List.getElem_toArray, List.getElem_cons_zero, List.getElem_cons_succ, List.setIfInBounds_toArray, List.set_cons_zero, List.set_cons_succ])
        refine wpAnyH_ready (rs := [10]) (by kernel_rfl) (by simp) ?_
        refine AllReadyH.cons rfl (fun K hK => ?_) AllReadyH.nil
        go_simp
        refine hK.out _ _ (⟨d_p1, d_p2⟩) (fun hHeld => ?_)
        clear hK K
        (try simp only [Act.put, List.getElem_toArray, List.getElem_cons_zero, List.getElem_cons_succ, List.setIfInBounds_toArray, List.set_cons_zero, List.set_cons_succ])
        refine wpAnyH_ready (rs := [11]) (by kernel_rfl) (by simp) ?_
        refine AllReadyH.cons rfl (fun K hK => ?_) AllReadyH.nil
        go_simp
        refine hK.out _ _ (⟨d_p1, d_p2⟩) (fun hHeld => ?_)
        clear hK K
        (try simp only [Act.put, List.getElem_toArray, List.getElem_cons_zero, List.getElem_cons_succ, List.setIfInBounds_toArray, List.set_cons_zero, List.set_cons_succ])
        refine wpAnyH_done (by kernel_rfl) ?_ _
        clear hHeld
        (try go_wp2_with fail)
        go_meet
        exact ⟨2, 2, rfl, rfl, by simp, hY⟩
    | 2, _ =>
      have nt : (on : Int).tmod 4 = 2 := nt
      refine wp_region_held_drew (S := fun w' => True) (by kernel_rfl) trivial (fun hHeld => ?_)
      generalize W4.drew = y at *
      refine wpAnyH_take (i := 1) (v := ?tv14029) rfl (by kernel_rfl) (by kernel_rfl) (by kernel_rfl) (fun _ _ _ h => h) (Or.inl ⟨by rfl, ?hy14029⟩) (by assumption) ?rs14029
      case hy14029 => (intro w9 hSw; (try dsimp only at hSw); go_simp; (try with_reducible rfl))
      (try simp only [Act.put, List.getElem_toArray, List.getElem_cons_zero, List.getElem_cons_succ, List.setIfInBounds_toArray, List.set_cons_zero, List.set_cons_succ])
      refine wpAnyH_take (i := 2) (v := ?tv14030) rfl (by kernel_rfl) (by kernel_rfl) (by kernel_rfl) (fun _ _ _ h => h) (Or.inl ⟨by rfl, ?hy14030⟩) (by assumption) ?rs14030
      case hy14030 => (intro w9 hSw; (try dsimp only at hSw); go_simp; (try with_reducible rfl))
      (try simp only [Act.put, List.getElem_toArray, List.getElem_cons_zero, List.getElem_cons_succ, List.setIfInBounds_toArray, List.set_cons_zero, List.set_cons_succ])
      refine wpAnyH_take (i := 6) (v := ?tv14031) rfl (by kernel_rfl) (by kernel_rfl) (by kernel_rfl) (fun _ _ _ h => h) (Or.inl ⟨by rfl, ?hy14031⟩) (by assumption) ?rs14031
      case hy14031 => (intro w9 hSw; (try dsimp only at hSw); go_simp; (try with_reducible rfl))
      (try simp only [Act.put, List.getElem_toArray, List.getElem_cons_zero, List.getElem_cons_succ, List.setIfInBounds_toArray, List.set_cons_zero, List.set_cons_succ])
      refine wpAnyH_take (i := 7) (v := ?tv14032) rfl (by kernel_rfl) (by kernel_rfl) (by kernel_rfl) (fun _ _ _ h => h) (Or.inl ⟨by rfl, ?hy14032⟩) (by assumption) ?rs14032
      case hy14032 => (intro w9 hSw; (try dsimp only at hSw); go_simp; (try with_reducible rfl))
      (try simp only [Act.put, List.getElem_toArray, List.getElem_cons_zero, List.getElem_cons_succ, List.setIfInBounds_toArray, List.set_cons_zero, List.set_cons_succ])
      refine wpAnyH_ready (rs := [0, 5]) (by kernel_rfl) (by simp) ?_
      refine AllReadyH.cons rfl (fun K hK => ?_) (AllReadyH.cons rfl (fun K hK => ?_) AllReadyH.nil)
      · go_simp
        have b_p1 := Bk.new y (.cells #[.int .i64 0, .int .i64 2, .int .i64 1, .int .i64 0] 3)
        obtain ⟨p1, h_p1⟩ : ∃ z, y.heap.size = z := ⟨_, rfl⟩
        replace hY := bal hY (.cells #[.int .i64 0, .int .i64 2, .int .i64 1, .int .i64 0] 3)
        refine hK.out _ _ (trivial) (fun hHeld => ?_)
        clear hK K
        (try simp only [Act.put, List.getElem_toArray, List.getElem_cons_zero, List.getElem_cons_succ, List.setIfInBounds_toArray, List.set_cons_zero, List.set_cons_succ])
        rw [h_p1] at b_p1
        (try rw [h_p1])
        clear h_p1
        generalize y.alloc (.cells #[.int .i64 0, .int .i64 2, .int .i64 1, .int .i64 0] 3) = y at *
        have d_p1 : y.cell? ⟨p1, 2, none⟩ = some (.int .i64 1) := b_p1.cell 2
        clear hHeld
        refine wpAnyH_strN (S' := fun w' => w'.cell? ⟨p1, 2, none⟩ = some (.int .i64 1)) (fun _ h => trivial) _ _ _ _ ?_
        have hHeld : y.cell? ⟨p1, 2, none⟩ = some (.int .i64 1) := d_p1
        refine wpAnyH_take (i := 3) (v := ?tv14037) rfl (by kernel_rfl) (by kernel_rfl) (by kernel_rfl) (fun _ _ _ h => h) (Or.inl ⟨by rfl, ?hy14037⟩) (by assumption) ?rs14037
        case hy14037 => (intro w9 hSw; (try dsimp only at hSw); go_simp; (try with_reducible rfl))
        (try simp only [Act.put, List.getElem_toArray, List.getElem_cons_zero, List.getElem_cons_succ, List.setIfInBounds_toArray, List.set_cons_zero, List.set_cons_succ])
        refine wpAnyH_take (i := 4) (v := ?tv14038) rfl (by kernel_rfl) (by kernel_rfl) (by kernel_rfl) (fun _ _ _ h => h) (Or.inl ⟨by rfl, ?hy14038⟩) (by assumption) ?rs14038
        case hy14038 => (intro w9 hSw; (try dsimp only at hSw); go_simp; (try with_reducible rfl))
        (try simp only [Act.put, List.getElem_toArray, List.getElem_cons_zero, List.getElem_cons_succ, List.setIfInBounds_toArray, List.set_cons_zero, List.set_cons_succ])
        refine wpAnyH_ready (rs := [5, 10]) (by kernel_rfl) (by simp) ?_
        refine AllReadyH.cons rfl (fun K hK => ?_) (AllReadyH.cons rfl (fun K hK => ?_) AllReadyH.nil)
        · go_simp
          have b_p2 := Bk.new y (.cells #[.int .i64 1, .int .i64 2, .int .i64 0, .int .i64 2] 3)
          obtain ⟨p2, h_p2⟩ : ∃ z, y.heap.size = z := ⟨_, rfl⟩
          replace d_p1 := cell_later (bal (Below.refl _ y) (.cells #[.int .i64 1, .int .i64 2, .int .i64 0, .int .i64 2] 3)) d_p1
          replace hY := bal hY (.cells #[.int .i64 1, .int .i64 2, .int .i64 0, .int .i64 2] 3)
          refine hK.out _ _ (d_p1) (fun hHeld => ?_)
          clear hK K
          (try simp only [Act.put, List.getElem_toArray, List.getElem_cons_zero, List.getElem_cons_succ, List.setIfInBounds_toArray, List.set_cons_zero, List.set_cons_succ])
          rw [h_p2] at b_p2
          (try rw [h_p2])
          clear h_p2
          generalize y.alloc (.cells #[.int .i64 1, .int .i64 2, .int .i64 0, .int .i64 2] 3) = y at *
          have d_p2 : y.cell? ⟨p2, 2, none⟩ = some (.int .i64 0) := b_p2.cell 2
          clear hHeld
          refine wpAnyH_strN (S' := fun w' => w'.cell? ⟨p2, 2, none⟩ = some (.int .i64 0) ∧ w'.cell? ⟨p1, 2, none⟩ = some (.int .i64 1)) (fun _ h => h.2) _ _ _ _ ?_
          have hHeld : y.cell? ⟨p2, 2, none⟩ = some (.int .i64 0) ∧ y.cell? ⟨p1, 2, none⟩ = some (.int .i64 1) := ⟨d_p2, d_p1⟩
          refine wpAnyH_take (i := 8) (v := ?tv14033) rfl (by kernel_rfl) (by kernel_rfl) (by kernel_rfl) (fun _ _ _ h => h) (Or.inl ⟨by rfl, ?hy14033⟩) (by assumption) ?rs14033
          case hy14033 => (intro w9 hSw; (try dsimp only at hSw); go_simp; (try with_reducible rfl))
          (try simp only [Act.put, List.getElem_toArray, List.getElem_cons_zero, List.getElem_cons_succ, List.setIfInBounds_toArray, List.set_cons_zero, List.set_cons_succ])
          refine wpAnyH_take (i := 9) (v := ?tv14034) rfl (by kernel_rfl) (by kernel_rfl) (by kernel_rfl) (fun _ _ _ h => h) (Or.inl ⟨by rfl, ?hy14034⟩) (by assumption) ?rs14034
          case hy14034 => (intro w9 hSw; (try dsimp only at hSw); go_simp; (try with_reducible rfl))
          (try simp only [Act.put, List.getElem_toArray, List.getElem_cons_zero, List.getElem_cons_succ, List.setIfInBounds_toArray, List.set_cons_zero, List.set_cons_succ])
          refine wpAnyH_ready (rs := [10]) (by kernel_rfl) (by simp) ?_
          refine AllReadyH.cons rfl (fun K hK => ?_) AllReadyH.nil
          go_simp
          refine hK.out _ _ (⟨d_p2, d_p1⟩) (fun hHeld => ?_)
          clear hK K
          (try simp only [Act.put, List.getElem_toArray, List.getElem_cons_zero, List.getElem_cons_succ, List.setIfInBounds_toArray, List.set_cons_zero, List.set_cons_succ])
          refine wpAnyH_ready (rs := [11]) (by kernel_rfl) (by simp) ?_
          refine AllReadyH.cons rfl (fun K hK => ?_) AllReadyH.nil
          go_simp
          refine hK.out _ _ (⟨d_p2, d_p1⟩) (fun hHeld => ?_)
          clear hK K
          (try simp only [Act.put, List.getElem_toArray, List.getElem_cons_zero, List.getElem_cons_succ, List.setIfInBounds_toArray, List.set_cons_zero, List.set_cons_succ])
          refine wpAnyH_done (by kernel_rfl) ?_ _
          clear hHeld
          (try go_wp2_with fail)
          go_meet
          exact ⟨1, 0, rfl, rfl, by simp, hY⟩
        · go_simp
          refine hK.out _ _ (d_p1) (fun hHeld => ?_)
          clear hK K
          (try simp only [Act.put, List.getElem_toArray, List.getElem_cons_zero, List.getElem_cons_succ, List.setIfInBounds_toArray, List.set_cons_zero, List.set_cons_succ])
          refine wpAnyH_ready (rs := [5]) (by kernel_rfl) (by simp) ?_
          refine AllReadyH.cons rfl (fun K hK => ?_) AllReadyH.nil
          go_simp
          have b_p2 := Bk.new y (.cells #[.int .i64 1, .int .i64 2, .int .i64 0, .int .i64 2] 3)
          obtain ⟨p2, h_p2⟩ : ∃ z, y.heap.size = z := ⟨_, rfl⟩
          replace d_p1 := cell_later (bal (Below.refl _ y) (.cells #[.int .i64 1, .int .i64 2, .int .i64 0, .int .i64 2] 3)) d_p1
          replace hY := bal hY (.cells #[.int .i64 1, .int .i64 2, .int .i64 0, .int .i64 2] 3)
          refine hK.out _ _ (d_p1) (fun hHeld => ?_)
          clear hK K
          (try simp only [Act.put, List.getElem_toArray, List.getElem_cons_zero, List.getElem_cons_succ, List.setIfInBounds_toArray, List.set_cons_zero, List.set_cons_succ])
          rw [h_p2] at b_p2
          (try rw [h_p2])
          clear h_p2
          generalize y.alloc (.cells #[.int .i64 1, .int .i64 2, .int .i64 0, .int .i64 2] 3) = y at *
          have d_p2 : y.cell? ⟨p2, 2, none⟩ = some (.int .i64 0) := b_p2.cell 2
          clear hHeld
          refine wpAnyH_strN (S' := fun w' => w'.cell? ⟨p2, 2, none⟩ = some (.int .i64 0) ∧ w'.cell? ⟨p1, 2, none⟩ = some (.int .i64 1)) (fun _ h => h.2) _ _ _ _ ?_
          have hHeld : y.cell? ⟨p2, 2, none⟩ = some (.int .i64 0) ∧ y.cell? ⟨p1, 2, none⟩ = some (.int .i64 1) := ⟨d_p2, d_p1⟩
          refine wpAnyH_take (i := 8) (v := ?tv14035) rfl (by kernel_rfl) (by kernel_rfl) (by kernel_rfl) (fun _ _ _ h => h) (Or.inl ⟨by rfl, ?hy14035⟩) (by assumption) ?rs14035
          case hy14035 => (intro w9 hSw; (try dsimp only at hSw); go_simp; (try with_reducible rfl))
          (try simp only [Act.put, List.getElem_toArray, List.getElem_cons_zero, List.getElem_cons_succ, List.setIfInBounds_toArray, List.set_cons_zero, List.set_cons_succ])
          refine wpAnyH_take (i := 9) (v := ?tv14036) rfl (by kernel_rfl) (by kernel_rfl) (by kernel_rfl) (fun _ _ _ h => h) (Or.inl ⟨by rfl, ?hy14036⟩) (by assumption) ?rs14036
          case hy14036 => (intro w9 hSw; (try dsimp only at hSw); go_simp; (try with_reducible rfl))
          (try simp only [Act.put, List.getElem_toArray, List.getElem_cons_zero, List.getElem_cons_succ, List.setIfInBounds_toArray, List.set_cons_zero, List.set_cons_succ])
          refine wpAnyH_ready (rs := [11]) (by kernel_rfl) (by simp) ?_
          refine AllReadyH.cons rfl (fun K hK => ?_) AllReadyH.nil
          go_simp
          refine hK.out _ _ (⟨d_p2, d_p1⟩) (fun hHeld => ?_)
          clear hK K
          (try simp only [Act.put, List.getElem_toArray, List.getElem_cons_zero, List.getElem_cons_succ, List.setIfInBounds_toArray, List.set_cons_zero, List.set_cons_succ])
          refine wpAnyH_done (by kernel_rfl) ?_ _
          clear hHeld
          (try go_wp2_with fail)
          go_meet
          exact ⟨1, 0, rfl, rfl, by simp, hY⟩
      · go_simp
        have b_p2 := Bk.new y (.cells #[.int .i64 1, .int .i64 2, .int .i64 0, .int .i64 2] 3)
        obtain ⟨p2, h_p2⟩ : ∃ z, y.heap.size = z := ⟨_, rfl⟩
        replace hY := bal hY (.cells #[.int .i64 1, .int .i64 2, .int .i64 0, .int .i64 2] 3)
        refine hK.out _ _ (trivial) (fun hHeld => ?_)
        clear hK K
        (try simp only [Act.put, List.getElem_toArray, List.getElem_cons_zero, List.getElem_cons_succ, List.setIfInBounds_toArray, List.set_cons_zero, List.set_cons_succ])
        rw [h_p2] at b_p2
        (try rw [h_p2])
        clear h_p2
        generalize y.alloc (.cells #[.int .i64 1, .int .i64 2, .int .i64 0, .int .i64 2] 3) = y at *
        have d_p2 : y.cell? ⟨p2, 2, none⟩ = some (.int .i64 0) := b_p2.cell 2
        clear hHeld
        refine wpAnyH_strN (S' := fun w' => w'.cell? ⟨p2, 2, none⟩ = some (.int .i64 0)) (fun _ h => trivial) _ _ _ _ ?_
        have hHeld : y.cell? ⟨p2, 2, none⟩ = some (.int .i64 0) := d_p2
        refine wpAnyH_take (i := 8) (v := ?tv14039) rfl (by kernel_rfl) (by kernel_rfl) (by kernel_rfl) (fun _ _ _ h => h) (Or.inl ⟨by rfl, ?hy14039⟩) (by assumption) ?rs14039
        case hy14039 => (intro w9 hSw; (try dsimp only at hSw); go_simp; (try with_reducible rfl))
        (try simp only [Act.put, List.getElem_toArray, List.getElem_cons_zero, List.getElem_cons_succ, List.setIfInBounds_toArray, List.set_cons_zero, List.set_cons_succ])
        refine wpAnyH_take (i := 9) (v := ?tv14040) rfl (by kernel_rfl) (by kernel_rfl) (by kernel_rfl) (fun _ _ _ h => h) (Or.inl ⟨by rfl, ?hy14040⟩) (by assumption) ?rs14040
        case hy14040 => (intro w9 hSw; (try dsimp only at hSw); go_simp; (try with_reducible rfl))
        (try simp only [Act.put, List.getElem_toArray, List.getElem_cons_zero, List.getElem_cons_succ, List.setIfInBounds_toArray, List.set_cons_zero, List.set_cons_succ])
        refine wpAnyH_ready (rs := [0]) (by kernel_rfl) (by simp) ?_
        refine AllReadyH.cons rfl (fun K hK => ?_) AllReadyH.nil
        go_simp
        have b_p1 := Bk.new y (.cells #[.int .i64 0, .int .i64 2, .int .i64 1, .int .i64 0] 3)
        obtain ⟨p1, h_p1⟩ : ∃ z, y.heap.size = z := ⟨_, rfl⟩
        replace d_p2 := cell_later (bal (Below.refl _ y) (.cells #[.int .i64 0, .int .i64 2, .int .i64 1, .int .i64 0] 3)) d_p2
        replace hY := bal hY (.cells #[.int .i64 0, .int .i64 2, .int .i64 1, .int .i64 0] 3)
        refine hK.out _ _ (d_p2) (fun hHeld => ?_)
        clear hK K
        (try simp only [Act.put, List.getElem_toArray, List.getElem_cons_zero, List.getElem_cons_succ, List.setIfInBounds_toArray, List.set_cons_zero, List.set_cons_succ])
        rw [h_p1] at b_p1
        (try rw [h_p1])
        clear h_p1
        generalize y.alloc (.cells #[.int .i64 0, .int .i64 2, .int .i64 1, .int .i64 0] 3) = y at *
        have d_p1 : y.cell? ⟨p1, 2, none⟩ = some (.int .i64 1) := b_p1.cell 2
        clear hHeld
        refine wpAnyH_strN (S' := fun w' => w'.cell? ⟨p1, 2, none⟩ = some (.int .i64 1) ∧ w'.cell? ⟨p2, 2, none⟩ = some (.int .i64 0)) (fun _ h => h.2) _ _ _ _ ?_
        have hHeld : y.cell? ⟨p1, 2, none⟩ = some (.int .i64 1) ∧ y.cell? ⟨p2, 2, none⟩ = some (.int .i64 0) := ⟨d_p1, d_p2⟩
        refine wpAnyH_take (i := 3) (v := ?tv14041) rfl (by kernel_rfl) (by kernel_rfl) (by kernel_rfl) (fun _ _ _ h => h) (Or.inl ⟨by rfl, ?hy14041⟩) (by assumption) ?rs14041
        case hy14041 => (intro w9 hSw; (try dsimp only at hSw); go_simp; (try with_reducible rfl))
        (try simp only [Act.put, List.getElem_toArray, List.getElem_cons_zero, List.getElem_cons_succ, List.setIfInBounds_toArray, List.set_cons_zero, List.set_cons_succ])
        refine wpAnyH_take (i := 4) (v := ?tv14042) rfl (by kernel_rfl) (by kernel_rfl) (by kernel_rfl) (fun _ _ _ h => h) (Or.inl ⟨by rfl, ?hy14042⟩) (by assumption) ?rs14042
        case hy14042 => (intro w9 hSw; (try dsimp only at hSw); go_simp; (try with_reducible rfl))
        (try simp only [Act.put, List.getElem_toArray, List.getElem_cons_zero, List.getElem_cons_succ, List.setIfInBounds_toArray, List.set_cons_zero, List.set_cons_succ])
        refine wpAnyH_ready (rs := [10]) (by kernel_rfl) (by simp) ?_
        refine AllReadyH.cons rfl (fun K hK => ?_) AllReadyH.nil
        go_simp
        refine hK.out _ _ (⟨d_p1, d_p2⟩) (fun hHeld => ?_)
        clear hK K
        (try simp only [Act.put, List.getElem_toArray, List.getElem_cons_zero, List.getElem_cons_succ, List.setIfInBounds_toArray, List.set_cons_zero, List.set_cons_succ])
        refine wpAnyH_ready (rs := [11]) (by kernel_rfl) (by simp) ?_
        refine AllReadyH.cons rfl (fun K hK => ?_) AllReadyH.nil
        go_simp
        refine hK.out _ _ (⟨d_p1, d_p2⟩) (fun hHeld => ?_)
        clear hK K
        (try simp only [Act.put, List.getElem_toArray, List.getElem_cons_zero, List.getElem_cons_succ, List.setIfInBounds_toArray, List.set_cons_zero, List.set_cons_succ])
        refine wpAnyH_done (by kernel_rfl) ?_ _
        clear hHeld
        (try go_wp2_with fail)
        go_meet
        exact ⟨1, 0, rfl, rfl, by simp, hY⟩
    | 3, _ =>
      have nt : (on : Int).tmod 4 = 3 := nt
      refine wp_region_held_drew (S := fun w' => True) (by kernel_rfl) trivial (fun hHeld => ?_)
      generalize W4.drew = y at *
      refine wpAnyH_take (i := 1) (v := ?tv14043) rfl (by kernel_rfl) (by kernel_rfl) (by kernel_rfl) (fun _ _ _ h => h) (Or.inl ⟨by rfl, ?hy14043⟩) (by assumption) ?rs14043
      case hy14043 => (intro w9 hSw; (try dsimp only at hSw); go_simp; (try with_reducible rfl))
      (try simp only [Act.put, List.getElem_toArray, List.getElem_cons_zero, List.getElem_cons_succ, List.setIfInBounds_toArray, List.set_cons_zero, List.set_cons_succ])
      refine wpAnyH_take (i := 2) (v := ?tv14044) rfl (by kernel_rfl) (by kernel_rfl) (by kernel_rfl) (fun _ _ _ h => h) (Or.inl ⟨by rfl, ?hy14044⟩) (by assumption) ?rs14044
      case hy14044 => (intro w9 hSw; (try dsimp only at hSw); go_simp; (try with_reducible rfl))
      (try simp only [Act.put, List.getElem_toArray, List.getElem_cons_zero, List.getElem_cons_succ, List.setIfInBounds_toArray, List.set_cons_zero, List.set_cons_succ])
      refine wpAnyH_take (i := 6) (v := ?tv14045) rfl (by kernel_rfl) (by kernel_rfl) (by kernel_rfl) (fun _ _ _ h => h) (Or.inl ⟨by rfl, ?hy14045⟩) (by assumption) ?rs14045
      case hy14045 => (intro w9 hSw; (try dsimp only at hSw); go_simp; (try with_reducible rfl))
      (try simp only [Act.put, List.getElem_toArray, List.getElem_cons_zero, List.getElem_cons_succ, List.setIfInBounds_toArray, List.set_cons_zero, List.set_cons_succ])
      refine wpAnyH_take (i := 7) (v := ?tv14046) rfl (by kernel_rfl) (by kernel_rfl) (by kernel_rfl) (fun _ _ _ h => h) (Or.inl ⟨by rfl, ?hy14046⟩) (by assumption) ?rs14046
      case hy14046 => (intro w9 hSw; (try dsimp only at hSw); go_simp; (try with_reducible rfl))
      (try simp only [Act.put, List.getElem_toArray, List.getElem_cons_zero, List.getElem_cons_succ, List.setIfInBounds_toArray, List.set_cons_zero, List.set_cons_succ])
      refine wpAnyH_ready (rs := [0, 5]) (by kernel_rfl) (by simp) ?_
      refine AllReadyH.cons rfl (fun K hK => ?_) (AllReadyH.cons rfl (fun K hK => ?_) AllReadyH.nil)
      · go_simp
        have b_p1 := Bk.new y (.cells #[.int .i64 0, .int .i64 2, .int .i64 1, .int .i64 0] 3)
        obtain ⟨p1, h_p1⟩ : ∃ z, y.heap.size = z := ⟨_, rfl⟩
        replace hY := bal hY (.cells #[.int .i64 0, .int .i64 2, .int .i64 1, .int .i64 0] 3)
        refine hK.out _ _ (trivial) (fun hHeld => ?_)
        clear hK K
        (try simp only [Act.put, List.getElem_toArray, List.getElem_cons_zero, List.getElem_cons_succ, List.setIfInBounds_toArray, List.set_cons_zero, List.set_cons_succ])
        rw [h_p1] at b_p1
        (try rw [h_p1])
        clear h_p1
        generalize y.alloc (.cells #[.int .i64 0, .int .i64 2, .int .i64 1, .int .i64 0] 3) = y at *
        have d_p1 : y.cell? ⟨p1, 3, none⟩ = some (.int .i64 0) := b_p1.cell 3
        clear hHeld
        refine wpAnyH_strN (S' := fun w' => w'.cell? ⟨p1, 3, none⟩ = some (.int .i64 0)) (fun _ h => trivial) _ _ _ _ ?_
        have hHeld : y.cell? ⟨p1, 3, none⟩ = some (.int .i64 0) := d_p1
        refine wpAnyH_take (i := 3) (v := ?tv14051) rfl (by kernel_rfl) (by kernel_rfl) (by kernel_rfl) (fun _ _ _ h => h) (Or.inl ⟨by rfl, ?hy14051⟩) (by assumption) ?rs14051
        case hy14051 => (intro w9 hSw; (try dsimp only at hSw); go_simp; (try with_reducible rfl))
        (try simp only [Act.put, List.getElem_toArray, List.getElem_cons_zero, List.getElem_cons_succ, List.setIfInBounds_toArray, List.set_cons_zero, List.set_cons_succ])
        refine wpAnyH_take (i := 4) (v := ?tv14052) rfl (by kernel_rfl) (by kernel_rfl) (by kernel_rfl) (fun _ _ _ h => h) (Or.inl ⟨by rfl, ?hy14052⟩) (by assumption) ?rs14052
        case hy14052 => (intro w9 hSw; (try dsimp only at hSw); go_simp; (try with_reducible rfl))
        (try simp only [Act.put, List.getElem_toArray, List.getElem_cons_zero, List.getElem_cons_succ, List.setIfInBounds_toArray, List.set_cons_zero, List.set_cons_succ])
        refine wpAnyH_ready (rs := [5, 10]) (by kernel_rfl) (by simp) ?_
        refine AllReadyH.cons rfl (fun K hK => ?_) (AllReadyH.cons rfl (fun K hK => ?_) AllReadyH.nil)
        · go_simp
          have b_p2 := Bk.new y (.cells #[.int .i64 1, .int .i64 2, .int .i64 0, .int .i64 2] 3)
          obtain ⟨p2, h_p2⟩ : ∃ z, y.heap.size = z := ⟨_, rfl⟩
          replace d_p1 := cell_later (bal (Below.refl _ y) (.cells #[.int .i64 1, .int .i64 2, .int .i64 0, .int .i64 2] 3)) d_p1
          replace hY := bal hY (.cells #[.int .i64 1, .int .i64 2, .int .i64 0, .int .i64 2] 3)
          refine hK.out _ _ (d_p1) (fun hHeld => ?_)
          clear hK K
          (try simp only [Act.put, List.getElem_toArray, List.getElem_cons_zero, List.getElem_cons_succ, List.setIfInBounds_toArray, List.set_cons_zero, List.set_cons_succ])
          rw [h_p2] at b_p2
          (try rw [h_p2])
          clear h_p2
          generalize y.alloc (.cells #[.int .i64 1, .int .i64 2, .int .i64 0, .int .i64 2] 3) = y at *
          have d_p2 : y.cell? ⟨p2, 3, none⟩ = some (.int .i64 2) := b_p2.cell 3
          clear hHeld
          refine wpAnyH_strN (S' := fun w' => w'.cell? ⟨p2, 3, none⟩ = some (.int .i64 2) ∧ w'.cell? ⟨p1, 3, none⟩ = some (.int .i64 0)) (fun _ h => h.2) _ _ _ _ ?_
          have hHeld : y.cell? ⟨p2, 3, none⟩ = some (.int .i64 2) ∧ y.cell? ⟨p1, 3, none⟩ = some (.int .i64 0) := ⟨d_p2, d_p1⟩
          refine wpAnyH_take (i := 8) (v := ?tv14047) rfl (by kernel_rfl) (by kernel_rfl) (by kernel_rfl) (fun _ _ _ h => h) (Or.inl ⟨by rfl, ?hy14047⟩) (by assumption) ?rs14047
          case hy14047 => (intro w9 hSw; (try dsimp only at hSw); go_simp; (try with_reducible rfl))
          (try simp only [Act.put, List.getElem_toArray, List.getElem_cons_zero, List.getElem_cons_succ, List.setIfInBounds_toArray, List.set_cons_zero, List.set_cons_succ])
          refine wpAnyH_take (i := 9) (v := ?tv14048) rfl (by kernel_rfl) (by kernel_rfl) (by kernel_rfl) (fun _ _ _ h => h) (Or.inl ⟨by rfl, ?hy14048⟩) (by assumption) ?rs14048
          case hy14048 => (intro w9 hSw; (try dsimp only at hSw); go_simp; (try with_reducible rfl))
          (try simp only [Act.put, List.getElem_toArray, List.getElem_cons_zero, List.getElem_cons_succ, List.setIfInBounds_toArray, List.set_cons_zero, List.set_cons_succ])
          refine wpAnyH_ready (rs := [10]) (by kernel_rfl) (by simp) ?_
          refine AllReadyH.cons rfl (fun K hK => ?_) AllReadyH.nil
          go_simp
          refine hK.out _ _ (⟨d_p2, d_p1⟩) (fun hHeld => ?_)
          clear hK K
          (try simp only [Act.put, List.getElem_toArray, List.getElem_cons_zero, List.getElem_cons_succ, List.setIfInBounds_toArray, List.set_cons_zero, List.set_cons_succ])
          refine wpAnyH_ready (rs := [11]) (by kernel_rfl) (by simp) ?_
          refine AllReadyH.cons rfl (fun K hK => ?_) AllReadyH.nil
          go_simp
          refine hK.out _ _ (⟨d_p2, d_p1⟩) (fun hHeld => ?_)
          clear hK K
          (try simp only [Act.put, List.getElem_toArray, List.getElem_cons_zero, List.getElem_cons_succ, List.setIfInBounds_toArray, List.set_cons_zero, List.set_cons_succ])
          refine wpAnyH_done (by kernel_rfl) ?_ _
          clear hHeld
          (try go_wp2_with fail)
          go_meet
          exact ⟨0, 2, rfl, rfl, by simp, hY⟩
        · go_simp
          refine hK.out _ _ (d_p1) (fun hHeld => ?_)
          clear hK K
          (try simp only [Act.put, List.getElem_toArray, List.getElem_cons_zero, List.getElem_cons_succ, List.setIfInBounds_toArray, List.set_cons_zero, List.set_cons_succ])
          refine wpAnyH_ready (rs := [5]) (by kernel_rfl) (by simp) ?_
          refine AllReadyH.cons rfl (fun K hK => ?_) AllReadyH.nil
          go_simp
          have b_p2 := Bk.new y (.cells #[.int .i64 1, .int .i64 2, .int .i64 0, .int .i64 2] 3)
          obtain ⟨p2, h_p2⟩ : ∃ z, y.heap.size = z := ⟨_, rfl⟩
          replace d_p1 := cell_later (bal (Below.refl _ y) (.cells #[.int .i64 1, .int .i64 2, .int .i64 0, .int .i64 2] 3)) d_p1
          replace hY := bal hY (.cells #[.int .i64 1, .int .i64 2, .int .i64 0, .int .i64 2] 3)
          refine hK.out _ _ (d_p1) (fun hHeld => ?_)
          clear hK K
          (try simp only [Act.put, List.getElem_toArray, List.getElem_cons_zero, List.getElem_cons_succ, List.setIfInBounds_toArray, List.set_cons_zero, List.set_cons_succ])
          rw [h_p2] at b_p2
          (try rw [h_p2])
          clear h_p2
          generalize y.alloc (.cells #[.int .i64 1, .int .i64 2, .int .i64 0, .int .i64 2] 3) = y at *
          have d_p2 : y.cell? ⟨p2, 3, none⟩ = some (.int .i64 2) := b_p2.cell 3
          clear hHeld
          refine wpAnyH_strN (S' := fun w' => w'.cell? ⟨p2, 3, none⟩ = some (.int .i64 2) ∧ w'.cell? ⟨p1, 3, none⟩ = some (.int .i64 0)) (fun _ h => h.2) _ _ _ _ ?_
          have hHeld : y.cell? ⟨p2, 3, none⟩ = some (.int .i64 2) ∧ y.cell? ⟨p1, 3, none⟩ = some (.int .i64 0) := ⟨d_p2, d_p1⟩
          refine wpAnyH_take (i := 8) (v := ?tv14049) rfl (by kernel_rfl) (by kernel_rfl) (by kernel_rfl) (fun _ _ _ h => h) (Or.inl ⟨by rfl, ?hy14049⟩) (by assumption) ?rs14049
          case hy14049 => (intro w9 hSw; (try dsimp only at hSw); go_simp; (try with_reducible rfl))
          (try simp only [Act.put, List.getElem_toArray, List.getElem_cons_zero, List.getElem_cons_succ, List.setIfInBounds_toArray, List.set_cons_zero, List.set_cons_succ])
          refine wpAnyH_take (i := 9) (v := ?tv14050) rfl (by kernel_rfl) (by kernel_rfl) (by kernel_rfl) (fun _ _ _ h => h) (Or.inl ⟨by rfl, ?hy14050⟩) (by assumption) ?rs14050
          case hy14050 => (intro w9 hSw; (try dsimp only at hSw); go_simp; (try with_reducible rfl))
          (try simp only [Act.put, List.getElem_toArray, List.getElem_cons_zero, List.getElem_cons_succ, List.setIfInBounds_toArray, List.set_cons_zero, List.set_cons_succ])
          refine wpAnyH_ready (rs := [11]) (by kernel_rfl) (by simp) ?_
          refine AllReadyH.cons rfl (fun K hK => ?_) AllReadyH.nil
          go_simp
          refine hK.out _ _ (⟨d_p2, d_p1⟩) (fun hHeld => ?_)
          clear hK K
          (try simp only [Act.put, List.getElem_toArray, List.getElem_cons_zero, List.getElem_cons_succ, List.setIfInBounds_toArray, List.set_cons_zero, List.set_cons_succ])
          refine wpAnyH_done (by kernel_rfl) ?_ _
          clear hHeld
          (try go_wp2_with fail)
          go_meet
          exact ⟨0, 2, rfl, rfl, by simp, hY⟩
      · go_simp
        have b_p2 := Bk.new y (.cells #[.int .i64 1, .int .i64 2, .int .i64 0, .int .i64 2] 3)
        obtain ⟨p2, h_p2⟩ : ∃ z, y.heap.size = z := ⟨_, rfl⟩
        replace hY := bal hY (.cells #[.int .i64 1, .int .i64 2, .int .i64 0, .int .i64 2] 3)
        refine hK.out _ _ (trivial) (fun hHeld => ?_)
        clear hK K
        (try simp only [Act.put, List.getElem_toArray, List.getElem_cons_zero, List.getElem_cons_succ, List.setIfInBounds_toArray, List.set_cons_zero, List.set_cons_succ])
        rw [h_p2] at b_p2
        (try rw [h_p2])
        clear h_p2
        generalize y.alloc (.cells #[.int .i64 1, .int .i64 2, .int .i64 0, .int .i64 2] 3) = y at *
        have d_p2 : y.cell? ⟨p2, 3, none⟩ = some (.int .i64 2) := b_p2.cell 3
        clear hHeld
        refine wpAnyH_strN (S' := fun w' => w'.cell? ⟨p2, 3, none⟩ = some (.int .i64 2)) (fun _ h => trivial) _ _ _ _ ?_
        have hHeld : y.cell? ⟨p2, 3, none⟩ = some (.int .i64 2) := d_p2
        refine wpAnyH_take (i := 8) (v := ?tv14053) rfl (by kernel_rfl) (by kernel_rfl) (by kernel_rfl) (fun _ _ _ h => h) (Or.inl ⟨by rfl, ?hy14053⟩) (by assumption) ?rs14053
        case hy14053 => (intro w9 hSw; (try dsimp only at hSw); go_simp; (try with_reducible rfl))
        (try simp only [Act.put, List.getElem_toArray, List.getElem_cons_zero, List.getElem_cons_succ, List.setIfInBounds_toArray, List.set_cons_zero, List.set_cons_succ])
        refine wpAnyH_take (i := 9) (v := ?tv14054) rfl (by kernel_rfl) (by kernel_rfl) (by kernel_rfl) (fun _ _ _ h => h) (Or.inl ⟨by rfl, ?hy14054⟩) (by assumption) ?rs14054
        case hy14054 => (intro w9 hSw; (try dsimp only at hSw); go_simp; (try with_reducible rfl))
        (try simp only [Act.put, List.getElem_toArray, List.getElem_cons_zero, List.getElem_cons_succ, List.setIfInBounds_toArray, List.set_cons_zero, List.set_cons_succ])
        refine wpAnyH_ready (rs := [0]) (by kernel_rfl) (by simp) ?_
        refine AllReadyH.cons rfl (fun K hK => ?_) AllReadyH.nil
        go_simp
        have b_p1 := Bk.new y (.cells #[.int .i64 0, .int .i64 2, .int .i64 1, .int .i64 0] 3)
        obtain ⟨p1, h_p1⟩ : ∃ z, y.heap.size = z := ⟨_, rfl⟩
        replace d_p2 := cell_later (bal (Below.refl _ y) (.cells #[.int .i64 0, .int .i64 2, .int .i64 1, .int .i64 0] 3)) d_p2
        replace hY := bal hY (.cells #[.int .i64 0, .int .i64 2, .int .i64 1, .int .i64 0] 3)
        refine hK.out _ _ (d_p2) (fun hHeld => ?_)
        clear hK K
        (try simp only [Act.put, List.getElem_toArray, List.getElem_cons_zero, List.getElem_cons_succ, List.setIfInBounds_toArray, List.set_cons_zero, List.set_cons_succ])
        rw [h_p1] at b_p1
        (try rw [h_p1])
        clear h_p1
        generalize y.alloc (.cells #[.int .i64 0, .int .i64 2, .int .i64 1, .int .i64 0] 3) = y at *
        have d_p1 : y.cell? ⟨p1, 3, none⟩ = some (.int .i64 0) := b_p1.cell 3
        clear hHeld
        refine wpAnyH_strN (S' := fun w' => w'.cell? ⟨p1, 3, none⟩ = some (.int .i64 0) ∧ w'.cell? ⟨p2, 3, none⟩ = some (.int .i64 2)) (fun _ h => h.2) _ _ _ _ ?_
        have hHeld : y.cell? ⟨p1, 3, none⟩ = some (.int .i64 0) ∧ y.cell? ⟨p2, 3, none⟩ = some (.int .i64 2) := ⟨d_p1, d_p2⟩
        refine wpAnyH_take (i := 3) (v := ?tv14055) rfl (by kernel_rfl) (by kernel_rfl) (by kernel_rfl) (fun _ _ _ h => h) (Or.inl ⟨by rfl, ?hy14055⟩) (by assumption) ?rs14055
        case hy14055 => (intro w9 hSw; (try dsimp only at hSw); go_simp; (try with_reducible rfl))
        (try simp only [Act.put, List.getElem_toArray, List.getElem_cons_zero, List.getElem_cons_succ, List.setIfInBounds_toArray, List.set_cons_zero, List.set_cons_succ])
        refine wpAnyH_take (i := 4) (v := ?tv14056) rfl (by kernel_rfl) (by kernel_rfl) (by kernel_rfl) (fun _ _ _ h => h) (Or.inl ⟨by rfl, ?hy14056⟩) (by assumption) ?rs14056
        case hy14056 => (intro w9 hSw; (try dsimp only at hSw); go_simp; (try with_reducible rfl))
        (try simp only [Act.put, List.getElem_toArray, List.getElem_cons_zero, List.getElem_cons_succ, List.setIfInBounds_toArray, List.set_cons_zero, List.set_cons_succ])
        refine wpAnyH_ready (rs := [10]) (by kernel_rfl) (by simp) ?_
        refine AllReadyH.cons rfl (fun K hK => ?_) AllReadyH.nil
        go_simp
        refine hK.out _ _ (⟨d_p1, d_p2⟩) (fun hHeld => ?_)
        clear hK K
        (try simp only [Act.put, List.getElem_toArray, List.getElem_cons_zero, List.getElem_cons_succ, List.setIfInBounds_toArray, List.set_cons_zero, List.set_cons_succ])
        refine wpAnyH_ready (rs := [11]) (by kernel_rfl) (by simp) ?_
        refine AllReadyH.cons rfl (fun K hK => ?_) AllReadyH.nil
        go_simp
        refine hK.out _ _ (⟨d_p1, d_p2⟩) (fun hHeld => ?_)
        clear hK K
        (try simp only [Act.put, List.getElem_toArray, List.getElem_cons_zero, List.getElem_cons_succ, List.setIfInBounds_toArray, List.set_cons_zero, List.set_cons_succ])
        refine wpAnyH_done (by kernel_rfl) ?_ _
        clear hHeld
        (try go_wp2_with fail)
        go_meet
        exact ⟨0, 2, rfl, rfl, by simp, hY⟩
  case rest =>
  obtain ⟨ma, mb, rfl, rfl, hmm, hb5⟩ := hcut
  have hma : ma < 3 := by omega
  have hmb : mb < 3 := by omega
  replace hw := Below.on hw hb5
  replace HTb : Hid (∀ w', Below wc.heap.size wc w' → RowIs eCol (fun _ => True) w' (.slice ca 3 cc) tbT.cols ∧ RowIs eStr (fun _ => True) w' (.slice xa xn xc) tbT.index ∧ RowIs eCol (fun _ => True) w' (.slice ua 3 uc) tbU.cols ∧ RowIs eStr (fun _ => True) w' (.slice ya yn yc) tbU.index) := hid fun w' hb => HTb.out w' (Below.on hb5 hb)
  replace t0 := cell_later hb5 t0
  replace t1 := cell_later hb5 t1
  replace t2 := cell_later hb5 t2
  replace u0 := cell_later hb5 u0
  replace u1 := cell_later hb5 u1
  replace u2 := cell_later hb5 u2
  replace rL := rL.keep (w' := wc) (by decide) fun b _ hl => hb5.block b hl
  replace rR := rR.keep (w' := wc) (by decide) fun b _ hl => hb5.block b hl
  clear hb5
  generalize hwc : wc = W5 at *
  clear hwc
  obtain ⟨bco, oco, hca, k0, -, -⟩ := col1 (HTb.out W5 (Below.refl _ _)).1 (k := ma) hma
  obtain ⟨buo, ouo, hua, j0, -, -⟩ := col1 (HTb.out W5 (Below.refl _ _)).2.2.1 (k := mb) hmb
  subst hca hua
  have hP : naP (scP [tbT, tbU]) (xCl ⟨#[116]⟩ (tbT.cols[ma]'hma).1) = ((ma : Int), 0) ∧ naP (scP [tbT, tbU]) (xCl ⟨#[117]⟩ (tbU.cols[mb]'hmb).1) = (((3 + mb : Nat) : Int), 0) := by
    rcases hmm with ⟨rfl, rfl⟩ | ⟨rfl, rfl⟩ | ⟨rfl, rfl⟩ | ⟨rfl, rfl⟩ 
    · exact pr01
    · exact pr22
    · exact pr10
    · exact pr02
  obtain ⟨na, hna⟩ : ∃ na, (tbT.cols[ma]'hma).1 = na := ⟨_, rfl⟩
  obtain ⟨nb, hnb⟩ : ∃ nb, (tbU.cols[mb]'hmb).1 = nb := ⟨_, rfl⟩
  rw [hna] at k0 hP
  rw [hnb] at j0 hP
  have HP : Hid _ := hid hP
  have hka : (ma : Int) < (3 : Int) := by omega
  have hkb : (mb : Int) < (3 : Int) := by omega
  clear hmm hna hnb hP
  go_upto_region 9 with fail
  go_cut [14] (fun v14 w' => ∃ q14 qi, v14 = .pointer (some ⟨q14, 0, none⟩) ∧ Bk w' q14 (.cells #[.int .i64 6, .string ⟨#[116]⟩, .string ⟨#[]⟩, .slice none 0 0, .slice none 0 0, .slice none 0 0, .slice none 0 0, .string ⟨#[117]⟩, .slice (some ⟨qi, 0, none⟩) 2 2, .slice none 0 0, .slice none 0 0, .bool false, .slice none 0 0] 47) ∧ Bk w' qi (.cells #[.int .i64 2, .int .i64 0, .int .i64 0, .string ⟨#[]⟩, .string ⟨#[116]⟩, .string na, .slice none 0 0, .int .i64 2, .int .i64 0, .int .i64 0, .string ⟨#[]⟩, .string ⟨#[117]⟩, .string nb, .slice none 0 0] 42) ∧ Below W5.heap.size W5 w')
  case first =>
    clear HTb rL rR HokL HokR HP
    have hY : Below W5.heap.size W5 W5.drew := (Below.refl _ W5).drew
    have h8q : q8 < W5.heap.size := World.block_lt_of_cell? _ _ t1
    have h9q : q9 < W5.heap.size := World.block_lt_of_cell? _ _ u1
    have hbo : bco < W5.heap.size := World.block_lt_of_cell? _ _ k0
    have hbu : buo < W5.heap.size := World.block_lt_of_cell? _ _ j0
    refine wp_region_held_drew (S := fun w' => w'.cell? ⟨q8, 1, none⟩ = some (.slice (some ⟨bco, oco, none⟩) 3 cc) ∧ w'.cell? ⟨q9, 1, none⟩ = some (.slice (some ⟨buo, ouo, none⟩) 3 uc) ∧ w'.cell? ⟨bco, oco + ma * 3, none⟩ = some (.string na) ∧ w'.cell? ⟨buo, ouo + mb * 3, none⟩ = some (.string nb)) (by kernel_rfl) (⟨cell_later hY t1, cell_later hY u1, cell_later hY k0, cell_later hY j0⟩) (fun hHeld => ?_)
    generalize W5.drew = y at *
    refine wpAnyH_take (i := 0) (v := ?tv14081) rfl (by kernel_rfl) (by kernel_rfl) (by kernel_rfl) (fun _ _ _ h => h) (Or.inl ⟨by rfl, ?hy14081⟩) (by assumption) ?rs14081
    case hy14081 => (intro w9 hSw; (try dsimp only at hSw); go_simp; (try with_reducible rfl))
    (try simp only [Act.put, List.getElem_toArray, List.getElem_cons_zero, List.getElem_cons_succ, List.setIfInBounds_toArray, List.set_cons_zero, List.set_cons_succ])
    refine wpAnyH_take (i := 1) (v := ?tv14082) rfl (by kernel_rfl) (by kernel_rfl) (by kernel_rfl) (fun _ _ _ h => h) (Or.inl ⟨by rfl, ?hy14082⟩) (by assumption) ?rs14082
    case hy14082 => (intro w9 hSw; (try dsimp only at hSw); go_simp; (try with_reducible rfl))
    (try simp only [Act.put, List.getElem_toArray, List.getElem_cons_zero, List.getElem_cons_succ, List.setIfInBounds_toArray, List.set_cons_zero, List.set_cons_succ])
    refine wpAnyH_take (i := 2) (v := ?tv14083) rfl (by kernel_rfl) (by kernel_rfl) (by kernel_rfl) (fun _ _ _ h => h) (Or.inl ⟨by rfl, ?hy14083⟩) (by assumption) ?rs14083
    case hy14083 => (intro w9 hSw; (try dsimp only at hSw); go_simp; (try with_reducible rfl))
    (try simp only [Act.put, List.getElem_toArray, List.getElem_cons_zero, List.getElem_cons_succ, List.setIfInBounds_toArray, List.set_cons_zero, List.set_cons_succ])
    refine wpAnyH_take (i := 3) (v := ?tv14084) rfl (by kernel_rfl) (by kernel_rfl) (by kernel_rfl) (fun _ _ _ h => h) (Or.inl ⟨by rfl, ?hy14084⟩) (by assumption) ?rs14084
    case hy14084 => (intro w9 hSw; (try dsimp only at hSw); go_simp; (try with_reducible rfl))
    (try simp only [Act.put, List.getElem_toArray, List.getElem_cons_zero, List.getElem_cons_succ, List.setIfInBounds_toArray, List.set_cons_zero, List.set_cons_succ])
    refine wpAnyH_take (i := 4) (v := ?tv14085) rfl (by kernel_rfl) (by kernel_rfl) (by kernel_rfl) (fun _ _ _ h => h) (Or.inl ⟨by rfl, ?hy14085⟩) (by assumption) ?rs14085
    case hy14085 => (intro w9 hSw; (try dsimp only at hSw); go_simp; (try with_reducible rfl))
    (try simp only [Act.put, List.getElem_toArray, List.getElem_cons_zero, List.getElem_cons_succ, List.setIfInBounds_toArray, List.set_cons_zero, List.set_cons_succ])
    refine wpAnyH_take (i := 5) (v := ?tv14086) rfl (by kernel_rfl) (by kernel_rfl) (by kernel_rfl) (fun _ _ _ h => h) (Or.inl ⟨by rfl, ?hy14086⟩) (by assumption) ?rs14086
    case hy14086 => (intro w9 hSw; (try dsimp only at hSw); go_simp; (try with_reducible rfl))
    (try simp only [Act.put, List.getElem_toArray, List.getElem_cons_zero, List.getElem_cons_succ, List.setIfInBounds_toArray, List.set_cons_zero, List.set_cons_succ])
    refine wpAnyH_take (i := 6) (v := ?tv14087) rfl (by kernel_rfl) (by kernel_rfl) (by kernel_rfl) (fun _ _ _ h => h) (Or.inl ⟨by rfl, ?hy14087⟩) (by assumption) ?rs14087
    case hy14087 => (intro w9 hSw; (try dsimp only at hSw); go_simp; (try with_reducible rfl))
    (try simp only [Act.put, List.getElem_toArray, List.getElem_cons_zero, List.getElem_cons_succ, List.setIfInBounds_toArray, List.set_cons_zero, List.set_cons_succ])
    refine wpAnyH_take (i := 7) (v := ?tv14088) rfl (by kernel_rfl) (by kernel_rfl) (by kernel_rfl) (fun _ _ _ h => h) (Or.inl ⟨by rfl, ?hy14088⟩) (by assumption) ?rs14088
    case hy14088 => (intro w9 hSw; (try dsimp only at hSw); go_simp; (try with_reducible rfl))
    (try simp only [Act.put, List.getElem_toArray, List.getElem_cons_zero, List.getElem_cons_succ, List.setIfInBounds_toArray, List.set_cons_zero, List.set_cons_succ])
    refine wpAnyH_take (i := 8) (v := ?tv14089) rfl (by kernel_rfl) (by kernel_rfl) (by kernel_rfl) (fun _ _ _ h => h) (Or.inl ⟨by rfl, ?hy14089⟩) (by assumption) ?rs14089
    case hy14089 => (intro w9 hSw; (try dsimp only at hSw); go_simp; (try with_reducible rfl))
    (try simp only [Act.put, List.getElem_toArray, List.getElem_cons_zero, List.getElem_cons_succ, List.setIfInBounds_toArray, List.set_cons_zero, List.set_cons_succ])
    refine wpAnyH_take (i := 9) (v := ?tv14090) rfl (by kernel_rfl) (by kernel_rfl) (by kernel_rfl) (fun _ _ _ h => h) (Or.inl ⟨by rfl, ?hy14090⟩) (by assumption) ?rs14090
    case hy14090 => (intro w9 hSw; (try dsimp only at hSw); go_simp; (try with_reducible rfl))
    (try simp only [Act.put, List.getElem_toArray, List.getElem_cons_zero, List.getElem_cons_succ, List.setIfInBounds_toArray, List.set_cons_zero, List.set_cons_succ])
    refine wpAnyH_take (i := 10) (v := ?tv14091) rfl (by kernel_rfl) (by kernel_rfl) (by kernel_rfl) (fun _ _ _ h => h) (Or.inl ⟨by rfl, ?hy14091⟩) (by assumption) ?rs14091
    case hy14091 => (intro w9 hSw; (try dsimp only at hSw); go_simp; (try with_reducible rfl))
    (try simp only [Act.put, List.getElem_toArray, List.getElem_cons_zero, List.getElem_cons_succ, List.setIfInBounds_toArray, List.set_cons_zero, List.set_cons_succ])
    refine wpAnyH_take (i := 11) (v := ?tv14092) rfl (by kernel_rfl) (by kernel_rfl) (by kernel_rfl) (fun _ _ _ h => h) (Or.inl ⟨by rfl, ?hy14092⟩) (by assumption) ?rs14092
    case hy14092 => (intro w9 hSw; (try dsimp only at hSw); go_simp; (try with_reducible rfl))
    (try simp only [Act.put, List.getElem_toArray, List.getElem_cons_zero, List.getElem_cons_succ, List.setIfInBounds_toArray, List.set_cons_zero, List.set_cons_succ])
    refine wpAnyH_take (i := 12) (v := ?tv14093) rfl (by kernel_rfl) (by kernel_rfl) (by kernel_rfl) (fun _ _ _ h => h) (Or.inl ⟨by rfl, ?hy14093⟩) (by assumption) ?rs14093
    case hy14093 => (intro w9 hSw; (try dsimp only at hSw); go_simp; (try with_reducible rfl))
    (try simp only [Act.put, List.getElem_toArray, List.getElem_cons_zero, List.getElem_cons_succ, List.setIfInBounds_toArray, List.set_cons_zero, List.set_cons_succ])
    refine wpAnyH_take (i := 13) (v := ?tv14094) rfl (by kernel_rfl) (by kernel_rfl) (by kernel_rfl) (fun _ _ _ h => h) (Or.inl ⟨by rfl, ?hy14094⟩) (by assumption) ?rs14094
    case hy14094 => (intro w9 hSw; (try dsimp only at hSw); go_simp; (try with_reducible rfl))
    (try simp only [Act.put, List.getElem_toArray, List.getElem_cons_zero, List.getElem_cons_succ, List.setIfInBounds_toArray, List.set_cons_zero, List.set_cons_succ])
    refine wpAnyH_ready (rs := [14, 16]) (by kernel_rfl) (by simp) ?_
    refine AllReadyH.cons rfl (fun K hK => ?_) (AllReadyH.cons rfl (fun K hK => ?_) AllReadyH.nil)
    · go_simp
      have b_qi := Bk.new y (.cells #[.int .i64 2, .int .i64 0, .int .i64 0, .string ⟨#[]⟩, .string ⟨#[116]⟩, .string na, .slice none 0 0, .int .i64 2, .int .i64 0, .int .i64 0, .string ⟨#[]⟩, .string ⟨#[117]⟩, .string nb, .slice none 0 0] 42)
      obtain ⟨qi, h_qi⟩ : ∃ z, y.heap.size = z := ⟨_, rfl⟩
      have l_qi : W5.heap.size ≤ qi := by rw [← h_qi]; exact hY.size
      replace hY := bal hY (.cells #[.int .i64 2, .int .i64 0, .int .i64 0, .string ⟨#[]⟩, .string ⟨#[116]⟩, .string na, .slice none 0 0, .int .i64 2, .int .i64 0, .int .i64 0, .string ⟨#[]⟩, .string ⟨#[117]⟩, .string nb, .slice none 0 0] 42)
      refine hK.out _ _ (⟨cell_later hY t1, cell_later hY u1, cell_later hY k0, cell_later hY j0⟩) (fun hHeld => ?_)
      clear hK K
      (try simp only [Act.put, List.getElem_toArray, List.getElem_cons_zero, List.getElem_cons_succ, List.setIfInBounds_toArray, List.set_cons_zero, List.set_cons_succ])
      rw [h_qi] at b_qi
      (try rw [h_qi])
      clear h_qi
      generalize y.alloc (.cells #[.int .i64 2, .int .i64 0, .int .i64 0, .string ⟨#[]⟩, .string ⟨#[116]⟩, .string na, .slice none 0 0, .int .i64 2, .int .i64 0, .int .i64 0, .string ⟨#[]⟩, .string ⟨#[117]⟩, .string nb, .slice none 0 0] 42) = y at *
      refine wpAnyH_take (i := 15) (v := ?tv14095) rfl (by kernel_rfl) (by kernel_rfl) (by kernel_rfl) (fun _ _ _ h => h) (Or.inl ⟨by rfl, ?hy14095⟩) (by assumption) ?rs14095
      case hy14095 => (intro w9 hSw; (try dsimp only at hSw); go_simp; (try with_reducible rfl))
      (try simp only [Act.put, List.getElem_toArray, List.getElem_cons_zero, List.getElem_cons_succ, List.setIfInBounds_toArray, List.set_cons_zero, List.set_cons_succ])
      refine wpAnyH_ready (rs := [16]) (by kernel_rfl) (by simp) ?_
      refine AllReadyH.cons rfl (fun K hK => ?_) AllReadyH.nil
      go_simp
      have b_q14 := Bk.new y (.cells #[.int .i64 0, .string ⟨#[]⟩, .string ⟨#[]⟩, .slice none 0 0, .slice none 0 0, .slice none 0 0, .slice none 0 0, .string ⟨#[]⟩, .slice none 0 0, .slice none 0 0, .slice none 0 0, .bool false, .slice none 0 0] 47)
      obtain ⟨q14, h_q14⟩ : ∃ z, y.heap.size = z := ⟨_, rfl⟩
      have l_q14 : W5.heap.size ≤ q14 := by rw [← h_q14]; exact hY.size
      have n_q14 : qi < q14 := by rw [← h_q14]; exact b_qi.lt
      replace b_qi := b_qi.later (bal (Below.refl _ y) (.cells #[.int .i64 0, .string ⟨#[]⟩, .string ⟨#[]⟩, .slice none 0 0, .slice none 0 0, .slice none 0 0, .slice none 0 0, .string ⟨#[]⟩, .slice none 0 0, .slice none 0 0, .slice none 0 0, .bool false, .slice none 0 0] 47))
      replace hY := bal hY (.cells #[.int .i64 0, .string ⟨#[]⟩, .string ⟨#[]⟩, .slice none 0 0, .slice none 0 0, .slice none 0 0, .slice none 0 0, .string ⟨#[]⟩, .slice none 0 0, .slice none 0 0, .slice none 0 0, .bool false, .slice none 0 0] 47)
      refine hK.out _ _ (⟨cell_later hY t1, cell_later hY u1, cell_later hY k0, cell_later hY j0⟩) (fun hHeld => ?_)
      clear hK K
      (try simp only [Act.put, List.getElem_toArray, List.getElem_cons_zero, List.getElem_cons_succ, List.setIfInBounds_toArray, List.set_cons_zero, List.set_cons_succ])
      rw [h_q14] at b_q14
      (try rw [h_q14])
      clear h_q14
      generalize y.alloc (.cells #[.int .i64 0, .string ⟨#[]⟩, .string ⟨#[]⟩, .slice none 0 0, .slice none 0 0, .slice none 0 0, .slice none 0 0, .string ⟨#[]⟩, .slice none 0 0, .slice none 0 0, .slice none 0 0, .bool false, .slice none 0 0] 47) = y at *
      refine wpAnyH_ready (rs := [17]) (by kernel_rfl) (by simp) ?_
      refine AllReadyH.cons rfl (fun K hK => ?_) AllReadyH.nil
      have hth : (y).there q14 0 13 := b_q14.there rfl
      rw [if_pos (by rfl)]
      refine wp_store_mid _ _ _ rfl q14 0 (List.toArray [.int .i64 6, .string ⟨#[116]⟩, .string ⟨#[]⟩, .slice none 0 0, .slice none 0 0, .slice none 0 0, .slice none 0 0, .string ⟨#[117]⟩, .slice (some ⟨qi, 0, none⟩) 2 2, .slice none 0 0, .slice none 0 0, .bool false, .slice none 0 0]) rfl rfl hth (by kernel_rfl) (by simp [Value.oneCell']) ?_
      show K _ (stW (y) q14 [.int .i64 6, .string ⟨#[116]⟩, .string ⟨#[]⟩, .slice none 0 0, .slice none 0 0, .slice none 0 0, .slice none 0 0, .string ⟨#[117]⟩, .slice (some ⟨qi, 0, none⟩) 2 2, .slice none 0 0, .slice none 0 0, .bool false, .slice none 0 0])
      refine hK.out _ _ (⟨stW_far (by omega) (cell_later hY t1), stW_far (by omega) (cell_later hY u1), stW_far (by omega) (cell_later hY k0), stW_far (by omega) (cell_later hY j0)⟩) (fun hHeld => ?_)
      clear hK K hth
      (try simp only [Act.put, List.getElem_toArray, List.getElem_cons_zero, List.getElem_cons_succ, List.setIfInBounds_toArray, List.set_cons_zero, List.set_cons_succ])
      refine wpAnyH_done (by kernel_rfl) ?_ _
      clear hHeld
      have bz : Bk (stW y q14 [.int .i64 6, .string ⟨#[116]⟩, .string ⟨#[]⟩, .slice none 0 0, .slice none 0 0, .slice none 0 0, .slice none 0 0, .string ⟨#[117]⟩, .slice (some ⟨qi, 0, none⟩) 2 2, .slice none 0 0, .slice none 0 0, .bool false, .slice none 0 0]) q14 (.cells #[.int .i64 6, .string ⟨#[116]⟩, .string ⟨#[]⟩, .slice none 0 0, .slice none 0 0, .slice none 0 0, .slice none 0 0, .string ⟨#[117]⟩, .slice (some ⟨qi, 0, none⟩) 2 2, .slice none 0 0, .slice none 0 0, .bool false, .slice none 0 0] 47) := b_q14.st13 _ _ _ _ _ _ _ _ _ _ _ _ _
      have biz : Bk (stW y q14 [.int .i64 6, .string ⟨#[116]⟩, .string ⟨#[]⟩, .slice none 0 0, .slice none 0 0, .slice none 0 0, .slice none 0 0, .string ⟨#[117]⟩, .slice (some ⟨qi, 0, none⟩) 2 2, .slice none 0 0, .slice none 0 0, .bool false, .slice none 0 0]) qi (.cells #[.int .i64 2, .int .i64 0, .int .i64 0, .string ⟨#[]⟩, .string ⟨#[116]⟩, .string na, .slice none 0 0, .int .i64 2, .int .i64 0, .int .i64 0, .string ⟨#[]⟩, .string ⟨#[117]⟩, .string nb, .slice none 0 0] 42) := ⟨(stW_heap (by omega)).trans b_qi.row⟩
      have hBz := stW_below (l := [.int .i64 6, .string ⟨#[116]⟩, .string ⟨#[]⟩, .slice none 0 0, .slice none 0 0, .slice none 0 0, .slice none 0 0, .string ⟨#[117]⟩, .slice (some ⟨qi, 0, none⟩) 2 2, .slice none 0 0, .slice none 0 0, .bool false, .slice none 0 0]) (b := q14) hY l_q14
      (try go_wp2_with fail)
      go_meet
      exact ⟨q14, qi, rfl, bz, biz, hBz⟩
    · go_simp
      have b_q14 := Bk.new y (.cells #[.int .i64 0, .string ⟨#[]⟩, .string ⟨#[]⟩, .slice none 0 0, .slice none 0 0, .slice none 0 0, .slice none 0 0, .string ⟨#[]⟩, .slice none 0 0, .slice none 0 0, .slice none 0 0, .bool false, .slice none 0 0] 47)
      obtain ⟨q14, h_q14⟩ : ∃ z, y.heap.size = z := ⟨_, rfl⟩
      have l_q14 : W5.heap.size ≤ q14 := by rw [← h_q14]; exact hY.size
      replace hY := bal hY (.cells #[.int .i64 0, .string ⟨#[]⟩, .string ⟨#[]⟩, .slice none 0 0, .slice none 0 0, .slice none 0 0, .slice none 0 0, .string ⟨#[]⟩, .slice none 0 0, .slice none 0 0, .slice none 0 0, .bool false, .slice none 0 0] 47)
      refine hK.out _ _ (⟨cell_later hY t1, cell_later hY u1, cell_later hY k0, cell_later hY j0⟩) (fun hHeld => ?_)
      clear hK K
      (try simp only [Act.put, List.getElem_toArray, List.getElem_cons_zero, List.getElem_cons_succ, List.setIfInBounds_toArray, List.set_cons_zero, List.set_cons_succ])
      rw [h_q14] at b_q14
      (try rw [h_q14])
      clear h_q14
      generalize y.alloc (.cells #[.int .i64 0, .string ⟨#[]⟩, .string ⟨#[]⟩, .slice none 0 0, .slice none 0 0, .slice none 0 0, .slice none 0 0, .string ⟨#[]⟩, .slice none 0 0, .slice none 0 0, .slice none 0 0, .bool false, .slice none 0 0] 47) = y at *
      refine wpAnyH_ready (rs := [14]) (by kernel_rfl) (by simp) ?_
      refine AllReadyH.cons rfl (fun K hK => ?_) AllReadyH.nil
      go_simp
      have b_qi := Bk.new y (.cells #[.int .i64 2, .int .i64 0, .int .i64 0, .string ⟨#[]⟩, .string ⟨#[116]⟩, .string na, .slice none 0 0, .int .i64 2, .int .i64 0, .int .i64 0, .string ⟨#[]⟩, .string ⟨#[117]⟩, .string nb, .slice none 0 0] 42)
      obtain ⟨qi, h_qi⟩ : ∃ z, y.heap.size = z := ⟨_, rfl⟩
      have l_qi : W5.heap.size ≤ qi := by rw [← h_qi]; exact hY.size
      have n_qi : q14 < qi := by rw [← h_qi]; exact b_q14.lt
      replace b_q14 := b_q14.later (bal (Below.refl _ y) (.cells #[.int .i64 2, .int .i64 0, .int .i64 0, .string ⟨#[]⟩, .string ⟨#[116]⟩, .string na, .slice none 0 0, .int .i64 2, .int .i64 0, .int .i64 0, .string ⟨#[]⟩, .string ⟨#[117]⟩, .string nb, .slice none 0 0] 42))
      replace hY := bal hY (.cells #[.int .i64 2, .int .i64 0, .int .i64 0, .string ⟨#[]⟩, .string ⟨#[116]⟩, .string na, .slice none 0 0, .int .i64 2, .int .i64 0, .int .i64 0, .string ⟨#[]⟩, .string ⟨#[117]⟩, .string nb, .slice none 0 0] 42)
      refine hK.out _ _ (⟨cell_later hY t1, cell_later hY u1, cell_later hY k0, cell_later hY j0⟩) (fun hHeld => ?_)
      clear hK K
      (try simp only [Act.put, List.getElem_toArray, List.getElem_cons_zero, List.getElem_cons_succ, List.setIfInBounds_toArray, List.set_cons_zero, List.set_cons_succ])
      rw [h_qi] at b_qi
      (try rw [h_qi])
      clear h_qi
      generalize y.alloc (.cells #[.int .i64 2, .int .i64 0, .int .i64 0, .string ⟨#[]⟩, .string ⟨#[116]⟩, .string na, .slice none 0 0, .int .i64 2, .int .i64 0, .int .i64 0, .string ⟨#[]⟩, .string ⟨#[117]⟩, .string nb, .slice none 0 0] 42) = y at *
      refine wpAnyH_take (i := 15) (v := ?tv14096) rfl (by kernel_rfl) (by kernel_rfl) (by kernel_rfl) (fun _ _ _ h => h) (Or.inl ⟨by rfl, ?hy14096⟩) (by assumption) ?rs14096
      case hy14096 => (intro w9 hSw; (try dsimp only at hSw); go_simp; (try with_reducible rfl))
      (try simp only [Act.put, List.getElem_toArray, List.getElem_cons_zero, List.getElem_cons_succ, List.setIfInBounds_toArray, List.set_cons_zero, List.set_cons_succ])
      refine wpAnyH_ready (rs := [17]) (by kernel_rfl) (by simp) ?_
      refine AllReadyH.cons rfl (fun K hK => ?_) AllReadyH.nil
      have hth : (y).there q14 0 13 := b_q14.there rfl
      rw [if_pos (by rfl)]
      refine wp_store_mid _ _ _ rfl q14 0 (List.toArray [.int .i64 6, .string ⟨#[116]⟩, .string ⟨#[]⟩, .slice none 0 0, .slice none 0 0, .slice none 0 0, .slice none 0 0, .string ⟨#[117]⟩, .slice (some ⟨qi, 0, none⟩) 2 2, .slice none 0 0, .slice none 0 0, .bool false, .slice none 0 0]) rfl rfl hth (by kernel_rfl) (by simp [Value.oneCell']) ?_
      show K _ (stW (y) q14 [.int .i64 6, .string ⟨#[116]⟩, .string ⟨#[]⟩, .slice none 0 0, .slice none 0 0, .slice none 0 0, .slice none 0 0, .string ⟨#[117]⟩, .slice (some ⟨qi, 0, none⟩) 2 2, .slice none 0 0, .slice none 0 0, .bool false, .slice none 0 0])
      refine hK.out _ _ (⟨stW_far (by omega) (cell_later hY t1), stW_far (by omega) (cell_later hY u1), stW_far (by omega) (cell_later hY k0), stW_far (by omega) (cell_later hY j0)⟩) (fun hHeld => ?_)
      clear hK K hth
      (try simp only [Act.put, List.getElem_toArray, List.getElem_cons_zero, List.getElem_cons_succ, List.setIfInBounds_toArray, List.set_cons_zero, List.set_cons_succ])
      refine wpAnyH_done (by kernel_rfl) ?_ _
      clear hHeld
      have bz : Bk (stW y q14 [.int .i64 6, .string ⟨#[116]⟩, .string ⟨#[]⟩, .slice none 0 0, .slice none 0 0, .slice none 0 0, .slice none 0 0, .string ⟨#[117]⟩, .slice (some ⟨qi, 0, none⟩) 2 2, .slice none 0 0, .slice none 0 0, .bool false, .slice none 0 0]) q14 (.cells #[.int .i64 6, .string ⟨#[116]⟩, .string ⟨#[]⟩, .slice none 0 0, .slice none 0 0, .slice none 0 0, .slice none 0 0, .string ⟨#[117]⟩, .slice (some ⟨qi, 0, none⟩) 2 2, .slice none 0 0, .slice none 0 0, .bool false, .slice none 0 0] 47) := b_q14.st13 _ _ _ _ _ _ _ _ _ _ _ _ _
      have biz : Bk (stW y q14 [.int .i64 6, .string ⟨#[116]⟩, .string ⟨#[]⟩, .slice none 0 0, .slice none 0 0, .slice none 0 0, .slice none 0 0, .string ⟨#[117]⟩, .slice (some ⟨qi, 0, none⟩) 2 2, .slice none 0 0, .slice none 0 0, .bool false, .slice none 0 0]) qi (.cells #[.int .i64 2, .int .i64 0, .int .i64 0, .string ⟨#[]⟩, .string ⟨#[116]⟩, .string na, .slice none 0 0, .int .i64 2, .int .i64 0, .int .i64 0, .string ⟨#[]⟩, .string ⟨#[117]⟩, .string nb, .slice none 0 0] 42) := ⟨(stW_heap (by omega)).trans b_qi.row⟩
      have hBz := stW_below (l := [.int .i64 6, .string ⟨#[116]⟩, .string ⟨#[]⟩, .slice none 0 0, .slice none 0 0, .slice none 0 0, .slice none 0 0, .string ⟨#[117]⟩, .slice (some ⟨qi, 0, none⟩) 2 2, .slice none 0 0, .slice none 0 0, .bool false, .slice none 0 0]) (b := q14) hY l_q14
      (try go_wp2_with fail)
      go_meet
      exact ⟨q14, qi, rfl, bz, biz, hBz⟩
  case rest =>
  obtain ⟨q14, qi, rfl, b14, bi, hb6⟩ := hcut
  replace hw := Below.on hw hb6
  replace t0 := cell_later hb6 t0
  replace t1 := cell_later hb6 t1
  replace t2 := cell_later hb6 t2
  replace u0 := cell_later hb6 u0
  replace u1 := cell_later hb6 u1
  replace u2 := cell_later hb6 u2
  replace rL := rL.keep (w' := wc) (by decide) fun b _ hl => hb6.block b hl
  replace rR := rR.keep (w' := wc) (by decide) fun b _ hl => hb6.block b hl
  obtain ⟨-, lc1, lc2⟩ := row_lens rL
  obtain ⟨-, rc1, rc2⟩ := row_lens rR
  have hTb := HTb.out wc hb6
  have ron := ex2_row bi
  obtain ⟨s0, s1, s2, s3, s4, s5, s6, s7, s8, s9, s10, s11, s12⟩ : wc.cell? ⟨q14, 0, none⟩ = some (.int .i64 6) ∧ wc.cell? ⟨q14, 1, none⟩ = some (.string ⟨#[116]⟩) ∧ wc.cell? ⟨q14, 2, none⟩ = some (.string ⟨#[]⟩) ∧ wc.cell? ⟨q14, 3, none⟩ = some (.slice none 0 0) ∧ wc.cell? ⟨q14, 4, none⟩ = some (.slice none 0 0) ∧ wc.cell? ⟨q14, 5, none⟩ = some (.slice none 0 0) ∧ wc.cell? ⟨q14, 6, none⟩ = some (.slice none 0 0) ∧ wc.cell? ⟨q14, 7, none⟩ = some (.string ⟨#[117]⟩) ∧ wc.cell? ⟨q14, 8, none⟩ = some (.slice (some ⟨qi, 0, none⟩) 2 2) ∧ wc.cell? ⟨q14, 9, none⟩ = some (.slice none 0 0) ∧ wc.cell? ⟨q14, 10, none⟩ = some (.slice none 0 0) ∧ wc.cell? ⟨q14, 11, none⟩ = some (.bool false) ∧ wc.cell? ⟨q14, 12, none⟩ = some (.slice none 0 0) := ⟨b14.cell 0, b14.cell 1, b14.cell 2, b14.cell 3, b14.cell 4, b14.cell 5, b14.cell 6, b14.cell 7, b14.cell 8, b14.cell 9, b14.cell 10, b14.cell 11, b14.cell 12⟩
  have HSel : Hid (∀ w', Below wc.heap.size wc w' → Calls Tryz.prog 7 #[.agg #[.int .i64 6, .string ⟨#[116]⟩, .string ⟨#[]⟩, .slice none 0 0, .slice none 0 0, .slice none 0 0, .slice none 0 0, .string ⟨#[117]⟩, .slice (some ⟨qi, 0, none⟩) 2 2, .slice none 0 0, .slice none 0 0, .bool false, .slice none 0 0], .agg #[.string ⟨#[116]⟩, .slice (some ⟨bco, oco, none⟩) 3 cc, .slice xa xn xc], .agg #[.string ⟨#[117]⟩, .slice (some ⟨buo, ouo, none⟩) 3 uc, .slice ya yn yc], .slice la L.length lc, .slice ra R.length rc] w' (TeSel w' 0 (prsP L R ma (3 + mb)))) := hid fun w' hb =>
    selJ_any (s := ⟨6, ⟨#[116]⟩, ⟨#[]⟩, (none, 0, 0), (none, 0, 0), (none, 0, 0), (none, 0, 0), ⟨#[117]⟩, (some ⟨qi, 0, none⟩, 2, 2), (none, 0, 0), (none, 0, 0), false, (none, 0, 0)⟩) rfl (by show ⟨#[117]⟩ ≠ (⟨#[]⟩ : ByteArray); decide) ⟨rfl, Nat.zero_le _⟩ rfl (t := tbT) (u := tbU) (by decide) (by decide) (c := (some ⟨bco, oco, none⟩, 3, cc)) (x := (xa, xn, xc)) (c2 := (some ⟨buo, ouo, none⟩, 3, uc)) (x2 := (ya, yn, yc)) (lr := (la, L.length, lc)) (rr := (ra, R.length, rc)) (w := w')
      (hTb.1.keep (by decide) fun b _ hl => hb.block b hl) (hTb.2.1.keep (by decide) fun b _ hl => hb.block b hl) (hTb.2.2.1.keep (by decide) fun b _ hl => hb.block b hl) (hTb.2.2.2.keep (by decide) fun b _ hl => hb.block b hl) (rL.keep (by decide) fun b _ hl => hb.block b hl) (rR.keep (by decide) fun b _ hl => hb.block b hl) (by omega) (by omega) (by decide)
      (fun r hr => ⟨(HokL.out r hr).1, fun v hv => rwG (HokL.out r hr) v hv⟩) (fun r hr => ⟨(HokR.out r hr).1, fun v hv => rwG (HokR.out r hr) v hv⟩) (ron.keep (by decide) fun b _ hl => hb.block b hl) (by omega) (by omega) HP.out.1 HP.out.2 (RowIs.nil eG (fun _ => True) w')
  have HLr : Hid (∀ w', Below wc.heap.size wc w' → ∀ i (h : i < L.length), ∃ b o a' n' c', la = some ⟨b, o, none⟩ ∧ w'.cell? ⟨b, o + i, none⟩ = some (.slice a' n' c') ∧ ∀ w2, Below wc.heap.size wc w2 → RowIs eVal (fun b => b < wc.heap.size) w2 (.slice a' n' c') L[i]) := hid fun w' hb i hi => by
    obtain ⟨b, o, xa, xn, xc, e1, h2, h3, h4⟩ := row1 rL (k := i) hi
    exact ⟨b, o, xa, xn, xc, e1, cell_later hb h3, fun w2 hb2 => ((h4.mono (by decide) (Q' := fun b => b < wc.heap.size) fun b _ hl => hl).keep (by decide) fun b _ hl => hb2.block b hl)⟩
  have HRr : Hid (∀ w', Below wc.heap.size wc w' → ∀ i (h : i < R.length), ∃ b o a' n' c', ra = some ⟨b, o, none⟩ ∧ w'.cell? ⟨b, o + i, none⟩ = some (.slice a' n' c') ∧ ∀ w2, Below wc.heap.size wc w2 → RowIs eVal (fun b => b < wc.heap.size) w2 (.slice a' n' c') R[i]) := hid fun w' hb i hi => by
    obtain ⟨b, o, xa, xn, xc, e1, h2, h3, h4⟩ := row1 rR (k := i) hi
    exact ⟨b, o, xa, xn, xc, e1, cell_later hb h3, fun w2 hb2 => ((h4.mono (by decide) (Q' := fun b => b < wc.heap.size) fun b _ hl => hl).keep (by decide) fun b _ hl => hb2.block b hl)⟩
  clear HTb HP rL rR k0 j0 b14 bi hTb ron hb6
  generalize hwc : wc = W6 at *
  clear hwc
  have HW : Hid (∀ w', Below W6.heap.size W6 w' → Below w.heap.size w w') := hid fun w' hb => Below.on hw hb
  have HT0 : Hid (TeRs W6.heap.size W6 (.slice none 0 0) (prsP (L.take 0) R ma (3 + mb))) := hid ⟨[], OwnR.nil _ _ _ _, rfl, fun i h1 => absurd h1 (by simp [prsP])⟩
  clear hw
  go_wp2
  go_loopw [15, 16] (fun v15 v16 wr => ∃ (k : Nat) (va : Option Addr) (vm vd : Nat), k ≤ L.length ∧ v16 = .int .i64 k ∧ v15 = .slice va vm vd ∧ Below W6.heap.size W6 wr ∧ Hid (TeRs W6.heap.size wr (.slice va vm vd) (prsP (L.take k) R ma (3 + mb)))) (fun _ i _ => L.length - (intOf i).toNat)
  case atStart => exact ⟨0, none, 0, 0, Nat.zero_le _, rfl, rfl, Below.refl _ _, HT0⟩
  case round =>
    obtain ⟨k, va, vm, vd, hk, rfl, rfl, hB, HK⟩ := hrel
    clear HT0
    by_cases hlt : k < L.length
    · have HPs : Hid (prsP (L.take (k + 1)) R ma (3 + mb) = prsP (L.take k) R ma (3 + mb) ++ (R.filter fun r => akP L[k] r ma (3 + mb)).map fun r => L[k] ++ r) := hid (prs_snoc hlt)
      have hokx := HokL.out _ (List.getElem_mem hlt)
      obtain ⟨b9, o9, xaa, xnn, xcc, rfl, X0, rx0⟩ := HLr.out W6 (Below.refl _ _) k hlt
      have hx3 : L[k].length = 3 := hokx.1
      obtain ⟨x, hx⟩ : ∃ x, L[k] = x := ⟨_, rfl⟩
      simp only [hx] at HPs rx0 hx3
      obtain rfl : 3 = xnn := by have := (row_lens (rx0 wr hB)).1; omega
      have HRx : Hid _ := hid rx0
      obtain ⟨PK, hPK⟩ : ∃ PK, prsP (L.take k) R ma (3 + mb) = PK := ⟨_, rfl⟩
      have hPKl : PK.length ≤ 100 := by rw [← hPK]; exact Nat.le_trans prs_len (Nat.mul_le_mul (show (L.take k).length ≤ 10 by rw [List.length_take]; omega) hR10)
      rw [hPK] at HK HPs
      have HT1 : Hid (TeRs W6.heap.size wr (.slice va vm vd) (PK ++ ((R.take 0).filter fun r => akP x r ma (3 + mb)).map fun r => x ++ r)) := hid (by simpa using HK.out)
      have hkI : (k : Int) < (L.length : Int) := by omega
      have hwk := wrapS (k := k) (n := L.length) (c := lc) hlt lc1 lc2
      have HX0 : Hid (∀ w', Below W6.heap.size W6 w' → w'.cell? ⟨b9, o9 + k, none⟩ = some (.slice xaa 3 xcc)) := hid fun w' hb => cell_later hb X0
      have hWr := hB
      have HB0 : Hid (Below W6.heap.size W6 wr) := hid hB
      clear rx0 hx hPK hokx HK X0
      generalize wr = Wo at *
      go_wp2
      go_loopw [15, 17] (fun v15 v17 wr => ∃ (j : Nat) (va : Option Addr) (vm vd : Nat), j ≤ R.length ∧ v17 = .int .i64 j ∧ v15 = .slice va vm vd ∧ Below W6.heap.size W6 wr ∧ Hid (TeRs W6.heap.size wr (.slice va vm vd) (PK ++ ((R.take j).filter fun r => akP x r ma (3 + mb)).map fun r => x ++ r))) (fun _ i _ => R.length - (intOf i).toNat)
      case atStart => exact ⟨0, va, vm, vd, Nat.zero_le _, rfl, rfl, HB0.out, HT1⟩
      case round =>
        obtain ⟨j, va, vm, vd, hj, rfl, rfl, hBo, HK⟩ := hrel
        clear HT1
        have hB2 := hBo
        by_cases hjt : j < R.length
        · have hy3 : R[j].length = 3 := (HokR.out _ (List.getElem_mem hjt)).1
          obtain ⟨b8, o8, yaa, ynn, ycc, rfl, Y00, ry0⟩ := HRr.out W6 (Below.refl _ _) j hjt
          have HY0 : Hid (∀ w', Below W6.heap.size W6 w' → _) := hid fun w' hb => cell_later hb Y00
          have Y0 := HY0.out wr hB2
          clear Y00
          have HFj : Hid (((R.take (j + 1)).filter fun r => akP x r ma (3 + mb)).map (fun r => x ++ r) = ((R.take j).filter fun r => akP x r ma (3 + mb)).map (fun r => x ++ r) ++ if akP x R[j] ma (3 + mb) then [x ++ R[j]] else []) := hid (by
            rw [List.take_succ_eq_append_getElem hjt, List.filter_append, List.map_append]
            cases h : akP x R[j] ma (3 + mb) <;> simp [h])
          obtain ⟨y9, hy⟩ : ∃ y, R[j] = y := ⟨_, rfl⟩
          simp only [hy] at HFj ry0 hy3
          obtain rfl : 3 = ynn := by have := (row_lens (ry0 wr hB2)).1; omega
          have X0 := HX0.out wr hB2
          have hak := ak_eq hx3 hy3 hma hmb
          obtain ⟨bx, ox, rfl, -, v0, v1, v2⟩ := val1 (HRx.out wr hB2) (k := ma) (by omega)
          obtain ⟨bz, oz, rfl, -, z0, z1, z2⟩ := val1 (ry0 wr hB2) (k := mb) (by omega)
          obtain ⟨V, hV⟩ : ∃ V, x[ma]'(by omega) = V := ⟨_, rfl⟩
          obtain ⟨Z, hZ⟩ : ∃ Z, y9[mb]'(by omega) = Z := ⟨_, rfl⟩
          rw [hV] at v0 v1 v2 hak
          rw [hZ] at z0 z1 z2 hak
          obtain ⟨V0, V1, V2⟩ := V
          obtain ⟨Z0, Z1, Z2⟩ := Z
          obtain ⟨eq, heq⟩ : ∃ eq, decide (((V0, V1, V2) : Vt) = (Z0, Z1, Z2)) = eq := ⟨_, rfl⟩
          have fE := fun w' => runV_eqN2 heq w'
          rw [heq] at hak
          rw [hak] at HFj
          dsimp only at v0 v1 v2 z0 z1 z2
          have HRy : Hid _ := hid ry0
          have hkI2 : (j : Int) < (R.length : Int) := by omega
          have hwj := wrapS (k := j) (n := R.length) (c := rc) hjt rc1 rc2
          have hka : (ma : Int) < (3 : Int) := by omega
          have hkb : (mb : Int) < (3 : Int) := by omega
          clear hV hZ heq ry0 hy hak HSel
          go_upto_region 17 with fail
          have hY : Below wr.heap.size wr wr.drew := (Below.refl _ wr).drew
          refine wp_region_held_drew (S := fun w' => w'.cell? ⟨b9, o9 + k, none⟩ = some (.slice (some ⟨bx, ox, none⟩) 3 xcc) ∧ w'.cell? ⟨b8, o8 + j, none⟩ = some (.slice (some ⟨bz, oz, none⟩) 3 ycc) ∧ w'.cell? ⟨bx, ox + ma * 3, none⟩ = some (.int .i64 V0) ∧ w'.cell? ⟨bx, ox + ma * 3 + 1, none⟩ = some (.int .i64 V1) ∧ w'.cell? ⟨bx, ox + ma * 3 + 2, none⟩ = some (.string V2) ∧ w'.cell? ⟨bz, oz + mb * 3, none⟩ = some (.int .i64 Z0) ∧ w'.cell? ⟨bz, oz + mb * 3 + 1, none⟩ = some (.int .i64 Z1) ∧ w'.cell? ⟨bz, oz + mb * 3 + 2, none⟩ = some (.string Z2)) (by kernel_rfl) (⟨cell_later hY X0, cell_later hY Y0, cell_later hY v0, cell_later hY v1, cell_later hY v2, cell_later hY z0, cell_later hY z1, cell_later hY z2⟩) (fun hHeld => ?_)
          generalize wr.drew = y at *
          refine wpAnyH_take (i := 0) (v := ?tv14057) rfl (by kernel_rfl) (by kernel_rfl) (by kernel_rfl) (fun _ _ _ h => h) (Or.inl ⟨by rfl, ?hy14057⟩) (by assumption) ?rs14057
          case hy14057 => (intro w9 hSw; (try dsimp only at hSw); go_simp; (try with_reducible rfl))
          (try simp only [Act.put, List.getElem_toArray, List.getElem_cons_zero, List.getElem_cons_succ, List.setIfInBounds_toArray, List.set_cons_zero, List.set_cons_succ])
          refine wpAnyH_take (i := 1) (v := ?tv14058) rfl (by kernel_rfl) (by kernel_rfl) (by kernel_rfl) (fun _ _ _ h => h) (Or.inl ⟨by rfl, ?hy14058⟩) (by assumption) ?rs14058
          case hy14058 => (intro w9 hSw; (try dsimp only at hSw); go_simp; (try with_reducible rfl))
          (try simp only [Act.put, List.getElem_toArray, List.getElem_cons_zero, List.getElem_cons_succ, List.setIfInBounds_toArray, List.set_cons_zero, List.set_cons_succ])
          refine wpAnyH_take (i := 2) (v := ?tv14059) rfl (by kernel_rfl) (by kernel_rfl) (by kernel_rfl) (fun _ _ _ h => h) (Or.inl ⟨by rfl, ?hy14059⟩) (by assumption) ?rs14059
          case hy14059 => (intro w9 hSw; (try dsimp only at hSw); go_simp; (try with_reducible rfl))
          (try simp only [Act.put, List.getElem_toArray, List.getElem_cons_zero, List.getElem_cons_succ, List.setIfInBounds_toArray, List.set_cons_zero, List.set_cons_succ])
          refine wpAnyH_take (i := 3) (v := ?tv14060) rfl (by kernel_rfl) (by kernel_rfl) (by kernel_rfl) (fun _ _ _ h => h) (Or.inl ⟨by rfl, ?hy14060⟩) (by assumption) ?rs14060
          case hy14060 => (intro w9 hSw; (try dsimp only at hSw); go_simp; (try with_reducible rfl))
          (try simp only [Act.put, List.getElem_toArray, List.getElem_cons_zero, List.getElem_cons_succ, List.setIfInBounds_toArray, List.set_cons_zero, List.set_cons_succ])
          refine wpAnyH_take (i := 4) (v := ?tv14061) rfl (by kernel_rfl) (by kernel_rfl) (by kernel_rfl) (fun _ _ _ h => h) (Or.inl ⟨by rfl, ?hy14061⟩) (by assumption) ?rs14061
          case hy14061 => (intro w9 hSw; (try dsimp only at hSw); go_simp; (try with_reducible rfl))
          (try simp only [Act.put, List.getElem_toArray, List.getElem_cons_zero, List.getElem_cons_succ, List.setIfInBounds_toArray, List.set_cons_zero, List.set_cons_succ])
          refine wpAnyH_take (i := 5) (v := ?tv14062) rfl (by kernel_rfl) (by kernel_rfl) (by kernel_rfl) (fun _ _ _ h => h) (Or.inl ⟨by rfl, ?hy14062⟩) (by assumption) ?rs14062
          case hy14062 => (intro w9 hSw; (try dsimp only at hSw); go_simp; (try with_reducible rfl))
          (try simp only [Act.put, List.getElem_toArray, List.getElem_cons_zero, List.getElem_cons_succ, List.setIfInBounds_toArray, List.set_cons_zero, List.set_cons_succ])
          refine wpAnyH_take (i := 6) (v := ?tv14063) rfl (by kernel_rfl) (by kernel_rfl) (by kernel_rfl) (fun _ _ _ h => h) (Or.inl ⟨by rfl, ?hy14063⟩) (by assumption) ?rs14063
          case hy14063 => (intro w9 hSw; (try dsimp only at hSw); go_simp; (try with_reducible rfl))
          (try simp only [Act.put, List.getElem_toArray, List.getElem_cons_zero, List.getElem_cons_succ, List.setIfInBounds_toArray, List.set_cons_zero, List.set_cons_succ])
          refine wpAnyH_take (i := 7) (v := ?tv14064) rfl (by kernel_rfl) (by kernel_rfl) (by kernel_rfl) (fun _ _ _ h => h) (Or.inl ⟨by rfl, ?hy14064⟩) (by assumption) ?rs14064
          case hy14064 => (intro w9 hSw; (try dsimp only at hSw); go_simp; (try with_reducible rfl))
          (try simp only [Act.put, List.getElem_toArray, List.getElem_cons_zero, List.getElem_cons_succ, List.setIfInBounds_toArray, List.set_cons_zero, List.set_cons_succ])
          refine wpAnyH_take (i := 8) (v := ?tv14065) rfl (by kernel_rfl) (by kernel_rfl) (by kernel_rfl) (fun _ _ _ h => h) (Or.inl ⟨by rfl, ?hy14065⟩) (by assumption) ?rs14065
          case hy14065 => (intro w9 hSw; (try dsimp only at hSw); go_simp; (try with_reducible rfl))
          (try simp only [Act.put, List.getElem_toArray, List.getElem_cons_zero, List.getElem_cons_succ, List.setIfInBounds_toArray, List.set_cons_zero, List.set_cons_succ])
          refine wpAnyH_take (i := 9) (v := ?tv14066) rfl (by kernel_rfl) (by kernel_rfl) (by kernel_rfl) (fun _ _ _ h => h) (Or.inl ⟨by rfl, ?hy14066⟩) (by assumption) ?rs14066
          case hy14066 => (intro w9 hSw; (try dsimp only at hSw); go_simp; (try with_reducible rfl))
          (try simp only [Act.put, List.getElem_toArray, List.getElem_cons_zero, List.getElem_cons_succ, List.setIfInBounds_toArray, List.set_cons_zero, List.set_cons_succ])
          refine wpAnyH_take (i := 10) (v := ?tv14067) rfl (by kernel_rfl) (by kernel_rfl) (by kernel_rfl) (fun _ _ _ h => h) (Or.inl ⟨by rfl, ?hy14067⟩) (by assumption) ?rs14067
          case hy14067 => (intro w9 hSw; (try dsimp only at hSw); go_simp; (try with_reducible rfl))
          (try simp only [Act.put, List.getElem_toArray, List.getElem_cons_zero, List.getElem_cons_succ, List.setIfInBounds_toArray, List.set_cons_zero, List.set_cons_succ])
          refine wpAnyH_take (i := 11) (v := ?tv14068) rfl (by kernel_rfl) (by kernel_rfl) (by kernel_rfl) (fun _ _ _ h => h) (Or.inl ⟨by rfl, ?hy14068⟩) (by assumption) ?rs14068
          case hy14068 => (intro w9 hSw; (try dsimp only at hSw); go_simp; (try with_reducible rfl))
          (try simp only [Act.put, List.getElem_toArray, List.getElem_cons_zero, List.getElem_cons_succ, List.setIfInBounds_toArray, List.set_cons_zero, List.set_cons_succ])
          refine wpAnyH_take (i := 12) (v := ?tv14069) rfl (by kernel_rfl) (by kernel_rfl) (by kernel_rfl) (fun _ _ _ h => h) (Or.inl ⟨by rfl, ?hy14069⟩) (by assumption) ?rs14069
          case hy14069 => (intro w9 hSw; (try dsimp only at hSw); go_simp; (try with_reducible rfl))
          (try simp only [Act.put, List.getElem_toArray, List.getElem_cons_zero, List.getElem_cons_succ, List.setIfInBounds_toArray, List.set_cons_zero, List.set_cons_succ])
          refine wpAnyH_take (i := 13) (v := ?tv14070) rfl (by kernel_rfl) (by kernel_rfl) (by kernel_rfl) (fun _ _ _ h => h) (Or.inl ⟨by rfl, ?hy14070⟩) (by assumption) ?rs14070
          case hy14070 => (intro w9 hSw; (try dsimp only at hSw); go_simp; (try with_reducible rfl))
          (try simp only [Act.put, List.getElem_toArray, List.getElem_cons_zero, List.getElem_cons_succ, List.setIfInBounds_toArray, List.set_cons_zero, List.set_cons_succ])
          refine wpAnyH_take (i := 14) (v := ?tv14071) rfl (by kernel_rfl) (by kernel_rfl) (by kernel_rfl) (fun _ _ _ h => h) (Or.inl ⟨by rfl, ?hy14071⟩) (by assumption) ?rs14071
          case hy14071 => (intro w9 hSw; (try dsimp only at hSw); go_simp; (try with_reducible rfl))
          (try simp only [Act.put, List.getElem_toArray, List.getElem_cons_zero, List.getElem_cons_succ, List.setIfInBounds_toArray, List.set_cons_zero, List.set_cons_succ])
          refine wpAnyH_done (by kernel_rfl) ?_ _
          clear hHeld
          have hBy := Below.on hBo hY
          have hB2y := Below.on hB2 hY
          have HKy : Hid _ := hid (HK.out.later hY)
          replace X0 := cell_later hY X0
          replace Y0 := cell_later hY Y0
          clear hY HK v0 v1 v2 z0 z1 z2 fE
          cases eq with
          | false =>
            have HQ : Hid (TeRs W6.heap.size y (.slice va vm vd) (PK ++ ((R.take (j + 1)).filter fun r => akP x r ma (3 + mb)).map fun r => x ++ r)) := hid (by rw [HFj.out]; simpa using HKy.out)
            clear HKy HFj
            go_wp2
            go_roundw
            case rel => exact ⟨j + 1, va, vm, vd, hjt, by go_num, rfl, hBy, HQ⟩
            case measure => simp only [intOf]; omega
          | true =>
            have HsX : Hid (∀ w', Below y.heap.size y w' → ∀ i u, (x.map cVs).flatten[i]? = some u → ∃ ad, (some ⟨bx, ox, none⟩ : Option Addr) = some ad ∧ w'.cell? (ad.add i) = some u) := hid fun w' hb => cVs_src (HRx.out w' (Below.on hB2y hb))
            have HsY : Hid (∀ w', Below y.heap.size y w' → ∀ i u, (y9.map cVs).flatten[i]? = some u → ∃ ad, (some ⟨bz, oz, none⟩ : Option Addr) = some ad ∧ w'.cell? (ad.add i) = some u) := hid fun w' hb => cVs_src (HRy.out w' (Below.on hB2y hb))
            have hMl : (((R.take j).filter fun r => akP x r ma (3 + mb)).map fun r => x ++ r).length ≤ 10 := by
              rw [List.length_map]
              exact Nat.le_trans (List.length_filter_le _ _) (by rw [List.length_take]; omega)
            obtain ⟨css, hOw, hcl, hE⟩ := HKy.out
            have hcl5 : css.length ≤ 1000 := by rw [hcl, List.length_append]; omega
            have hblk := hOw.blk
            go_upto_region 18 with fail
            have hY : Below y.heap.size y y.drew := (Below.refl _ y).drew
            refine wp_region_held_drew (S := fun w' => w'.cell? ⟨b9, o9 + k, none⟩ = some (.slice (some ⟨bx, ox, none⟩) 3 xcc) ∧ w'.cell? ⟨b8, o8 + j, none⟩ = some (.slice (some ⟨bz, oz, none⟩) 3 ycc)) (by kernel_rfl) (⟨cell_later hY X0, cell_later hY Y0⟩) (fun hHeld => ?_)
            generalize y.drew = Y at *
            refine wpAnyH_take (i := 0) (v := ?tv14072) rfl (by kernel_rfl) (by kernel_rfl) (by kernel_rfl) (fun _ _ _ h => h) (Or.inl ⟨by rfl, ?hy14072⟩) (by assumption) ?rs14072
            case hy14072 => (intro w9 hSw; (try dsimp only at hSw); go_simp; (try with_reducible rfl))
            (try simp only [Act.put, List.getElem_toArray, List.getElem_cons_zero, List.getElem_cons_succ, List.setIfInBounds_toArray, List.set_cons_zero, List.set_cons_succ])
            refine wpAnyH_take (i := 2) (v := ?tv14073) rfl (by kernel_rfl) (by kernel_rfl) (by kernel_rfl) (fun _ _ _ h => h) (Or.inl ⟨by rfl, ?hy14073⟩) (by assumption) ?rs14073
            case hy14073 => (intro w9 hSw; (try dsimp only at hSw); go_simp; (try with_reducible rfl))
            (try simp only [Act.put, List.getElem_toArray, List.getElem_cons_zero, List.getElem_cons_succ, List.setIfInBounds_toArray, List.set_cons_zero, List.set_cons_succ])
            refine wpAnyH_take (i := 3) (v := ?tv14074) rfl (by kernel_rfl) (by kernel_rfl) (by kernel_rfl) (fun _ _ _ h => h) (Or.inl ⟨by rfl, ?hy14074⟩) (by assumption) ?rs14074
            case hy14074 => (intro w9 hSw; (try dsimp only at hSw); go_simp; (try with_reducible rfl))
            (try simp only [Act.put, List.getElem_toArray, List.getElem_cons_zero, List.getElem_cons_succ, List.setIfInBounds_toArray, List.set_cons_zero, List.set_cons_succ])
            refine wpAnyH_take (i := 4) (v := ?tv14075) rfl (by kernel_rfl) (by kernel_rfl) (by kernel_rfl) (fun _ _ _ h => h) (Or.inl ⟨by rfl, ?hy14075⟩) (by assumption) ?rs14075
            case hy14075 => (intro w9 hSw; (try dsimp only at hSw); go_simp; (try with_reducible rfl))
            (try simp only [Act.put, List.getElem_toArray, List.getElem_cons_zero, List.getElem_cons_succ, List.setIfInBounds_toArray, List.set_cons_zero, List.set_cons_succ])
            refine wpAnyH_take (i := 5) (v := ?tv14076) rfl (by kernel_rfl) (by kernel_rfl) (by kernel_rfl) (fun _ _ _ h => h) (Or.inl ⟨by rfl, ?hy14076⟩) (by assumption) ?rs14076
            case hy14076 => (intro w9 hSw; (try dsimp only at hSw); go_simp; (try with_reducible rfl))
            (try simp only [Act.put, List.getElem_toArray, List.getElem_cons_zero, List.getElem_cons_succ, List.setIfInBounds_toArray, List.set_cons_zero, List.set_cons_succ])
            refine wpAnyH_take (i := 7) (v := ?tv14077) rfl (by kernel_rfl) (by kernel_rfl) (by kernel_rfl) (fun _ _ _ h => h) (Or.inl ⟨by rfl, ?hy14077⟩) (by assumption) ?rs14077
            case hy14077 => (intro w9 hSw; (try dsimp only at hSw); go_simp; (try with_reducible rfl))
            (try simp only [Act.put, List.getElem_toArray, List.getElem_cons_zero, List.getElem_cons_succ, List.setIfInBounds_toArray, List.set_cons_zero, List.set_cons_succ])
            refine wpAnyH_take (i := 8) (v := ?tv14078) rfl (by kernel_rfl) (by kernel_rfl) (by kernel_rfl) (fun _ _ _ h => h) (Or.inl ⟨by rfl, ?hy14078⟩) (by assumption) ?rs14078
            case hy14078 => (intro w9 hSw; (try dsimp only at hSw); go_simp; (try with_reducible rfl))
            (try simp only [Act.put, List.getElem_toArray, List.getElem_cons_zero, List.getElem_cons_succ, List.setIfInBounds_toArray, List.set_cons_zero, List.set_cons_succ])
            refine wpAnyH_take (i := 9) (v := ?tv14079) rfl (by kernel_rfl) (by kernel_rfl) (by kernel_rfl) (fun _ _ _ h => h) (Or.inl ⟨by rfl, ?hy14079⟩) (by assumption) ?rs14079
            case hy14079 => (intro w9 hSw; (try dsimp only at hSw); go_simp; (try with_reducible rfl))
            (try simp only [Act.put, List.getElem_toArray, List.getElem_cons_zero, List.getElem_cons_succ, List.setIfInBounds_toArray, List.set_cons_zero, List.set_cons_succ])
            refine wpAnyH_take (i := 10) (v := ?tv14080) rfl (by kernel_rfl) (by kernel_rfl) (by kernel_rfl) (fun _ _ _ h => h) (Or.inl ⟨by rfl, ?hy14080⟩) (by assumption) ?rs14080
            case hy14080 => (intro w9 hSw; (try dsimp only at hSw); go_simp; (try with_reducible rfl))
            (try simp only [Act.put, List.getElem_toArray, List.getElem_cons_zero, List.getElem_cons_succ, List.setIfInBounds_toArray, List.set_cons_zero, List.set_cons_succ])
            refine wpAnyH_ready (rs := [1]) (by kernel_rfl) (by simp) ?_
            refine AllReadyH.cons rfl (fun K hK => ?_) AllReadyH.nil
            go_simp
            have oX := OwnR.lit0 39 3 y.heap.size Y hY.size
            replace hY := bal hY (.cells #[] 39)
            refine hK.out _ _ (⟨cell_later hY X0, cell_later hY Y0⟩) (fun hHeld => ?_)
            clear hK K
            (try simp only [Act.put, List.getElem_toArray, List.getElem_cons_zero, List.getElem_cons_succ, List.setIfInBounds_toArray, List.set_cons_zero, List.set_cons_succ])
            obtain ⟨bX, hbX⟩ : ∃ bX, Y.heap.size = bX := ⟨_, rfl⟩
            rw [hbX] at oX
            (try rw [hbX])
            clear hbX
            generalize Y.alloc (.cells #[] 39) = Y at *
            refine wpAnyH_ready (rs := [6]) (by kernel_rfl) (by simp) ?_
            refine AllReadyH.cons rfl (fun K hK => ?_) AllReadyH.nil
            refine step_appU (B := y.heap.size) (by rfl) (.tmp 99) (.tmp 103) (by rfl) Tryz.underlying48 Tryz.infoTVal rfl (by decide) (by decide) _ _ _ (some ⟨bx, ox, none⟩) 3 xcc _ (x.map cVs) (by rfl) (by rfl) oX (cVs_one _) (by rw [List.length_map]; exact hx3) (cVs_cell _) (HsX.out _ hY) (by simp only [List.length_append, List.length_nil, List.length_map]; omega) hY.size ?_
            intro b6 n6 c6 Y6 o6 hg6 hb6
            replace hY := below_grows hY hY.size hg6 (fun q e => by cases e; exact oX.at0.1)
            refine hK.out _ _ (⟨cell_later hY X0, cell_later hY Y0⟩) (fun hHeld => ?_)
            clear hK K
            (try simp only [Act.put, List.getElem_toArray, List.getElem_cons_zero, List.getElem_cons_succ, List.setIfInBounds_toArray, List.set_cons_zero, List.set_cons_succ])
            clear oX hg6 hb6
            refine wpAnyH_ready (rs := [11]) (by kernel_rfl) (by simp) ?_
            refine AllReadyH.cons rfl (fun K hK => ?_) AllReadyH.nil
            refine step_appU (B := y.heap.size) (by rfl) (.tmp 104) (.tmp 108) (by rfl) Tryz.underlying48 Tryz.infoTVal rfl (by decide) (by decide) _ _ _ (some ⟨bz, oz, none⟩) 3 ycc _ (y9.map cVs) (by rfl) (by rfl) o6 (cVs_one _) (by rw [List.length_map]; exact hy3) (cVs_cell _) (HsY.out _ hY) (by simp only [List.length_append, List.length_nil, List.length_map]; omega) hY.size ?_
            intro b11 n11 c11 Y11 o11 hg11 hb11
            replace hY := below_grows hY hY.size hg11 (fun q e => by cases e; exact o6.at0.1)
            refine hK.out _ _ (⟨cell_later hY X0, cell_later hY Y0⟩) (fun hHeld => ?_)
            clear hK K
            (try simp only [Act.put, List.getElem_toArray, List.getElem_cons_zero, List.getElem_cons_succ, List.setIfInBounds_toArray, List.set_cons_zero, List.set_cons_succ])
            clear o6 hg11 hb11
            refine wpAnyH_ready (rs := [12]) (by kernel_rfl) (by simp) ?_
            refine AllReadyH.cons rfl (fun K hK => ?_) AllReadyH.nil
            go_simp
            have kL := Bk.new Y11 (.cells #[.slice (some ⟨b11, 0, none⟩) n11 c11] 48)
            have hYA := bal hY (.cells #[.slice (some ⟨b11, 0, none⟩) n11 c11] 48)
            replace o11 := o11.alloc (.cells #[.slice (some ⟨b11, 0, none⟩) n11 c11] 48)
            refine hK.out _ _ (⟨cell_later hYA X0, cell_later hYA Y0⟩) (fun hHeld => ?_)
            clear hK K
            (try simp only [Act.put, List.getElem_toArray, List.getElem_cons_zero, List.getElem_cons_succ, List.setIfInBounds_toArray, List.set_cons_zero, List.set_cons_succ])
            obtain ⟨bL, hbL⟩ : ∃ bL, Y11.heap.size = bL := ⟨_, rfl⟩
            rw [hbL] at kL
            (try rw [hbL])
            clear hbL
            generalize Y11.alloc (.cells #[.slice (some ⟨b11, 0, none⟩) n11 c11] 48) = Y12 at *
            have hB12 := Below.on hB2y hYA
            have hOw12 := hOw.later hYA
            refine wpAnyH_ready (rs := [13]) (by kernel_rfl) (by simp) ?_
            refine AllReadyH.cons rfl (fun K hK => ?_) AllReadyH.nil
            refine step_appR (B := W6.heap.size) (by rfl) (.tmp 98) (.tmp 110) (by rfl) Tryz.underlying33 Tryz.infoTRow rfl (by decide) (by decide) _ css bL [.slice (some ⟨b11, 0, none⟩) n11 c11] (by rfl) (by rfl) hOw12 rfl (by simp [Value.oneCell']) (bk_one kL) hcl5 hB12.size ?_
            intro v' Y13 hO13 hg13 hown
            obtain ⟨a13, m13, d13, rfl⟩ := hO13.sl
            have hB13 := below_grows hB12 hB12.size hg13 fun q e => (hblk q e).1
            refine hK.out _ _ (⟨HX0.out _ hB13, HY0.out _ hB13⟩) (fun hHeld => ?_)
            clear hK K
            (try simp only [Act.put, List.getElem_toArray, List.getElem_cons_zero, List.getElem_cons_succ, List.setIfInBounds_toArray, List.set_cons_zero, List.set_cons_succ])
            refine wpAnyH_ready (rs := [14]) (by kernel_rfl) (by simp) ?_
            refine AllReadyH.cons rfl (fun K hK => ?_) AllReadyH.nil
            go_simp
            refine hK.out _ _ (⟨HX0.out _ hB13, HY0.out _ hB13⟩) (fun hHeld => ?_)
            clear hK K
            (try simp only [Act.put, List.getElem_toArray, List.getElem_cons_zero, List.getElem_cons_succ, List.setIfInBounds_toArray, List.set_cons_zero, List.set_cons_succ])
            refine wpAnyH_done (by kernel_rfl) ?_ _
            clear hHeld
            have hY12 := hYA
            have hE12 : ∀ i (h1 : i < (PK ++ ((R.take j).filter fun r => akP x r ma (3 + mb)).map fun r => x ++ r).length) (h2 : i < css.length), eRow.E (fun b => W6.heap.size ≤ b ∧ some b ≠ (Value.slice va vm vd).ownBlock) Y12 ((PK ++ ((R.take j).filter fun r => akP x r ma (3 + mb)).map fun r => x ++ r)[i]) css[i] := fun i h1 h2 => eRow.keep (fun b _ hl => hY12.block b hl) (hE i h1 h2)
            have hsyy := hB2y.size
            have hEn : eRow.E (fun b => W6.heap.size ≤ b ∧ some b ≠ (Value.slice va vm vd).ownBlock) Y12 (x ++ y9) [.slice (some ⟨b11, 0, none⟩) n11 c11] := ⟨_, _, _, rfl, OwnR.rowE (e := eVal) (css := (x ++ y9).map cVs) (by have h := o11; rw [List.nil_append, ← List.map_append] at h; exact h) (by simp) (fun b h1 _ => ⟨Nat.le_trans hsyy h1, fun e => by have := (hblk b e.symm).2; omega⟩) fun i h1 h2 => by
              show _ = _
              rw [List.getElem_map]⟩
            have hTn := TeRs.snoc hcl hE12 hEn hO13 hg13 hown
            have HQ : Hid (TeRs W6.heap.size Y13 (.slice a13 m13 d13) (PK ++ ((R.take (j + 1)).filter fun r => akP x r ma (3 + mb)).map fun r => x ++ r)) := hid (by rw [HFj.out, if_pos rfl, ← List.append_assoc]; exact hTn)
            clear hE12 hEn hTn hO13 hg13 hown hE hOw hcl hblk o11 kL hYA hY12 HKy HFj HsX HsY X0 Y0 hY hBy hB2y
            go_wp2
            go_roundw
            case rel => exact ⟨j + 1, a13, m13, d13, hjt, by go_num, rfl, hB13, HQ⟩
            case measure => simp only [intOf]; omega
        · obtain rfl : j = R.length := by omega
          have HQ : Hid (TeRs W6.heap.size wr (.slice va vm vd) (prsP (L.take (k + 1)) R ma (3 + mb))) := hid (by rw [HPs.out]; have h := HK.out; rwa [List.take_length] at h)
          have hBx := hBo
          have hkI2 : ¬ (R.length : Int) < (R.length : Int) := by omega
          clear HK HPs
          go_wp2
          go_roundw
          case rel => exact ⟨k + 1, va, vm, vd, hlt, by go_num, rfl, hBx, HQ⟩
          case measure => simp only [intOf]; omega
    · obtain rfl : k = L.length := by omega
      have rW := HK.out.row.mono (Q' := fun _ => True) (by decide) fun _ _ _ => trivial
      rw [List.take_length] at rW
      have HRW : Hid (∀ w', Below wr.heap.size wr w' → RowIs eRow (fun _ => True) w' (.slice va vm vd) (prsP L R ma (3 + mb))) := hid fun w' hb => rW.keep (by decide) fun b _ hl => hb.block b hl
      have HSe := HSel.out wr hB
      have hBw := HW.out wr hB
      have hkI : ¬ (L.length : Int) < (L.length : Int) := by omega
      replace t0 := cell_later hB t0
      replace t1 := cell_later hB t1
      replace t2 := cell_later hB t2
      replace u0 := cell_later hB u0
      replace u1 := cell_later hB u1
      replace u2 := cell_later hB u2
      replace s0 := cell_later hB s0
      replace s1 := cell_later hB s1
      replace s2 := cell_later hB s2
      replace s3 := cell_later hB s3
      replace s4 := cell_later hB s4
      replace s5 := cell_later hB s5
      replace s6 := cell_later hB s6
      replace s7 := cell_later hB s7
      replace s8 := cell_later hB s8
      replace s9 := cell_later hB s9
      replace s10 := cell_later hB s10
      replace s11 := cell_later hB s11
      replace s12 := cell_later hB s12
      generalize prsP L R ma (3 + mb) = PP at *
      have HSe2 : Hid _ := hid HSe
      clear HK rW HSel HSe HLr HRr HokL HokR hB HW
      go_wp2_with fail
      refine Calls.mono HSe2.out ?_
      rintro e w6 ⟨a6, n6, c6, rfl, h0, -, hb6⟩
      have HSame : Hid _ := hid (sameRows_any (h0 rfl).row (HRW.out _ hb6))
      have hB6 := Below.on hBw hb6
      clear h0 hb6 HSe2 HRW hBw
      go_wp2_with fail
      refine Calls.mono HSame.out ?_
      rintro e w8 ⟨rfl, hb8⟩
      have hB8 := Below.on hB6 hb8
      rw [decide_true]
      clear HSame
      go_wp2
      go_ret
      exact ⟨by first | rfl | simp, hB8⟩

end Go.Proofs.YtnlaaejdianfjabGreat
