import Derived.Test.YtnlaaejdianfjaaGreatQwau
import Derived.Test.YtnlaaejdianfjaaGreatQwap
import Derived.Test.YtnlaaejdianfjaaGreatQwav
import Derived.Test.YtnlaaejdianfjaaGreatQwaq
import Derived.Test.YtnlaaejdianfjaaGreatQwas
namespace Go.Proofs.YtnlaaejdianfjaaGreat
open Go.RowKit
set_option linter.unusedVariables false
set_option linter.unusedSimpArgs false

set_option maxRecDepth 100000 in
set_option maxHeartbeats 16000000 in
theorem relWhere_any {a : Option Addr} {len cap : Nat} {a1 : Option Addr} {len1 cap1 : Nat} {a2 : Option Addr} {len2 cap2 : Nat} {zs : List Nat} (w : World) (hlc : len ≤ cap) (hcm : cap ≤ 9223372036854775807) (hnums : Nums w w.heap.size a len) (hlc1 : len1 ≤ cap1) (hcm1 : cap1 ≤ 9223372036854775807) (hnums1 : Nums w w.heap.size a1 len1) (hz2 : zs.length = len2) (hlc2 : len2 ≤ cap2) (hcm2 : cap2 ≤ 9223372036854775807) (hnx : NumX w a2 zs) : Calls Tryz.prog 7 #[.slice a len cap, .slice a1 len1 cap1, .slice a2 len2 cap2] w fun e w' => e = .returned (.bool true) ∧ Below w.heap.size w w' := by
  have H0 : Hid _ := hid (begun12_any w)
  have HS : Hid (∀ w1, _) := hid fun w1 => schemaT_any w1
  have HNu : Hid (∀ w1 : World, Below w.heap.size w w1 → Nums w1 w1.heap.size a len) := hid fun w1 hb => nums_on hnums hb
  have HNu1 : Hid (∀ w1 : World, Below w.heap.size w w1 → Nums w1 w1.heap.size a1 len1) := hid fun w1 hb => nums_on hnums1 hb
  have HNu2 : Hid (∀ w1 : World, Below w.heap.size w w1 → NumX w1 a2 zs) := hid fun w1 hb => hnx.later hb
  clear hnums hnums1 hnx
  go_enter Tryz.func7, Tryz.ntmps7
  go_wp2_with fail
  refine Calls.mono H0.out ?_
  rintro e U ⟨rfl, hw⟩
  clear H0
  by_cases hl : 50 < len
  · have hl1 : (50 : Int) < (len : Int) := by omega
    have hl2 : decide ((50 : Int) < (len : Int)) = true := by simpa using hl1
    go_wp2
    go_ret
    exact ⟨rfl, hw⟩
  have hl1 : ¬ (50 : Int) < (len : Int) := by omega
  have hl2 : decide ((50 : Int) < (len : Int)) = false := by simpa using hl1
  by_cases hm : 50 < len1
  · have hm1 : (50 : Int) < (len1 : Int) := by omega
    have hm2 : decide ((50 : Int) < (len1 : Int)) = true := by simpa using hm1
    go_wp2
    go_ret
    exact ⟨rfl, hw⟩
  have hm1 : ¬ (50 : Int) < (len1 : Int) := by omega
  have hm2 : decide ((50 : Int) < (len1 : Int)) = false := by simpa using hm1
  by_cases ho : 60 < len2
  · have ho1 : (60 : Int) < (len2 : Int) := by omega
    have ho2 : decide ((60 : Int) < (len2 : Int)) = true := by simpa using ho1
    go_wp2
    go_ret
    exact ⟨rfl, hw⟩
  have ho1 : ¬ (60 : Int) < (len2 : Int) := by omega
  have ho2 : decide ((60 : Int) < (len2 : Int)) = false := by simpa using ho1
  go_wp2_with fail
  refine Calls.mono (HS.out _) ?_
  rintro e U1 ⟨tbk, rfl, hT, hbk, hb1⟩
  replace hw := Below.on hw hb1
  have hrow := hT.row
  obtain ⟨_, _, _, e', -, -, -, hx⟩ := hrow
  cases e'
  obtain ⟨_, _, e', -, hi⟩ := hx (by decide)
  cases e'
  obtain ⟨cs, hE, -, hcc⟩ := hi 0 (by simp)
  obtain ⟨ca, cn, cc, xa, xn, xc, rfl, hcol, hix⟩ := hE
  have c0 : U1.cell? ⟨tbk, 0, none⟩ = some (.string ⟨#[116]⟩) := by have := hcc 0 (show 0 < 3 by decide); simpa [eTbl] using this
  have c1 : U1.cell? ⟨tbk, 1, none⟩ = some (.slice ca cn cc) := by have := hcc 1 (show 1 < 3 by decide); simpa [eTbl] using this
  have c2 : U1.cell? ⟨tbk, 2, none⟩ = some (.slice xa xn xc) := by have := hcc 2 (show 2 < 3 by decide); simpa [eTbl] using this
  replace hcol : RowIs eCol (fun _ => True) U1 (.slice ca cn cc) tbT.cols := hcol.mono (by decide) fun _ _ _ => trivial
  replace hix : RowIs eStr (fun _ => True) U1 (.slice xa xn xc) tbT.index := hix.mono (by decide) fun _ _ _ => trivial
  have hft := fldT
  have hb2 := bal (Below.refl _ U1) (.cells #[.string ⟨#[116]⟩, .slice ca cn cc, .slice xa xn xc] 33)
  have bT := Bk.new U1 (.cells #[.string ⟨#[116]⟩, .slice ca cn cc, .slice xa xn xc] 33)
  have hcolT : RowIs eCol (fun b => b < U1.heap.size) (U1.alloc (.cells #[.string ⟨#[116]⟩, .slice ca cn cc, .slice xa xn xc] 33)) (.slice ca cn cc) tbT.cols := (hcol.mono (by decide) fun _ _ hl => hl).keep (by decide) fun b _ hl => hb2.block b hl
  have hidx : RowIs eStr (fun b => b < U1.heap.size) (U1.alloc (.cells #[.string ⟨#[116]⟩, .slice ca cn cc, .slice xa xn xc] 33)) (.slice xa xn xc) tbT.index := (hix.mono (by decide) fun _ _ hl => hl).keep (by decide) fun b _ hl => hb2.block b hl
  clear hT hx hi hcc hb1 HS
  go_upto_region 6 with fail
  generalize U1.alloc (.cells #[.string ⟨#[116]⟩, .slice ca cn cc, .slice xa xn xc] 33) = U1t at *
  obtain ⟨qt, hqt⟩ : ∃ qt, U1.heap.size = qt := ⟨_, rfl⟩
  rw [hqt] at bT
  (try rw [hqt])
  have t0 := bT.cell 0
  have t1 := bT.cell 1
  have t2 := bT.cell 2
  simp only [List.getElem?_toArray, List.getElem?_cons_zero, List.getElem?_cons_succ] at t0 t1 t2
  have HCo : Hid _ := hid (playCols_any (nm := ⟨#[116]⟩) (a' := xa) (n' := xn) (c' := xc) hcolT (by simp))
  replace hw := Below.on hw hb2
  have hU1t : U1.heap.size ≤ U1t.heap.size := hb2.size
  clear c0 c1 c2 hft hcol hqt bT hb2
  go_wp2_with fail
  refine Calls.mono HCo.out ?_
  rintro e U2 ⟨v1, v2, rfl, ho1, ho2, -, hb2⟩
  obtain ⟨ia, im, ic, rfl⟩ := ho1.sl
  obtain ⟨ka, km, kc, rfl⟩ := ho2.sl
  replace hw := Below.on hw hb2
  replace t0 := cell_later hb2 t0
  replace t1 := cell_later hb2 t1
  replace t2 := cell_later hb2 t2
  have r1 : RowIs eItem (fun b => b < U2.heap.size) U2 (.slice ia im ic) I0 := OwnR.rowE (e := eItem) ho1 rfl (fun b _ h => h) fun i h1 h2 => by
    have hi : i < 3 := h1
    match i, hi with
    | 0, _ => rfl
    | 1, _ => rfl
    | 2, _ => rfl
  have r2 : RowIs eInt (fun b => b < U2.heap.size) U2 (.slice ka km kc) K0 := OwnR.rowE (e := eInt) ho2 rfl (fun b _ h => h) fun i h1 h2 => by
    have hi : i < 3 := h1
    match i, hi with
    | 0, _ => rfl
    | 1, _ => rfl
    | 2, _ => rfl
  obtain rfl : im = 3 := (row_lens r1).1.symm
  obtain rfl : km = 3 := (row_lens r2).1.symm
  replace hcolT : RowIs eCol (fun b => b < U2.heap.size) U2 (.slice ca cn cc) tbT.cols := (hcolT.keep (by decide) fun b hq hl => hb2.block b hl).mono (by decide) fun b _ hl => hl
  replace hidx : RowIs eStr (fun b => b < U2.heap.size) U2 (.slice xa xn xc) tbT.index := (hidx.keep (by decide) fun b hq hl => hb2.block b hl).mono (by decide) fun b _ hl => hl
  clear HCo ho1 ho2 hb2 hU1t
  have HMa : Hid _ := hid (made10_any hlc hcm (HNu.out U2 hw))
  clear HNu
  go_wp2_with fail
  refine Calls.mono HMa.out ?_
  rintro e U3 ⟨rfl, hp, hb3⟩
  have hcs : Cols U3 U2.heap.size C0 ia ic ka kc := ⟨(r1.keep (by decide) fun b _ hl => hb3.block b hl).mono (by decide) fun b hb _ => by have : b < U2.heap.size := hb; omega, (r2.keep (by decide) fun b _ hl => hb3.block b hl).mono (by decide) fun b hb _ => by have : b < U2.heap.size := hb; omega, by simp, ⟨((0, ⟨#[116]⟩, ⟨#[107]⟩), 1), by simp, rfl⟩, ⟨((0, ⟨#[116]⟩, ⟨#[118]⟩), 2), by simp, rfl⟩⟩
  have HPl : Hid _ := hid (play_any 5 3 0 hp hcs (by omega) rfl)
  have hs3 := hb3.size
  have hgl := hp.lt
  clear HMa hp hcs
  go_wp2_with fail
  refine Calls.mono HPl.out ?_
  rintro e U4 ⟨xo, xp, xea, xen, xec, t, r', rfl, hpl, -, -, hbut, hex⟩
  have hB24 : Below U2.heap.size U2 U4 := hbut.below hb3 (Nat.le_refl _) hs3
  obtain ⟨hkd, hnt⟩ := pl_kd 5 hpl
  obtain ⟨hwf, hlf⟩ := pl_wf 5 hpl
  have hszx : cnN (gP t).2 ≤ 900 := by
    have h1 := cn_gP hnt
    have h2 := pl_sz 5 hpl
    have h3 : 2 ^ (5 + 1) = 64 := rfl
    omega
  obtain ⟨hpt, hsl⟩ := hex.parts
  have hE4 : eG.E (fun b => U3.heap.size ≤ b) U4 (gP t) [.int .i64 xo, .int .i64 xp.1, .int .i64 xp.2.1, .string xp.2.2.1, .string xp.2.2.2.1, .string xp.2.2.2.2, .slice xea xen xec] := ⟨xea, xen, xec, by rw [hpt]; rfl, hsl⟩
  have hb5 := bal hB24 (.cells #[.int .i64 xo, .int .i64 xp.1, .int .i64 xp.2.1, .string xp.2.2.1, .string xp.2.2.2.1, .string xp.2.2.2.2, .slice xea xen xec] 63)
  have bq := Bk.new U4 (.cells #[.int .i64 xo, .int .i64 xp.1, .int .i64 xp.2.1, .string xp.2.2.1, .string xp.2.2.2.1, .string xp.2.2.2.2, .slice xea xen xec] 63)
  replace hE4 := eG.mono (Q' := fun _ => True) (fun _ _ _ => trivial) (eG.keep (fun b _ hl => (bal (Below.refl _ _) (.cells #[.int .i64 xo, .int .i64 xp.1, .int .i64 xp.2.1, .string xp.2.2.1, .string xp.2.2.2.1, .string xp.2.2.2.2, .slice xea xen xec] 63)).block b hl) hE4)
  replace r1 := r1.keep (w' := U4.alloc (.cells #[.int .i64 xo, .int .i64 xp.1, .int .i64 xp.2.1, .string xp.2.2.1, .string xp.2.2.2.1, .string xp.2.2.2.2, .slice xea xen xec] 63)) (by decide) fun b _ hl => hb5.block b hl
  replace r2 := r2.keep (w' := U4.alloc (.cells #[.int .i64 xo, .int .i64 xp.1, .int .i64 xp.2.1, .string xp.2.2.1, .string xp.2.2.2.1, .string xp.2.2.2.2, .slice xea xen xec] 63)) (by decide) fun b _ hl => hb5.block b hl
  replace hcolT := hcolT.keep (w' := U4.alloc (.cells #[.int .i64 xo, .int .i64 xp.1, .int .i64 xp.2.1, .string xp.2.2.1, .string xp.2.2.2.1, .string xp.2.2.2.2, .slice xea xen xec] 63)) (by decide) fun b _ hl => hb5.block b hl
  replace hidx := hidx.keep (w' := U4.alloc (.cells #[.int .i64 xo, .int .i64 xp.1, .int .i64 xp.2.1, .string xp.2.2.1, .string xp.2.2.2.1, .string xp.2.2.2.2, .slice xea xen xec] 63)) (by decide) fun b _ hl => hb5.block b hl
  have hU24 : U2.heap.size ≤ (U4.alloc (.cells #[.int .i64 xo, .int .i64 xp.1, .int .i64 xp.2.1, .string xp.2.2.1, .string xp.2.2.2.1, .string xp.2.2.2.2, .slice xea xen xec] 63)).heap.size := hb5.size
  replace t0 := cell_later hb5 t0
  replace t1 := cell_later hb5 t1
  replace t2 := cell_later hb5 t2
  replace hw := Below.on hw hb5
  clear HPl hbut hex hsl hb3 hB24 hs3 hgl hpl hb5
  simp only [exV]
  go_upto_region 8 with fail
  generalize U4.alloc (.cells #[.int .i64 xo, .int .i64 xp.1, .int .i64 xp.2.1, .string xp.2.2.1, .string xp.2.2.2.1, .string xp.2.2.2.2, .slice xea xen xec] 63) = U5 at *
  obtain ⟨qx, hqx⟩ : ∃ qx, U4.heap.size = qx := ⟨_, rfl⟩
  rw [hqx] at bq
  (try rw [hqx])
  have xd0 := bq.cell 0
  have xd1 := bq.cell 1
  have xd2 := bq.cell 2
  have xd3 := bq.cell 3
  have xd4 := bq.cell 4
  have xd5 := bq.cell 5
  have xd6 := bq.cell 6
  simp only [List.getElem?_toArray, List.getElem?_cons_zero, List.getElem?_cons_succ] at xd0 xd1 xd2 xd3 xd4 xd5 xd6
  clear bq hqx
  have HMb : Hid _ := hid (made10_any hlc1 hcm1 (HNu1.out U5 hw))
  clear HNu1
  go_wp2_with fail
  refine Calls.mono HMb.out ?_
  rintro e V3 ⟨rfl, hp, hb3⟩
  have hcs : Cols V3 U5.heap.size C0 ia ic ka kc := ⟨(r1.keep (by decide) fun b _ hl => hb3.block b hl).mono (by decide) fun b hb _ => by have : b < U2.heap.size := hb; omega, (r2.keep (by decide) fun b _ hl => hb3.block b hl).mono (by decide) fun b hb _ => by have : b < U2.heap.size := hb; omega, by simp, ⟨((0, ⟨#[116]⟩, ⟨#[107]⟩), 1), by simp, rfl⟩, ⟨((0, ⟨#[116]⟩, ⟨#[118]⟩), 2), by simp, rfl⟩⟩
  have HPl : Hid _ := hid (play_any 5 3 0 hp hcs (by omega) rfl)
  have hs3 := hb3.size
  have hgl := hp.lt
  clear HMb hp hcs
  go_wp2_with fail
  refine Calls.mono HPl.out ?_
  rintro e V4 ⟨yo, yp, yea, yen, yec, u, r2', rfl, hplu, -, -, hbut, hex⟩
  have hB24 : Below U5.heap.size U5 V4 := hbut.below hb3 (Nat.le_refl _) hs3
  obtain ⟨hkdu, hntu⟩ := pl_kd 5 hplu
  obtain ⟨hwfu, hlfu⟩ := pl_wf 5 hplu
  obtain ⟨hptu, hsl⟩ := hex.parts
  have hEu : eG.E (fun b => V3.heap.size ≤ b) V4 (gP u) [.int .i64 yo, .int .i64 yp.1, .int .i64 yp.2.1, .string yp.2.2.1, .string yp.2.2.2.1, .string yp.2.2.2.2, .slice yea yen yec] := ⟨yea, yen, yec, by rw [hptu]; rfl, hsl⟩
  have hb5 := bal hB24 (.cells #[.int .i64 yo, .int .i64 yp.1, .int .i64 yp.2.1, .string yp.2.2.1, .string yp.2.2.2.1, .string yp.2.2.2.2, .slice yea yen yec] 63)
  have bq := Bk.new V4 (.cells #[.int .i64 yo, .int .i64 yp.1, .int .i64 yp.2.1, .string yp.2.2.1, .string yp.2.2.2.1, .string yp.2.2.2.2, .slice yea yen yec] 63)
  replace hEu := eG.mono (Q' := fun _ => True) (fun _ _ _ => trivial) (eG.keep (fun b _ hl => (bal (Below.refl _ _) (.cells #[.int .i64 yo, .int .i64 yp.1, .int .i64 yp.2.1, .string yp.2.2.1, .string yp.2.2.2.1, .string yp.2.2.2.2, .slice yea yen yec] 63)).block b hl) hEu)
  replace hE4 := eG.keep (fun b _ hl => hb5.block b hl) hE4
  replace r1 := r1.keep (w' := V4.alloc (.cells #[.int .i64 yo, .int .i64 yp.1, .int .i64 yp.2.1, .string yp.2.2.1, .string yp.2.2.2.1, .string yp.2.2.2.2, .slice yea yen yec] 63)) (by decide) fun b _ hl => hb5.block b hl
  replace hcolT := hcolT.keep (w' := V4.alloc (.cells #[.int .i64 yo, .int .i64 yp.1, .int .i64 yp.2.1, .string yp.2.2.1, .string yp.2.2.2.1, .string yp.2.2.2.2, .slice yea yen yec] 63)) (by decide) fun b _ hl => hb5.block b hl
  replace hidx := hidx.keep (w' := V4.alloc (.cells #[.int .i64 yo, .int .i64 yp.1, .int .i64 yp.2.1, .string yp.2.2.1, .string yp.2.2.2.1, .string yp.2.2.2.2, .slice yea yen yec] 63)) (by decide) fun b _ hl => hb5.block b hl
  have hU25 : U2.heap.size ≤ (V4.alloc (.cells #[.int .i64 yo, .int .i64 yp.1, .int .i64 yp.2.1, .string yp.2.2.1, .string yp.2.2.2.1, .string yp.2.2.2.2, .slice yea yen yec] 63)).heap.size := Nat.le_trans hU24 hb5.size
  replace t0 := cell_later hb5 t0
  replace t1 := cell_later hb5 t1
  replace t2 := cell_later hb5 t2
  replace xd0 := cell_later hb5 xd0
  replace xd1 := cell_later hb5 xd1
  replace xd2 := cell_later hb5 xd2
  replace xd3 := cell_later hb5 xd3
  replace xd4 := cell_later hb5 xd4
  replace xd5 := cell_later hb5 xd5
  replace xd6 := cell_later hb5 xd6
  replace hw := Below.on hw hb5
  clear HPl hbut hex hsl hb3 hB24 hs3 hgl hplu hb5 r2 hU24
  simp only [exV]
  go_upto_region 9 with fail
  generalize V4.alloc (.cells #[.int .i64 yo, .int .i64 yp.1, .int .i64 yp.2.1, .string yp.2.2.1, .string yp.2.2.2.1, .string yp.2.2.2.2, .slice yea yen yec] 63) = U5 at *
  obtain ⟨qy, hqy⟩ : ∃ qy, V4.heap.size = qy := ⟨_, rfl⟩
  rw [hqy] at bq
  (try rw [hqy])
  have yd0 := bq.cell 0
  have yd1 := bq.cell 1
  have yd2 := bq.cell 2
  have yd3 := bq.cell 3
  have yd4 := bq.cell 4
  have yd5 := bq.cell 5
  have yd6 := bq.cell 6
  simp only [List.getElem?_toArray, List.getElem?_cons_zero, List.getElem?_cons_succ] at yd0 yd1 yd2 yd3 yd4 yd5 yd6
  clear bq hqy
  have hSx : SlF (fun _ => True) U5 xea xen xec (gP t).2 := by
    obtain ⟨_, _, _, e1, h1⟩ := hE4
    simp only [exC, List.cons.injEq, Value.slice.injEq, and_true] at e1
    obtain ⟨-, -, -, -, -, -, rfl, rfl, rfl⟩ := e1
    exact h1
  have hSy : SlF (fun _ => True) U5 yea yen yec (gP u).2 := by
    obtain ⟨_, _, _, e1, h1⟩ := hEu
    simp only [exC, List.cons.injEq, Value.slice.injEq, and_true] at e1
    obtain ⟨-, -, -, -, -, -, rfl, rfl, rfl⟩ := e1
    exact h1
  have slk : ∀ {w1 : World} {sa : Option Addr} {sn sc : Nat} {f : Tg}, SlF (fun _ => True) U5 sa sn sc f → Below U5.heap.size U5 w1 → SlF (fun _ => True) w1 sa sn sc f := fun h hb => ⟨h.1, h.2.1, h.2.2.1, fun hn => by
    obtain ⟨b, o, e1, hq, hf⟩ := h.2.2.2 hn
    exact ⟨b, o, e1, hq, FoG.keep (fun k _ hk => hb.block k hk) hq hf⟩⟩
  obtain ⟨q9, hq9⟩ : ∃ q9, U5.heap.size = q9 := ⟨_, rfl⟩
  have b9 : Bk ((U5.alloc (.cells #[.int .i64 xo, .int .i64 xp.1, .int .i64 xp.2.1, .string xp.2.2.1, .string xp.2.2.2.1, .string xp.2.2.2.2, .slice xea xen xec, .int .i64 yo, .int .i64 yp.1, .int .i64 yp.2.1, .string yp.2.2.1, .string yp.2.2.2.1, .string yp.2.2.2.2, .slice yea yen yec] 63)).alloc (.cells #[.int .i64 15, .int .i64 0, .int .i64 0, .string ⟨#[]⟩, .string ⟨#[]⟩, .string ⟨#[]⟩, .slice (some ⟨q9, 0, none⟩) 2 2] 63)) q9 (.cells #[.int .i64 xo, .int .i64 xp.1, .int .i64 xp.2.1, .string xp.2.2.1, .string xp.2.2.2.1, .string xp.2.2.2.2, .slice xea xen xec, .int .i64 yo, .int .i64 yp.1, .int .i64 yp.2.1, .string yp.2.2.1, .string yp.2.2.2.1, .string yp.2.2.2.2, .slice yea yen yec] 63) := by
    rw [← hq9]
    exact (Bk.new U5 (.cells #[.int .i64 xo, .int .i64 xp.1, .int .i64 xp.2.1, .string xp.2.2.1, .string xp.2.2.2.1, .string xp.2.2.2.2, .slice xea xen xec, .int .i64 yo, .int .i64 yp.1, .int .i64 yp.2.1, .string yp.2.2.1, .string yp.2.2.2.1, .string yp.2.2.2.2, .slice yea yen yec] 63)).later (bal (Below.refl _ _) _)
  have b12 : Bk ((U5.alloc (.cells #[.int .i64 xo, .int .i64 xp.1, .int .i64 xp.2.1, .string xp.2.2.1, .string xp.2.2.2.1, .string xp.2.2.2.2, .slice xea xen xec, .int .i64 yo, .int .i64 yp.1, .int .i64 yp.2.1, .string yp.2.2.1, .string yp.2.2.2.1, .string yp.2.2.2.2, .slice yea yen yec] 63)).alloc (.cells #[.int .i64 15, .int .i64 0, .int .i64 0, .string ⟨#[]⟩, .string ⟨#[]⟩, .string ⟨#[]⟩, .slice (some ⟨q9, 0, none⟩) 2 2] 63)) (q9 + 1) (.cells #[.int .i64 15, .int .i64 0, .int .i64 0, .string ⟨#[]⟩, .string ⟨#[]⟩, .string ⟨#[]⟩, .slice (some ⟨q9, 0, none⟩) 2 2] 63) := by
    have := Bk.new (U5.alloc (.cells #[.int .i64 xo, .int .i64 xp.1, .int .i64 xp.2.1, .string xp.2.2.1, .string xp.2.2.2.1, .string xp.2.2.2.2, .slice xea xen xec, .int .i64 yo, .int .i64 yp.1, .int .i64 yp.2.1, .string yp.2.2.1, .string yp.2.2.2.1, .string yp.2.2.2.2, .slice yea yen yec] 63)) (.cells #[.int .i64 15, .int .i64 0, .int .i64 0, .string ⟨#[]⟩, .string ⟨#[]⟩, .string ⟨#[]⟩, .slice (some ⟨q9, 0, none⟩) 2 2] 63)
    rw [World.size_alloc, hq9] at this
    exact this
  have hU6 := bal (bal (Below.refl _ U5) (.cells #[.int .i64 xo, .int .i64 xp.1, .int .i64 xp.2.1, .string xp.2.2.1, .string xp.2.2.2.1, .string xp.2.2.2.2, .slice xea xen xec, .int .i64 yo, .int .i64 yp.1, .int .i64 yp.2.1, .string yp.2.2.1, .string yp.2.2.2.1, .string yp.2.2.2.2, .slice yea yen yec] 63)) (.cells #[.int .i64 15, .int .i64 0, .int .i64 0, .string ⟨#[]⟩, .string ⟨#[]⟩, .string ⟨#[]⟩, .slice (some ⟨q9, 0, none⟩) 2 2] 63)
  have hSO : SlF (fun _ => True) ((U5.alloc (.cells #[.int .i64 xo, .int .i64 xp.1, .int .i64 xp.2.1, .string xp.2.2.1, .string xp.2.2.2.1, .string xp.2.2.2.2, .slice xea xen xec, .int .i64 yo, .int .i64 yp.1, .int .i64 yp.2.1, .string yp.2.2.1, .string yp.2.2.2.1, .string yp.2.2.2.2, .slice yea yen yec] 63)).alloc (.cells #[.int .i64 15, .int .i64 0, .int .i64 0, .string ⟨#[]⟩, .string ⟨#[]⟩, .string ⟨#[]⟩, .slice (some ⟨q9, 0, none⟩) 2 2] 63)) (some ⟨q9, 0, none⟩) 2 2 (orX (gP t) (gP u)).2 := slF2 (p := (gP t).1) (q := (gP u).1) (show Ce _ q9 0 (gP t).1.1 (gP t).1.2 (.slice xea xen xec) from by rw [hpt]; exact ⟨b9.cell 0, b9.cell 1, b9.cell 2, b9.cell 3, b9.cell 4, b9.cell 5, b9.cell 6⟩) (slk hSx hU6) (show Ce _ q9 7 (gP u).1.1 (gP u).1.2 (.slice yea yen yec) from by rw [hptu]; exact ⟨b9.cell 7, b9.cell 8, b9.cell 9, b9.cell 10, b9.cell 11, b9.cell 12, b9.cell 13⟩) (slk hSy hU6)
  have od0 := b12.cell 0
  have od1 := b12.cell 1
  have od2 := b12.cell 2
  have od3 := b12.cell 3
  have od4 := b12.cell 4
  have od5 := b12.cell 5
  have od6 := b12.cell 6
  simp only [List.getElem?_toArray, List.getElem?_cons_zero, List.getElem?_cons_succ] at od0 od1 od2 od3 od4 od5 od6
  replace hw := Below.on hw hU6
  go_upto_region 10 with fail
  (try rw [hq9])
  (try rw [World.size_alloc, hq9])
  generalize hU6e : (U5.alloc (.cells #[.int .i64 xo, .int .i64 xp.1, .int .i64 xp.2.1, .string xp.2.2.1, .string xp.2.2.2.1, .string xp.2.2.2.2, .slice xea xen xec, .int .i64 yo, .int .i64 yp.1, .int .i64 yp.2.1, .string yp.2.2.1, .string yp.2.2.2.1, .string yp.2.2.2.2, .slice yea yen yec] 63)).alloc (.cells #[.int .i64 15, .int .i64 0, .int .i64 0, .string ⟨#[]⟩, .string ⟨#[]⟩, .string ⟨#[]⟩, .slice (some ⟨q9, 0, none⟩) 2 2] 63) = U6 at *
  replace t0 := cell_later hU6 t0
  replace t1 := cell_later hU6 t1
  replace t2 := cell_later hU6 t2
  replace xd0 := cell_later hU6 xd0
  replace xd1 := cell_later hU6 xd1
  replace xd2 := cell_later hU6 xd2
  replace xd3 := cell_later hU6 xd3
  replace xd4 := cell_later hU6 xd4
  replace xd5 := cell_later hU6 xd5
  replace xd6 := cell_later hU6 xd6
  replace yd0 := cell_later hU6 yd0
  replace yd1 := cell_later hU6 yd1
  replace yd2 := cell_later hU6 yd2
  replace yd3 := cell_later hU6 yd3
  replace yd4 := cell_later hU6 yd4
  replace yd5 := cell_later hU6 yd5
  replace yd6 := cell_later hU6 yd6
  have hcol6 : RowIs eCol (fun _ => True) U6 (.slice ca cn cc) tbT.cols := (hcolT.keep (by decide) fun b _ hl => hU6.block b hl).mono (by decide) fun _ _ _ => trivial
  have hidx6 : RowIs eStr (fun _ => True) U6 (.slice xa xn xc) tbT.index := (hidx.keep (by decide) fun b _ hl => hU6.block b hl).mono (by decide) fun _ _ _ => trivial
  have HRw : Hid _ := hid (rowsP_any hz2 hlc2 hcm2 (HNu2.out U6 hw) tbT.cols (by decide) (by decide) ⟨#[116]⟩ xa xn xc hcol6 12 (by decide))
  obtain ⟨L, hL⟩ : ∃ L, rowsX (tbT.cols.map fun c => c.2.1) 12 zs = L := ⟨_, rfl⟩
  have hL12 : L.length ≤ 12 := by rw [← hL]; exact rowsX_len _ _ _
  have HRok : Hid (∀ r ∈ L, RwOK tbT.cols r) := hid (by rw [← hL]; exact rowsX_mem (by decide) _ _)
  rw [hL] at HRw
  clear hL HNu2
  go_wp2_with fail
  refine Calls.mono HRw.out ?_
  rintro e W4 ⟨v, rfl, hTe, hb4⟩
  have hU4 : Below U5.heap.size U5 W4 := Below.on hU6 hb4
  replace hw := Below.on hw hb4
  replace t0 := cell_later hb4 t0
  replace t1 := cell_later hb4 t1
  replace t2 := cell_later hb4 t2
  replace xd0 := cell_later hb4 xd0
  replace xd1 := cell_later hb4 xd1
  replace xd2 := cell_later hb4 xd2
  replace xd3 := cell_later hb4 xd3
  replace xd4 := cell_later hb4 xd4
  replace xd5 := cell_later hb4 xd5
  replace xd6 := cell_later hb4 xd6
  replace yd0 := cell_later hb4 yd0
  replace yd1 := cell_later hb4 yd1
  replace yd2 := cell_later hb4 yd2
  replace yd3 := cell_later hb4 yd3
  replace yd4 := cell_later hb4 yd4
  replace yd5 := cell_later hb4 yd5
  replace yd6 := cell_later hb4 yd6
  replace od0 := cell_later hb4 od0
  replace od1 := cell_later hb4 od1
  replace od2 := cell_later hb4 od2
  replace od3 := cell_later hb4 od3
  replace od4 := cell_later hb4 od4
  replace od5 := cell_later hb4 od5
  replace od6 := cell_later hb4 od6
  obtain ⟨css, hO, -, -⟩ := id hTe
  obtain ⟨ba, bn, bc, rfl⟩ := hO.sl
  obtain rfl := hTe.len
  have rI : RowIs eRow (fun _ => True) W4 (.slice ba L.length bc) L := hTe.row.mono (by decide) fun _ _ _ => trivial
  obtain ⟨-, hbc, hbm⟩ := row_lens rI
  obtain ⟨Z0, hZn, hZm, hZr, hZs⟩ := rowsZ_ex rI
  have HHx : Hid (∀ w1, Below W4.heap.size W4 w1 → ∀ (q : List Vt) (ra : Option Addr) (rm rd : Nat), q ∈ L → RowIs eVal (fun _ => True) w1 (.slice ra rm rd) q → Calls Tryz.prog 23 #[.slice ia 3 ic, .slice ra rm rd, .slice (some ⟨w1.heap.size, 0, none⟩) 1 1] (w1.alloc (.cells #[.int .i64 xo, .int .i64 xp.1, .int .i64 xp.2.1, .string xp.2.2.1, .string xp.2.2.2.1, .string xp.2.2.2.2, .slice xea xen xec] 63)) fun en w'' => en = .returned (.tuple #[.bool (hoR I0 q [gP t]).1, .int .i64 (hoR I0 q [gP t]).2]) ∧ Below (w1.alloc (.cells #[.int .i64 xo, .int .i64 xp.1, .int .i64 xp.2.1, .string xp.2.2.1, .string xp.2.2.2.1, .string xp.2.2.2.2, .slice xea xen xec] 63)).heap.size (w1.alloc (.cells #[.int .i64 xo, .int .i64 xp.1, .int .i64 xp.2.1, .string xp.2.2.1, .string xp.2.2.2.1, .string xp.2.2.2.2, .slice xea xen xec] 63)) w'') := hid fun w1 hb q ra rm rd hq hr => by
    have hb0 := Below.on hU4 hb
    have hb' := bal hb0 (.cells #[.int .i64 xo, .int .i64 xp.1, .int .i64 xp.2.1, .string xp.2.2.1, .string xp.2.2.2.1, .string xp.2.2.2.2, .slice xea xen xec] 63)
    have hb1 := bal (Below.refl _ w1) (.cells #[.int .i64 xo, .int .i64 xp.1, .int .i64 xp.2.1, .string xp.2.2.1, .string xp.2.2.2.1, .string xp.2.2.2.2, .slice xea xen xec] 63)
    have hc2 := cell_new w1 #[.int .i64 xo, .int .i64 xp.1, .int .i64 xp.2.1, .string xp.2.2.1, .string xp.2.2.2.1, .string xp.2.2.2.2, .slice xea xen xec] 63 (0, 0)
    obtain ⟨hCV, -, hVg⟩ := rw_vals (HRok.out q hq)
    exact refHolds_any (Q := fun _ => True) (by decide) hCV hVg [gP t] (Nat.le_refl 1) (fun x hx => by rw [List.mem_singleton] at hx; subst hx; exact hwf) ((r1.keep (by decide) fun b _ hl => hb'.block b hl).mono (by decide) fun _ _ _ => trivial) (hr.keep (by decide) fun b _ hl => hb1.block b hl) (row1_g (x := gP t) (b := w1.heap.size) (show Ce _ w1.heap.size 0 (gP t).1.1 (gP t).1.2 (.slice xea xen xec) from by rw [hpt]; exact ⟨hc2 0, hc2 1, hc2 2, hc2 3, hc2 4, hc2 5, hc2 6⟩) (slk hSx hb'))
  have HHy : Hid (∀ w1, Below W4.heap.size W4 w1 → ∀ (q : List Vt) (ra : Option Addr) (rm rd : Nat), q ∈ L → RowIs eVal (fun _ => True) w1 (.slice ra rm rd) q → Calls Tryz.prog 23 #[.slice ia 3 ic, .slice ra rm rd, .slice (some ⟨w1.heap.size, 0, none⟩) 1 1] (w1.alloc (.cells #[.int .i64 yo, .int .i64 yp.1, .int .i64 yp.2.1, .string yp.2.2.1, .string yp.2.2.2.1, .string yp.2.2.2.2, .slice yea yen yec] 63)) fun en w'' => en = .returned (.tuple #[.bool (hoR I0 q [gP u]).1, .int .i64 (hoR I0 q [gP u]).2]) ∧ Below (w1.alloc (.cells #[.int .i64 yo, .int .i64 yp.1, .int .i64 yp.2.1, .string yp.2.2.1, .string yp.2.2.2.1, .string yp.2.2.2.2, .slice yea yen yec] 63)).heap.size (w1.alloc (.cells #[.int .i64 yo, .int .i64 yp.1, .int .i64 yp.2.1, .string yp.2.2.1, .string yp.2.2.2.1, .string yp.2.2.2.2, .slice yea yen yec] 63)) w'') := hid fun w1 hb q ra rm rd hq hr => by
    have hb0 := Below.on hU4 hb
    have hb' := bal hb0 (.cells #[.int .i64 yo, .int .i64 yp.1, .int .i64 yp.2.1, .string yp.2.2.1, .string yp.2.2.2.1, .string yp.2.2.2.2, .slice yea yen yec] 63)
    have hb1 := bal (Below.refl _ w1) (.cells #[.int .i64 yo, .int .i64 yp.1, .int .i64 yp.2.1, .string yp.2.2.1, .string yp.2.2.2.1, .string yp.2.2.2.2, .slice yea yen yec] 63)
    have hc2 := cell_new w1 #[.int .i64 yo, .int .i64 yp.1, .int .i64 yp.2.1, .string yp.2.2.1, .string yp.2.2.2.1, .string yp.2.2.2.2, .slice yea yen yec] 63 (0, 0)
    obtain ⟨hCV, -, hVg⟩ := rw_vals (HRok.out q hq)
    exact refHolds_any (Q := fun _ => True) (by decide) hCV hVg [gP u] (Nat.le_refl 1) (fun x hx => by rw [List.mem_singleton] at hx; subst hx; exact hwfu) ((r1.keep (by decide) fun b _ hl => hb'.block b hl).mono (by decide) fun _ _ _ => trivial) (hr.keep (by decide) fun b _ hl => hb1.block b hl) (row1_g (x := gP u) (b := w1.heap.size) (show Ce _ w1.heap.size 0 (gP u).1.1 (gP u).1.2 (.slice yea yen yec) from by rw [hptu]; exact ⟨hc2 0, hc2 1, hc2 2, hc2 3, hc2 4, hc2 5, hc2 6⟩) (slk hSy hb'))
  have HSel : Hid (∀ w1, Below W4.heap.size W4 w1 → Calls Tryz.prog 12 #[.agg #[.int .i64 6, .string ⟨#[116]⟩, .string ⟨#[]⟩, .slice none 0 0, .slice none 0 0, .slice none 0 0, .slice none 0 0, .string ⟨#[]⟩, .slice none 0 0, .slice (some ⟨w1.heap.size, 0, none⟩) 1 1, .slice none 0 0, .bool false, .slice none 0 0], .agg #[.string ⟨#[116]⟩, .slice ca cn cc, .slice xa xn xc], .agg #[.string ⟨#[]⟩, .slice none 0 0, .slice none 0 0], .slice ba L.length bc, .slice none 0 0] (w1.alloc (.cells #[.int .i64 15, .int .i64 0, .int .i64 0, .string ⟨#[]⟩, .string ⟨#[]⟩, .string ⟨#[]⟩, .slice (some ⟨q9, 0, none⟩) 2 2] 63)) (TeSel (w1.alloc (.cells #[.int .i64 15, .int .i64 0, .int .i64 0, .string ⟨#[]⟩, .string ⟨#[]⟩, .string ⟨#[]⟩, .slice (some ⟨q9, 0, none⟩) 2 2] 63)) (fndP (fun r => thenP (hoR I0 r [gP t]) (hoR I0 r [gP u])) L).2 (fndP (fun r => thenP (hoR I0 r [gP t]) (hoR I0 r [gP u])) L).1)) := hid fun w1 hb => by
    have hb0 := Below.on hb4 hb
    have hb' := bal hb0 (.cells #[.int .i64 15, .int .i64 0, .int .i64 0, .string ⟨#[]⟩, .string ⟨#[]⟩, .string ⟨#[]⟩, .slice (some ⟨q9, 0, none⟩) 2 2] 63)
    have hb1 := bal hb (.cells #[.int .i64 15, .int .i64 0, .int .i64 0, .string ⟨#[]⟩, .string ⟨#[]⟩, .string ⟨#[]⟩, .slice (some ⟨q9, 0, none⟩) 2 2] 63)
    have hc2 := cell_new w1 #[.int .i64 15, .int .i64 0, .int .i64 0, .string ⟨#[]⟩, .string ⟨#[]⟩, .string ⟨#[]⟩, .slice (some ⟨q9, 0, none⟩) 2 2] 63 (0, 0)
    have hfn : fndP (fun r => hoL (scP [tbT]) r [orX (gP t) (gP u)]) L = fndP (fun r => thenP (hoR I0 r [gP t]) (hoR I0 r [gP u])) L := fnd_congr fun r hr => by
      obtain ⟨hCV, hKV, hVg⟩ := rw_vals (HRok.out r hr)
      exact or_step (K := K0) (ag_any hCV rfl hKV (gP t) hlf) (ag_any hCV rfl hKV (gP u) hlfu) hkd hkdu
    have hS := selP_any (s := ⟨6, ⟨#[116]⟩, ⟨#[]⟩, (none, 0, 0), (none, 0, 0), (none, 0, 0), (none, 0, 0), ⟨#[]⟩, (none, 0, 0), (some ⟨w1.heap.size, 0, none⟩, 1, 1), (none, 0, 0), false, (none, 0, 0)⟩) rfl rfl ⟨rfl, Nat.zero_le _⟩ rfl (t := tbT) (by decide) (c := (ca, cn, cc)) (x := (xa, xn, xc)) (c2 := (none, 0, 0)) (x2 := (none, 0, 0)) (lr := (ba, L.length, bc)) (rr := (none, 0, 0)) (n2 := ⟨#[]⟩) (w := w1.alloc (.cells #[.int .i64 15, .int .i64 0, .int .i64 0, .string ⟨#[]⟩, .string ⟨#[]⟩, .string ⟨#[]⟩, .slice (some ⟨q9, 0, none⟩) 2 2] 63)) (hcol6.keep (by decide) fun b _ hl => hb'.block b hl) (hidx6.keep (by decide) fun b _ hl => hb'.block b hl) (rI.keep (by decide) fun b _ hl => hb1.block b hl) (by omega)
      (fun r hr => ⟨(HRok.out r hr).1, fun v hv => by have hg := rwOK_good (HRok.out r hr) v hv; exact ⟨hg.2.1, mayV_size hg.1⟩⟩) (l := [orX (gP t) (gP u)]) (Nat.le_refl 1) (fun x hx => by rw [List.mem_singleton] at hx; subst hx; exact ⟨fits0, ⟨(wf_ft hwf).1, (wf_ft hwf).2, (wf_ft hwfu).1, (wf_ft hwfu).2, trivial⟩⟩) (row1_g (x := orX (gP t) (gP u)) (b := w1.heap.size) (show Ce _ w1.heap.size 0 15 nP (.slice (some ⟨q9, 0, none⟩) 2 2) from ⟨hc2 0, hc2 1, hc2 2, hc2 3, hc2 4, hc2 5, hc2 6⟩) ⟨hSO.1, hSO.2.1, hSO.2.2.1, fun hn => by
        obtain ⟨b, o, e1, hq, hf⟩ := hSO.2.2.2 hn
        exact ⟨b, o, e1, hq, FoG.keep (fun k _ hk => hb'.block k hk) hq hf⟩⟩)
    rw [hfn] at hS
    dsimp only [stV] at hS
    exact hS
  have HSel2 : Hid _ := HSel
  have HZ : Hid (∀ z ∈ Z0, RowIs eVal (fun _ => True) W4 (slV z.1) z.2) := hid hZr
  have HZs : Hid (∀ w', Below W4.heap.size W4 w' → ∀ i z, Z0[i]? = some z → ∃ b o, ba = some ⟨b, o, none⟩ ∧ w'.cell? ⟨b, o + i, none⟩ = some (slV z.1)) := hid fun w' hb i z hz => by
    obtain ⟨b, o, e, hc⟩ := hZs i z hz
    exact ⟨b, o, e, cell_later hb hc⟩
  have HZm : Hid _ := hid hZm
  obtain ⟨hF, hhF⟩ : ∃ hF : List Vt → Bool × Int, (fun r => thenP (hoR I0 r [gP t]) (hoR I0 r [gP u])) = hF := ⟨_, rfl⟩
  rw [hhF] at HSel
  have HF : Hid _ := hid hhF
  have HFin : Hid (∀ w', Below W4.heap.size W4 w' → Below w.heap.size w w') := hid fun w' hb => Below.on hw hb
  clear hTe hO rI hZr hZs hZm HSel2 hhF hSO hcol6 hidx6 r1 hcolT hidx hE4 hEu hSx hSy slk hwf hwfu hlf hlfu hkd hkdu hnt hntu hpt hptu HRok hU4 hU6 hb4 b9 b12 hszx hw HRw css
  go_wp2
  go_loopw [14, 15, 16, 17, 18, 19, 20] (fun v14 v15 v16 v17 v18 v19 v20 wr => ∃ (k : Nat) (va : Option Addr) (vm vd : Nat) (Zs : List Zt), k ≤ L.length ∧ v16 = .int .i64 k ∧ v15 = .int .i64 (fndP hF (L.take k)).2 ∧ v14 = .slice va vm vd ∧ OwnR 42 1 W4.heap.size wr (.slice va vm vd) (zC Zs) ∧ Zs.length ≤ k ∧ Below W4.heap.size W4 wr ∧ Hid (Zs.map (·.2) = (fndP hF (L.take k)).1 ∧ ∀ z ∈ Zs, RowIs eVal (fun _ => True) W4 (slV z.1) z.2)) (fun _ _ i _ _ _ _ _ => L.length - (intOf i).toNat)
  case atStart => exact ⟨0, none, 0, 0, [], Nat.zero_le _, rfl, rfl, rfl, OwnR.nil _ _ _ _, Nat.le_refl _, Below.refl _ _, hid ⟨rfl, fun z hz => by simp at hz⟩⟩
  case round =>
    obtain ⟨k, va, vm, vd, Zs, hk, rfl, rfl, rfl, hO, hZk, hB, HW⟩ := hrel
    obtain ⟨E, hE⟩ : ∃ E, (fndP hF (L.take k)).2 = E := ⟨_, rfl⟩
    have HE : Hid _ := hid hE
    rw [hE]
    by_cases hlt : k < L.length ∧ E = 0
    · obtain ⟨hlt, rfl⟩ := hlt
      have hkZ : k < Z0.length := by omega
      obtain ⟨b, o, rfl, x0⟩ := HZs.out wr hB k Z0[k] (List.getElem?_eq_getElem hkZ)
      have rk := HZ.out _ (List.getElem_mem hkZ)
      have hzk : Z0[k].2 = L[k] := by
        have := List.getElem_of_eq HZm.out (i := k) (by rw [List.length_map]; exact hkZ)
        rw [List.getElem_map] at this
        exact this
      obtain ⟨z, hz⟩ : ∃ z, Z0[k] = z := ⟨_, rfl⟩
      rw [hz] at x0 rk hzk
      obtain ⟨⟨ra, rm, rd⟩, r⟩ := z
      dsimp only [slV] at x0 rk hzk
      have hmem : r ∈ L := by rw [hzk]; exact List.getElem_mem _
      have HHx2 : Hid (∀ y, Below wr.heap.size wr y → _) := hid fun y hb => HHx.out y (Below.on hB hb) r ra rm rd hmem (rk.keep (by decide) fun b _ hl => (Below.on hB hb).block b hl)
      have HHy2 : Hid (∀ y, Below W4.heap.size W4 y → _) := hid fun y hb => HHy.out y hb r ra rm rd hmem (rk.keep (by decide) fun b _ hl => hb.block b hl)
      obtain ⟨P, hP⟩ : ∃ P, hoR I0 r [gP t] = P := ⟨_, rfl⟩
      obtain ⟨P2, hP2⟩ : ∃ P, hoR I0 r [gP u] = P := ⟨_, rfl⟩
      rw [hP] at HHx2
      rw [hP2] at HHy2
      have HN : Hid (fndP hF (L.take (k + 1)) = if (thenP P P2).2 ≠ 0 then ((fndP hF (L.take k)).1, (thenP P P2).2) else if (thenP P P2).1 then ((fndP hF (L.take k)).1 ++ [r], 0) else ((fndP hF (L.take k)).1, 0)) := hid (by
        have hr1 : hF r = thenP P P2 := by rw [← HF.out]; show thenP (hoR I0 r [gP t]) (hoR I0 r [gP u]) = _; rw [hP, hP2]
        rw [List.take_succ_eq_append_getElem hlt, ← hzk, fnd_snoc hF r _ HE.out, hr1])
      have HRk : Hid _ := hid rk
      obtain ⟨p, e⟩ := P
      obtain ⟨q, f⟩ := P2
      dsimp only at HHx2 HHy2
      have hkI : (k : Int) < (L.length : Int) := by omega
      have hwk := wrapS hlt hbc hbm
      clear hz hzk hmem rk hP hP2 hkZ HHx HHy
      replace t0 := cell_later hB t0
      replace t1 := cell_later hB t1
      replace t2 := cell_later hB t2
      replace xd0 := cell_later hB xd0
      replace xd1 := cell_later hB xd1
      replace xd2 := cell_later hB xd2
      replace xd3 := cell_later hB xd3
      replace xd4 := cell_later hB xd4
      replace xd5 := cell_later hB xd5
      replace xd6 := cell_later hB xd6
      replace yd0 := cell_later hB yd0
      replace yd1 := cell_later hB yd1
      replace yd2 := cell_later hB yd2
      replace yd3 := cell_later hB yd3
      replace yd4 := cell_later hB yd4
      replace yd5 := cell_later hB yd5
      replace yd6 := cell_later hB yd6
      replace od0 := cell_later hB od0
      replace od1 := cell_later hB od1
      replace od2 := cell_later hB od2
      replace od3 := cell_later hB od3
      replace od4 := cell_later hB od4
      replace od5 := cell_later hB od5
      replace od6 := cell_later hB od6
      go_upto_region 16 with fail
      have hY : Below wr.heap.size wr wr.drew := (Below.refl _ wr).drew
      refine wp_region_held_drew (S := fun w' => w'.cell? ⟨b, o + k, none⟩ = some (.slice ra rm rd) ∧ w'.cell? ⟨qx, 0, none⟩ = some (.int .i64 xo) ∧ w'.cell? ⟨qx, 1, none⟩ = some (.int .i64 xp.1) ∧ w'.cell? ⟨qx, 2, none⟩ = some (.int .i64 xp.2.1) ∧ w'.cell? ⟨qx, 3, none⟩ = some (.string xp.2.2.1) ∧ w'.cell? ⟨qx, 4, none⟩ = some (.string xp.2.2.2.1) ∧ w'.cell? ⟨qx, 5, none⟩ = some (.string xp.2.2.2.2) ∧ w'.cell? ⟨qx, 6, none⟩ = some (.slice xea xen xec)) (by kernel_rfl) (⟨cell_later hY x0, cell_later hY xd0, cell_later hY xd1, cell_later hY xd2, cell_later hY xd3, cell_later hY xd4, cell_later hY xd5, cell_later hY xd6⟩) (fun hHeld => ?_)
      generalize wr.drew = y at *
      refine wpAnyH_take (i := 0) (v := ?tv3001) rfl (by kernel_rfl) (by kernel_rfl) (by kernel_rfl) (fun _ _ _ h => h) (Or.inl ⟨by rfl, ?hy3001⟩) (by assumption) ?rs3001
      case hy3001 => (intro w9 hSw; (try dsimp only at hSw); go_simp; (try with_reducible rfl))
      (try simp only [Act.put, List.getElem_toArray, List.getElem_cons_zero, List.getElem_cons_succ, List.setIfInBounds_toArray, List.set_cons_zero, List.set_cons_succ])
      refine wpAnyH_take (i := 1) (v := ?tv3002) rfl (by kernel_rfl) (by kernel_rfl) (by kernel_rfl) (fun _ _ _ h => h) (Or.inl ⟨by rfl, ?hy3002⟩) (by assumption) ?rs3002
      case hy3002 => (intro w9 hSw; (try dsimp only at hSw); go_simp; (try with_reducible rfl))
      (try simp only [Act.put, List.getElem_toArray, List.getElem_cons_zero, List.getElem_cons_succ, List.setIfInBounds_toArray, List.set_cons_zero, List.set_cons_succ])
      refine wpAnyH_take (i := 2) (v := ?tv3003) rfl (by kernel_rfl) (by kernel_rfl) (by kernel_rfl) (fun _ _ _ h => h) (Or.inl ⟨by rfl, ?hy3003⟩) (by assumption) ?rs3003
      case hy3003 => (intro w9 hSw; (try dsimp only at hSw); go_simp; (try with_reducible rfl))
      (try simp only [Act.put, List.getElem_toArray, List.getElem_cons_zero, List.getElem_cons_succ, List.setIfInBounds_toArray, List.set_cons_zero, List.set_cons_succ])
      refine wpAnyH_take (i := 3) (v := ?tv3004) rfl (by kernel_rfl) (by kernel_rfl) (by kernel_rfl) (fun _ _ _ h => h) (Or.inl ⟨by rfl, ?hy3004⟩) (by assumption) ?rs3004
      case hy3004 => (intro w9 hSw; (try dsimp only at hSw); go_simp; (try with_reducible rfl))
      (try simp only [Act.put, List.getElem_toArray, List.getElem_cons_zero, List.getElem_cons_succ, List.setIfInBounds_toArray, List.set_cons_zero, List.set_cons_succ])
      refine wpAnyH_take (i := 4) (v := ?tv3005) rfl (by kernel_rfl) (by kernel_rfl) (by kernel_rfl) (fun _ _ _ h => h) (Or.inl ⟨by rfl, ?hy3005⟩) (by assumption) ?rs3005
      case hy3005 => (intro w9 hSw; (try dsimp only at hSw); go_simp; (try with_reducible rfl))
      (try simp only [Act.put, List.getElem_toArray, List.getElem_cons_zero, List.getElem_cons_succ, List.setIfInBounds_toArray, List.set_cons_zero, List.set_cons_succ])
      refine wpAnyH_take (i := 5) (v := ?tv3006) rfl (by kernel_rfl) (by kernel_rfl) (by kernel_rfl) (fun _ _ _ h => h) (Or.inl ⟨by rfl, ?hy3006⟩) (by assumption) ?rs3006
      case hy3006 => (intro w9 hSw; (try dsimp only at hSw); go_simp; (try with_reducible rfl))
      (try simp only [Act.put, List.getElem_toArray, List.getElem_cons_zero, List.getElem_cons_succ, List.setIfInBounds_toArray, List.set_cons_zero, List.set_cons_succ])
      refine wpAnyH_ready (rs := [6]) (by kernel_rfl) (by simp) ?_
      refine AllReadyH.cons rfl (fun K hK => ?_) AllReadyH.nil
      go_simp
      have hY1 := bal hY (.cells #[.int .i64 xo, .int .i64 xp.1, .int .i64 xp.2.1, .string xp.2.2.1, .string xp.2.2.2.1, .string xp.2.2.2.2, .slice xea xen xec] 63)
      refine hK.out _ _ (⟨cell_later hY1 x0, cell_later hY1 xd0, cell_later hY1 xd1, cell_later hY1 xd2, cell_later hY1 xd3, cell_later hY1 xd4, cell_later hY1 xd5, cell_later hY1 xd6⟩) (fun hHeld => ?_)
      clear hK K
      (try simp only [Act.put, List.getElem_toArray, List.getElem_cons_zero, List.getElem_cons_succ, List.setIfInBounds_toArray, List.set_cons_zero, List.set_cons_succ])
      refine wpAnyH_ready (rs := [7]) (by kernel_rfl) (by simp) ?_
      refine AllReadyH.cons rfl (fun K hK => ?_) AllReadyH.nil
      go_simp
      go_wp2_with (first | (go_at_call 23; (refine Calls.mono (HHx2.out y hY) ?_); rintro e9 y9 ⟨rfl, hby⟩))
      replace hY := Below.on hY1 hby
      refine hK.out _ _ (⟨cell_later hY x0, cell_later hY xd0, cell_later hY xd1, cell_later hY xd2, cell_later hY xd3, cell_later hY xd4, cell_later hY xd5, cell_later hY xd6⟩) (fun hHeld => ?_)
      clear hK K hby hY1
      (try simp only [Act.put, List.getElem_toArray, List.getElem_cons_zero, List.getElem_cons_succ, List.setIfInBounds_toArray, List.set_cons_zero, List.set_cons_succ])
      skip
      refine wpAnyH_take (i := 8) (v := ?tv3007) rfl (by kernel_rfl) (by kernel_rfl) (by kernel_rfl) (fun _ _ _ h => h) (Or.inl ⟨by rfl, ?hy3007⟩) (by assumption) ?rs3007
      case hy3007 => (intro w9 hSw; (try dsimp only at hSw); go_simp; (try with_reducible rfl))
      (try simp only [Act.put, List.getElem_toArray, List.getElem_cons_zero, List.getElem_cons_succ, List.setIfInBounds_toArray, List.set_cons_zero, List.set_cons_succ])
      refine wpAnyH_take (i := 9) (v := ?tv3008) rfl (by kernel_rfl) (by kernel_rfl) (by kernel_rfl) (fun _ _ _ h => h) (Or.inl ⟨by rfl, ?hy3008⟩) (by assumption) ?rs3008
      case hy3008 => (intro w9 hSw; (try dsimp only at hSw); go_simp; (try with_reducible rfl))
      (try simp only [Act.put, List.getElem_toArray, List.getElem_cons_zero, List.getElem_cons_succ, List.setIfInBounds_toArray, List.set_cons_zero, List.set_cons_succ])
      refine wpAnyH_take (i := 10) (v := ?tv3009) rfl (by kernel_rfl) (by kernel_rfl) (by kernel_rfl) (fun _ _ _ h => h) (Or.inl ⟨by rfl, ?hy3009⟩) (by assumption) ?rs3009
      case hy3009 => (intro w9 hSw; (try dsimp only at hSw); go_simp; (try with_reducible rfl))
      (try simp only [Act.put, List.getElem_toArray, List.getElem_cons_zero, List.getElem_cons_succ, List.setIfInBounds_toArray, List.set_cons_zero, List.set_cons_succ])
      refine wpAnyH_ready (rs := [11]) (by kernel_rfl) (by simp) ?_
      refine AllReadyH.cons rfl (fun K hK => ?_) AllReadyH.nil
      go_simp
      refine hK.out _ _ (⟨cell_later hY x0, cell_later hY xd0, cell_later hY xd1, cell_later hY xd2, cell_later hY xd3, cell_later hY xd4, cell_later hY xd5, cell_later hY xd6⟩) (fun hHeld => ?_)
      clear hK K
      (try simp only [Act.put, List.getElem_toArray, List.getElem_cons_zero, List.getElem_cons_succ, List.setIfInBounds_toArray, List.set_cons_zero, List.set_cons_succ])
      refine wpAnyH_ready (rs := [12]) (by kernel_rfl) (by simp) ?_
      refine AllReadyH.cons rfl (fun K hK => ?_) AllReadyH.nil
      go_simp
      refine hK.out _ _ (⟨cell_later hY x0, cell_later hY xd0, cell_later hY xd1, cell_later hY xd2, cell_later hY xd3, cell_later hY xd4, cell_later hY xd5, cell_later hY xd6⟩) (fun hHeld => ?_)
      clear hK K
      (try simp only [Act.put, List.getElem_toArray, List.getElem_cons_zero, List.getElem_cons_succ, List.setIfInBounds_toArray, List.set_cons_zero, List.set_cons_succ])
      refine wpAnyH_done (by kernel_rfl) ?_ _
      clear hHeld
      clear HHx2
      replace hB := Below.on hB hY
      replace hO := hO.later hY
      replace x0 := cell_later hY x0
      replace xd0 := cell_later hY xd0
      replace xd1 := cell_later hY xd1
      replace xd2 := cell_later hY xd2
      replace xd3 := cell_later hY xd3
      replace xd4 := cell_later hY xd4
      replace xd5 := cell_later hY xd5
      replace xd6 := cell_later hY xd6
      replace yd0 := cell_later hY yd0
      replace yd1 := cell_later hY yd1
      replace yd2 := cell_later hY yd2
      replace yd3 := cell_later hY yd3
      replace yd4 := cell_later hY yd4
      replace yd5 := cell_later hY yd5
      replace yd6 := cell_later hY yd6
      clear hY
      have HHy3 : Hid (∀ y, Below y9.heap.size y9 y → _) := hid fun y hb => HHy2.out y (Below.on hB hb)
      clear HHy2
      go_upto_region 17 with fail
      have hY : Below y9.heap.size y9 y9.drew := (Below.refl _ y9).drew
      refine wp_region_held_drew (S := fun w' => w'.cell? ⟨b, o + k, none⟩ = some (.slice ra rm rd) ∧ w'.cell? ⟨qy, 0, none⟩ = some (.int .i64 yo) ∧ w'.cell? ⟨qy, 1, none⟩ = some (.int .i64 yp.1) ∧ w'.cell? ⟨qy, 2, none⟩ = some (.int .i64 yp.2.1) ∧ w'.cell? ⟨qy, 3, none⟩ = some (.string yp.2.2.1) ∧ w'.cell? ⟨qy, 4, none⟩ = some (.string yp.2.2.2.1) ∧ w'.cell? ⟨qy, 5, none⟩ = some (.string yp.2.2.2.2) ∧ w'.cell? ⟨qy, 6, none⟩ = some (.slice yea yen yec)) (by kernel_rfl) (⟨cell_later hY x0, cell_later hY yd0, cell_later hY yd1, cell_later hY yd2, cell_later hY yd3, cell_later hY yd4, cell_later hY yd5, cell_later hY yd6⟩) (fun hHeld => ?_)
      generalize y9.drew = y2 at *
      refine wpAnyH_take (i := 0) (v := ?tv3010) rfl (by kernel_rfl) (by kernel_rfl) (by kernel_rfl) (fun _ _ _ h => h) (Or.inl ⟨by rfl, ?hy3010⟩) (by assumption) ?rs3010
      case hy3010 => (intro w9 hSw; (try dsimp only at hSw); go_simp; (try with_reducible rfl))
      (try simp only [Act.put, List.getElem_toArray, List.getElem_cons_zero, List.getElem_cons_succ, List.setIfInBounds_toArray, List.set_cons_zero, List.set_cons_succ])
      refine wpAnyH_take (i := 1) (v := ?tv3011) rfl (by kernel_rfl) (by kernel_rfl) (by kernel_rfl) (fun _ _ _ h => h) (Or.inl ⟨by rfl, ?hy3011⟩) (by assumption) ?rs3011
      case hy3011 => (intro w9 hSw; (try dsimp only at hSw); go_simp; (try with_reducible rfl))
      (try simp only [Act.put, List.getElem_toArray, List.getElem_cons_zero, List.getElem_cons_succ, List.setIfInBounds_toArray, List.set_cons_zero, List.set_cons_succ])
      refine wpAnyH_take (i := 2) (v := ?tv3012) rfl (by kernel_rfl) (by kernel_rfl) (by kernel_rfl) (fun _ _ _ h => h) (Or.inl ⟨by rfl, ?hy3012⟩) (by assumption) ?rs3012
      case hy3012 => (intro w9 hSw; (try dsimp only at hSw); go_simp; (try with_reducible rfl))
      (try simp only [Act.put, List.getElem_toArray, List.getElem_cons_zero, List.getElem_cons_succ, List.setIfInBounds_toArray, List.set_cons_zero, List.set_cons_succ])
      refine wpAnyH_take (i := 3) (v := ?tv3013) rfl (by kernel_rfl) (by kernel_rfl) (by kernel_rfl) (fun _ _ _ h => h) (Or.inl ⟨by rfl, ?hy3013⟩) (by assumption) ?rs3013
      case hy3013 => (intro w9 hSw; (try dsimp only at hSw); go_simp; (try with_reducible rfl))
      (try simp only [Act.put, List.getElem_toArray, List.getElem_cons_zero, List.getElem_cons_succ, List.setIfInBounds_toArray, List.set_cons_zero, List.set_cons_succ])
      refine wpAnyH_take (i := 4) (v := ?tv3014) rfl (by kernel_rfl) (by kernel_rfl) (by kernel_rfl) (fun _ _ _ h => h) (Or.inl ⟨by rfl, ?hy3014⟩) (by assumption) ?rs3014
      case hy3014 => (intro w9 hSw; (try dsimp only at hSw); go_simp; (try with_reducible rfl))
      (try simp only [Act.put, List.getElem_toArray, List.getElem_cons_zero, List.getElem_cons_succ, List.setIfInBounds_toArray, List.set_cons_zero, List.set_cons_succ])
      refine wpAnyH_take (i := 5) (v := ?tv3015) rfl (by kernel_rfl) (by kernel_rfl) (by kernel_rfl) (fun _ _ _ h => h) (Or.inl ⟨by rfl, ?hy3015⟩) (by assumption) ?rs3015
      case hy3015 => (intro w9 hSw; (try dsimp only at hSw); go_simp; (try with_reducible rfl))
      (try simp only [Act.put, List.getElem_toArray, List.getElem_cons_zero, List.getElem_cons_succ, List.setIfInBounds_toArray, List.set_cons_zero, List.set_cons_succ])
      refine wpAnyH_ready (rs := [6]) (by kernel_rfl) (by simp) ?_
      refine AllReadyH.cons rfl (fun K hK => ?_) AllReadyH.nil
      go_simp
      have hY1 := bal hY (.cells #[.int .i64 yo, .int .i64 yp.1, .int .i64 yp.2.1, .string yp.2.2.1, .string yp.2.2.2.1, .string yp.2.2.2.2, .slice yea yen yec] 63)
      refine hK.out _ _ (⟨cell_later hY1 x0, cell_later hY1 yd0, cell_later hY1 yd1, cell_later hY1 yd2, cell_later hY1 yd3, cell_later hY1 yd4, cell_later hY1 yd5, cell_later hY1 yd6⟩) (fun hHeld => ?_)
      clear hK K
      (try simp only [Act.put, List.getElem_toArray, List.getElem_cons_zero, List.getElem_cons_succ, List.setIfInBounds_toArray, List.set_cons_zero, List.set_cons_succ])
      refine wpAnyH_ready (rs := [7]) (by kernel_rfl) (by simp) ?_
      refine AllReadyH.cons rfl (fun K hK => ?_) AllReadyH.nil
      go_simp
      go_wp2_with (first | (go_at_call 23; (refine Calls.mono (HHy3.out y2 hY) ?_); rintro e9 Y ⟨rfl, hby⟩))
      replace hY := Below.on hY1 hby
      refine hK.out _ _ (⟨cell_later hY x0, cell_later hY yd0, cell_later hY yd1, cell_later hY yd2, cell_later hY yd3, cell_later hY yd4, cell_later hY yd5, cell_later hY yd6⟩) (fun hHeld => ?_)
      clear hK K hby hY1
      (try simp only [Act.put, List.getElem_toArray, List.getElem_cons_zero, List.getElem_cons_succ, List.setIfInBounds_toArray, List.set_cons_zero, List.set_cons_succ])
      skip
      refine wpAnyH_take (i := 8) (v := ?tv3016) rfl (by kernel_rfl) (by kernel_rfl) (by kernel_rfl) (fun _ _ _ h => h) (Or.inl ⟨by rfl, ?hy3016⟩) (by assumption) ?rs3016
      case hy3016 => (intro w9 hSw; (try dsimp only at hSw); go_simp; (try with_reducible rfl))
      (try simp only [Act.put, List.getElem_toArray, List.getElem_cons_zero, List.getElem_cons_succ, List.setIfInBounds_toArray, List.set_cons_zero, List.set_cons_succ])
      refine wpAnyH_take (i := 9) (v := ?tv3017) rfl (by kernel_rfl) (by kernel_rfl) (by kernel_rfl) (fun _ _ _ h => h) (Or.inl ⟨by rfl, ?hy3017⟩) (by assumption) ?rs3017
      case hy3017 => (intro w9 hSw; (try dsimp only at hSw); go_simp; (try with_reducible rfl))
      (try simp only [Act.put, List.getElem_toArray, List.getElem_cons_zero, List.getElem_cons_succ, List.setIfInBounds_toArray, List.set_cons_zero, List.set_cons_succ])
      refine wpAnyH_take (i := 10) (v := ?tv3018) rfl (by kernel_rfl) (by kernel_rfl) (by kernel_rfl) (fun _ _ _ h => h) (Or.inl ⟨by rfl, ?hy3018⟩) (by assumption) ?rs3018
      case hy3018 => (intro w9 hSw; (try dsimp only at hSw); go_simp; (try with_reducible rfl))
      (try simp only [Act.put, List.getElem_toArray, List.getElem_cons_zero, List.getElem_cons_succ, List.setIfInBounds_toArray, List.set_cons_zero, List.set_cons_succ])
      refine wpAnyH_ready (rs := [11]) (by kernel_rfl) (by simp) ?_
      refine AllReadyH.cons rfl (fun K hK => ?_) AllReadyH.nil
      go_simp
      refine hK.out _ _ (⟨cell_later hY x0, cell_later hY yd0, cell_later hY yd1, cell_later hY yd2, cell_later hY yd3, cell_later hY yd4, cell_later hY yd5, cell_later hY yd6⟩) (fun hHeld => ?_)
      clear hK K
      (try simp only [Act.put, List.getElem_toArray, List.getElem_cons_zero, List.getElem_cons_succ, List.setIfInBounds_toArray, List.set_cons_zero, List.set_cons_succ])
      refine wpAnyH_ready (rs := [12]) (by kernel_rfl) (by simp) ?_
      refine AllReadyH.cons rfl (fun K hK => ?_) AllReadyH.nil
      go_simp
      refine hK.out _ _ (⟨cell_later hY x0, cell_later hY yd0, cell_later hY yd1, cell_later hY yd2, cell_later hY yd3, cell_later hY yd4, cell_later hY yd5, cell_later hY yd6⟩) (fun hHeld => ?_)
      clear hK K
      (try simp only [Act.put, List.getElem_toArray, List.getElem_cons_zero, List.getElem_cons_succ, List.setIfInBounds_toArray, List.set_cons_zero, List.set_cons_succ])
      refine wpAnyH_done (by kernel_rfl) ?_ _
      clear hHeld
      clear HHy3
      replace hB := Below.on hB hY
      replace hO := hO.later hY
      replace x0 := cell_later hY x0
      clear hY t0 t1 t2 xd0 xd1 xd2 xd3 xd4 xd5 xd6 yd0 yd1 yd2 yd3 yd4 yd5 yd6 od0 od1 od2 od3 od4 od5 od6
      by_cases he : e = 0
      · subst he
        cases p with
        | true =>
          have HN2 : Hid (fndP hF (L.take (k + 1)) = ((fndP hF (L.take k)).1 ++ [r], 0)) := hid (by rw [HN.out]; simp [thenP])
          have hO6 := hO.alloc (.cells #[.slice ra rm rd] 42)
          have hB6 := bal hB (.cells #[.slice ra rm rd] 42)
          have hs6 : W4.heap.size ≤ (Y.alloc (.cells #[.slice ra rm rd] 42)).heap.size := hB6.size
          clear HN
          go_wp2_with (first | (at_builtin; go_must (refine wpList_appR Tryz.underlying36 Tryz.infoTRow rfl (by decide) (by decide) rfl (.tmp 102) (.tmp 107) rfl _ (zC Zs) Y.heap.size [.slice ra rm rd] rfl rfl hO6 rfl (by simp [Value.oneCell']) (newV1 Y _ _) (by rw [zC_len]; omega) hs6 ?_)) | fail)
          intro v' w6 hO7 hg6 hown
          obtain ⟨a6, m6, d6, rfl⟩ := hO7.sl
          have hB7 := below_grows hB6 hs6 hg6 fun q e => (hO6.blk q e).1
          have hO8 : OwnR 42 1 W4.heap.size w6 (.slice a6 m6 d6) (zC (Zs ++ [((ra, rm, rd), r)])) := by rw [show zC (Zs ++ [((ra, rm, rd), r)]) = zC Zs ++ [[.slice ra rm rd]] from by simp [zC]]; exact hO7
          have HW8 : Hid ((Zs ++ [((ra, rm, rd), r)]).map (·.2) = (fndP hF (L.take (k + 1))).1 ∧ ∀ z ∈ Zs ++ [((ra, rm, rd), r)], RowIs eVal (fun _ => True) W4 (slV z.1) z.2) := hid ⟨by rw [HN2.out, List.map_append, HW.out.1]; rfl, fun z hz => by
            rcases List.mem_append.1 hz with hz | hz
            · exact HW.out.2 z hz
            · rw [List.mem_singleton] at hz; subst hz; exact HRk.out⟩
          clear hO6 hB6 hO7 hg6 hown HW hO hs6
          go_wp2
          go_roundw
          case rel => exact ⟨k + 1, a6, m6, d6, _, by omega, by go_num, by rw [HN2.out], rfl, hO8, by rw [List.length_append]; simp; omega, hB7, HW8⟩
          case measure => simp only [intOf]; omega
        | false =>
          by_cases hf : f = 0
          · subst hf
            cases q with
            | true =>
              have HN2 : Hid (fndP hF (L.take (k + 1)) = ((fndP hF (L.take k)).1 ++ [r], 0)) := hid (by rw [HN.out]; simp [thenP])
              have hO6 := hO.alloc (.cells #[.slice ra rm rd] 42)
              have hB6 := bal hB (.cells #[.slice ra rm rd] 42)
              have hs6 : W4.heap.size ≤ (Y.alloc (.cells #[.slice ra rm rd] 42)).heap.size := hB6.size
              clear HN
              go_wp2_with (first | (at_builtin; go_must (refine wpList_appR Tryz.underlying36 Tryz.infoTRow rfl (by decide) (by decide) rfl (.tmp 115) (.tmp 120) rfl _ (zC Zs) Y.heap.size [.slice ra rm rd] rfl rfl hO6 rfl (by simp [Value.oneCell']) (newV1 Y _ _) (by rw [zC_len]; omega) hs6 ?_)) | fail)
              intro v' w6 hO7 hg6 hown
              obtain ⟨a6, m6, d6, rfl⟩ := hO7.sl
              have hB7 := below_grows hB6 hs6 hg6 fun q e => (hO6.blk q e).1
              have hO8 : OwnR 42 1 W4.heap.size w6 (.slice a6 m6 d6) (zC (Zs ++ [((ra, rm, rd), r)])) := by rw [show zC (Zs ++ [((ra, rm, rd), r)]) = zC Zs ++ [[.slice ra rm rd]] from by simp [zC]]; exact hO7
              have HW8 : Hid ((Zs ++ [((ra, rm, rd), r)]).map (·.2) = (fndP hF (L.take (k + 1))).1 ∧ ∀ z ∈ Zs ++ [((ra, rm, rd), r)], RowIs eVal (fun _ => True) W4 (slV z.1) z.2) := hid ⟨by rw [HN2.out, List.map_append, HW.out.1]; rfl, fun z hz => by
                rcases List.mem_append.1 hz with hz | hz
                · exact HW.out.2 z hz
                · rw [List.mem_singleton] at hz; subst hz; exact HRk.out⟩
              clear hO6 hB6 hO7 hg6 hown HW hO hs6
              go_wp2
              go_roundw
              case rel => exact ⟨k + 1, a6, m6, d6, _, by omega, by go_num, by rw [HN2.out], rfl, hO8, by rw [List.length_append]; simp; omega, hB7, HW8⟩
              case measure => simp only [intOf]; omega
            | false =>
              have HN2 : Hid (fndP hF (L.take (k + 1)) = ((fndP hF (L.take k)).1, 0)) := hid (by rw [HN.out]; simp [thenP])
              have HW8 : Hid (Zs.map (·.2) = (fndP hF (L.take (k + 1))).1 ∧ ∀ z ∈ Zs, RowIs eVal (fun _ => True) W4 (slV z.1) z.2) := hid ⟨by rw [HN2.out]; exact HW.out.1, HW.out.2⟩
              clear HN
              go_wp2
              go_roundw
              case rel => exact ⟨k + 1, va, vm, vd, Zs, by omega, by go_num, by rw [HN2.out], rfl, hO, by omega, hB, HW8⟩
              case measure => simp only [intOf]; omega
          · have g1 : decide (f = 0) = false := by simpa using hf
            have g2 : (f == 0) = false := by simpa using hf
            have HN2 : Hid (fndP hF (L.take (k + 1)) = ((fndP hF (L.take k)).1, f)) := hid (by rw [HN.out]; simp [thenP, hf])
            have HW8 : Hid (Zs.map (·.2) = (fndP hF (L.take (k + 1))).1 ∧ ∀ z ∈ Zs, RowIs eVal (fun _ => True) W4 (slV z.1) z.2) := hid ⟨by rw [HN2.out]; exact HW.out.1, HW.out.2⟩
            clear HN
            go_wp2
            go_roundw
            case rel => exact ⟨k + 1, va, vm, vd, Zs, by omega, by go_num, by rw [HN2.out], rfl, hO, by omega, hB, HW8⟩
            case measure => simp only [intOf]; omega
      · have g1 : decide (e = 0) = false := by simpa using he
        have g2 : (e == 0) = false := by simpa using he
        have HN2 : Hid (fndP hF (L.take (k + 1)) = ((fndP hF (L.take k)).1, e)) := hid (by rw [HN.out]; simp [thenP, he])
        have HW8 : Hid (Zs.map (·.2) = (fndP hF (L.take (k + 1))).1 ∧ ∀ z ∈ Zs, RowIs eVal (fun _ => True) W4 (slV z.1) z.2) := hid ⟨by rw [HN2.out]; exact HW.out.1, HW.out.2⟩
        clear HN
        go_wp2
        go_roundw
        case rel => exact ⟨k + 1, va, vm, vd, Zs, by omega, by go_num, by rw [HN2.out], rfl, hO, by omega, hB, HW8⟩
        case measure => simp only [intOf]; omega
    · clear HHx HHy HZs
      replace t0 := cell_later hB t0
      replace t1 := cell_later hB t1
      replace t2 := cell_later hB t2
      replace od0 := cell_later hB od0
      replace od1 := cell_later hB od1
      replace od2 := cell_later hB od2
      replace od3 := cell_later hB od3
      replace od4 := cell_later hB od4
      replace od5 := cell_later hB od5
      replace od6 := cell_later hB od6
      have hEx : E ≠ 0 ∨ (E = 0 ∧ k = L.length) := by omega
      have hb7 := bal (Below.refl _ wr) (.cells #[.int .i64 15, .int .i64 0, .int .i64 0, .string ⟨#[]⟩, .string ⟨#[]⟩, .string ⟨#[]⟩, .slice (some ⟨q9, 0, none⟩) 2 2] 63)
      have s0 := cell_later hb7 t0
      have s1 := cell_later hb7 t1
      have s2 := cell_later hb7 t2
      rcases hEx with hE0 | ⟨rfl, rfl⟩
      · have hFL : (fndP hF L).2 = E := by
          have := fnd_stop hF (L.take k) (L.drop k) (by rw [HE.out]; exact hE0)
          rw [List.take_append_drop] at this
          rw [this]; exact HE.out
        have HS : Hid _ := hid (HSel.out wr hB)
        rw [hFL] at HS
        have g1 : decide (E = 0) = false := by simpa using hE0
        have g2 : (E == 0) = false := by simpa using hE0
        have hFi := fun W' (h : Below W4.heap.size W4 W') => HFin.out W' h
        replace hFi : Hid _ := hid hFi
        clear hFL hO HW HZ HZm HSel hlt HE hE
        by_cases hkn : k < L.length
        · have hkI : (k : Int) < (L.length : Int) := by omega
          go_wp2_with fail
          refine Calls.mono HS.out ?_
          rintro e w6 ⟨a6, n6, c6, rfl, -, h0, hb6⟩
          obtain ⟨rfl, rfl, rfl⟩ := h0 hE0
          have hB6 := hFi.out _ (Below.on hB (Below.on hb7 hb6))
          clear h0 hb6 HS
          go_wp2
          go_ret
          exact ⟨by simp, hB6⟩
        · have hkI : ¬ (k : Int) < (L.length : Int) := by omega
          have hkD : decide ((k : Int) < (L.length : Int)) = false := by simpa using hkI
          go_wp2_with fail
          refine Calls.mono HS.out ?_
          rintro e w6 ⟨a6, n6, c6, rfl, -, h0, hb6⟩
          obtain ⟨rfl, rfl, rfl⟩ := h0 hE0
          have hB6 := hFi.out _ (Below.on hB (Below.on hb7 hb6))
          clear h0 hb6 HS
          go_wp2
          go_ret
          exact ⟨by simp, hB6⟩
      · have hT : L.take L.length = L := List.take_length
        have HS : Hid _ := hid (HSel.out wr hB)
        have hw1 := HW.out.1
        have h20 := HE.out
        rw [hT] at hw1 h20
        rw [h20] at HS
        have rW : RowIs eRow (fun _ => True) wr (.slice va vm vd) (fndP hF L).1 := by
          rw [← hw1]
          exact hO.rowsZ fun z hz => (HW.out.2 z hz).keep (by decide) fun b _ hl => hB.block b hl
        have HRW : Hid (∀ w', Below wr.heap.size wr w' → RowIs eRow (fun _ => True) w' (.slice va vm vd) (fndP hF L).1) := hid fun w' hb => rW.keep (by decide) fun b _ hl => hb.block b hl
        have hFi := fun W' (h : Below W4.heap.size W4 W') => HFin.out W' h
        replace hFi : Hid _ := hid hFi
        clear rW hw1 h20 hO HW HZ HZm HSel hlt HE hE hT
        generalize (fndP hF L).1 = R at *
        go_wp2_with fail
        refine Calls.mono HS.out ?_
        rintro e w6 ⟨a6, n6, c6, rfl, h0, -, hb6⟩
        have hB7 := Below.on hb7 hb6
        have HSame : Hid _ := hid (sameRows_any (h0 rfl).row (HRW.out _ hB7))
        have hB6 := hFi.out _ (Below.on hB hB7)
        clear h0 hb6 HS HRW hB7
        go_wp2_with fail
        refine Calls.mono HSame.out ?_
        rintro e w8 ⟨rfl, hb8⟩
        have hB8 := Below.on hB6 hb8
        rw [decide_true]
        clear HSame
        go_wp2
        go_ret
        exact ⟨by first | rfl | simp, hB8⟩

end Go.Proofs.YtnlaaejdianfjaaGreat
