import Derived.Test.YtbmfehacnigknaaQsam
import Derived.Test.YtbmfehacnigknaaQsaa
import Derived.ProofKit
import Derived.OpenShut
import Derived.ShutString
import Derived.ChangeOld
import Derived.Below
import Derived.Deep.Strs
import Derived.ChangeMaps5
namespace Go.Proofs.Ytbmfehacnigknaa
open Go.RowKit
set_option linter.unusedVariables false
set_option linter.unusedSimpArgs false

abbrev xTw (op : Int) (x y : Pg × Tg) : Pg × Tg := ((op, nP), .node 0 0 x.1 x.2 (.node 0 0 y.1 y.2 .nil))
abbrev xOn (op : Int) (x : Pg × Tg) : Pg × Tg := ((op, nP), .node 0 0 x.1 x.2 .nil)
set_option maxRecDepth 100000 in
set_option maxHeartbeats 16000000 in
theorem evalShort_any {a : Option Addr} {len cap : Nat} {a1 : Option Addr} {len1 cap1 : Nat} {a2 : Option Addr} {len2 cap2 : Nat} (w : World) (hlc : len ≤ cap) (hcm : cap ≤ 9223372036854775807) (hnums : Nums w w.heap.size a len) (hlc1 : len1 ≤ cap1) (hcm1 : cap1 ≤ 9223372036854775807) (hnums1 : Nums w w.heap.size a1 len1) (hlc2 : len2 ≤ cap2) (hcm2 : cap2 ≤ 9223372036854775807) (hnums2 : Nums w w.heap.size a2 len2) : Calls Try.prog 5 #[.slice a len cap, .slice a1 len1 cap1, .slice a2 len2 cap2] w fun e w' => e = .returned (.bool true) ∧ Below w.heap.size w w' := by
  have H0 : Hid _ := hid (begun11_any w)
  have HS : Hid (∀ w1, _) := hid fun w1 => schemaT_any w1
  have HNu : Hid (∀ w1 : World, Below w.heap.size w w1 → Nums w1 w1.heap.size a len) := hid fun w1 hb => nums_on hnums hb
  have HNu1 : Hid (∀ w1 : World, Below w.heap.size w w1 → Nums w1 w1.heap.size a1 len1) := hid fun w1 hb => nums_on hnums1 hb
  have HNu2 : Hid (∀ w1 : World, Below w.heap.size w w1 → Nums w1 w1.heap.size a2 len2) := hid fun w1 hb => nums_on hnums2 hb
  clear hnums hnums1 hnums2
  go_enter Try.func5, Try.ntmps5
  go_wp2_with fail
  refine Calls.mono H0.out ?_
  rintro e U ⟨rfl, hw⟩
  clear H0
  by_cases hl : 50 < len
  · have hl1 : (50 : Int) < (len : Int) := by omega
    have hl2 : decide ((50 : Int) < (len : Int)) = true := by simpa using hl1
    go_wp2
    go_ret
    exact ⟨rfl, hw⟩
  have hl1 : ¬ (50 : Int) < (len : Int) := by omega
  have hl2 : decide ((50 : Int) < (len : Int)) = false := by simpa using hl1
  by_cases hm : 50 < len1
  · have hm1 : (50 : Int) < (len1 : Int) := by omega
    have hm2 : decide ((50 : Int) < (len1 : Int)) = true := by simpa using hm1
    go_wp2
    go_ret
    exact ⟨rfl, hw⟩
  have hm1 : ¬ (50 : Int) < (len1 : Int) := by omega
  have hm2 : decide ((50 : Int) < (len1 : Int)) = false := by simpa using hm1
  by_cases ho : 20 < len2
  · have ho1 : (20 : Int) < (len2 : Int) := by omega
    have ho2 : decide ((20 : Int) < (len2 : Int)) = true := by simpa using ho1
    go_wp2
    go_ret
    exact ⟨rfl, hw⟩
  have ho1 : ¬ (20 : Int) < (len2 : Int) := by omega
  have ho2 : decide ((20 : Int) < (len2 : Int)) = false := by simpa using ho1
  go_wp2_with fail
  refine Calls.mono (HS.out _) ?_
  rintro e U1 ⟨tbk, rfl, hT, hbk, hb1⟩
  replace hw := Below.on hw hb1
  have hrow := hT.row
  obtain ⟨_, _, _, e', -, -, -, hx⟩ := hrow
  cases e'
  obtain ⟨_, _, e', -, hi⟩ := hx (by decide)
  cases e'
  obtain ⟨cs, hE, -, hcc⟩ := hi 0 (by simp)
  obtain ⟨ca, cn, cc, xa, xn, xc, rfl, hcol, -⟩ := hE
  have c0 : U1.cell? ⟨tbk, 0, none⟩ = some (.string ⟨#[116]⟩) := by have := hcc 0 (show 0 < 3 by decide); simpa [eTbl] using this
  have c1 : U1.cell? ⟨tbk, 1, none⟩ = some (.slice ca cn cc) := by have := hcc 1 (show 1 < 3 by decide); simpa [eTbl] using this
  have c2 : U1.cell? ⟨tbk, 2, none⟩ = some (.slice xa xn xc) := by have := hcc 2 (show 2 < 3 by decide); simpa [eTbl] using this
  replace hcol : RowIs eCol (fun _ => True) U1 (.slice ca cn cc) tbT.cols := hcol.mono (by decide) fun _ _ _ => trivial
  have hft := fldT
  have hb2 := bal (Below.refl _ U1) (.cells #[.string ⟨#[116]⟩, .slice ca cn cc, .slice xa xn xc] 27)
  have bT := Bk.new U1 (.cells #[.string ⟨#[116]⟩, .slice ca cn cc, .slice xa xn xc] 27)
  have hcolT : RowIs eCol (fun b => b < U1.heap.size) (U1.alloc (.cells #[.string ⟨#[116]⟩, .slice ca cn cc, .slice xa xn xc] 27)) (.slice ca cn cc) tbT.cols := (hcol.mono (by decide) fun _ _ hl => hl).keep (by decide) fun b _ hl => hb2.block b hl
  clear hT hx hi hcc hb1 HS
  go_upto_region 6 with fail
  generalize U1.alloc (.cells #[.string ⟨#[116]⟩, .slice ca cn cc, .slice xa xn xc] 27) = U1t at *
  obtain ⟨qt, hqt⟩ : ∃ qt, U1.heap.size = qt := ⟨_, rfl⟩
  rw [hqt] at bT
  (try rw [hqt])
  have t0 := bT.cell 0
  have t1 := bT.cell 1
  have t2 := bT.cell 2
  simp only [List.getElem?_toArray, List.getElem?_cons_zero, List.getElem?_cons_succ] at t0 t1 t2
  have HCo : Hid _ := hid (playCols_any (nm := ⟨#[116]⟩) (a' := xa) (n' := xn) (c' := xc) hcolT (by simp))
  replace hw := Below.on hw hb2
  have hU1t : U1.heap.size ≤ U1t.heap.size := hb2.size
  clear c0 c1 c2 hft hcol hqt bT hb2
  go_wp2_with fail
  refine Calls.mono HCo.out ?_
  rintro e U2 ⟨v1, v2, rfl, ho1, ho2, -, hb2⟩
  obtain ⟨ia, im, ic, rfl⟩ := ho1.sl
  obtain ⟨ka, km, kc, rfl⟩ := ho2.sl
  replace hw := Below.on hw hb2
  replace t0 := cell_later hb2 t0
  replace t1 := cell_later hb2 t1
  replace t2 := cell_later hb2 t2
  have r1 : RowIs eItem (fun b => b < U2.heap.size) U2 (.slice ia im ic) I0 := OwnR.rowE (e := eItem) ho1 rfl (fun b _ h => h) fun i h1 h2 => by
    have hi : i < 3 := h1
    match i, hi with
    | 0, _ => rfl
    | 1, _ => rfl
    | 2, _ => rfl
  have r2 : RowIs eInt (fun b => b < U2.heap.size) U2 (.slice ka km kc) K0 := OwnR.rowE (e := eInt) ho2 rfl (fun b _ h => h) fun i h1 h2 => by
    have hi : i < 3 := h1
    match i, hi with
    | 0, _ => rfl
    | 1, _ => rfl
    | 2, _ => rfl
  obtain rfl : im = 3 := (row_lens r1).1.symm
  obtain rfl : km = 3 := (row_lens r2).1.symm
  replace hcolT : RowIs eCol (fun b => b < U2.heap.size) U2 (.slice ca cn cc) tbT.cols := (hcolT.keep (by decide) fun b hq hl => hb2.block b hl).mono (by decide) fun b _ hl => hl
  clear HCo ho1 ho2 hb2 hU1t
  have HMa : Hid _ := hid (made10_any hlc hcm (HNu.out U2 hw))
  clear HNu
  go_wp2_with fail
  refine Calls.mono HMa.out ?_
  rintro e U3 ⟨rfl, hp, hb3⟩
  have hcs : Cols U3 U2.heap.size C0 ia ic ka kc := ⟨(r1.keep (by decide) fun b _ hl => hb3.block b hl).mono (by decide) fun b hb _ => by have : b < U2.heap.size := hb; omega, (r2.keep (by decide) fun b _ hl => hb3.block b hl).mono (by decide) fun b hb _ => by have : b < U2.heap.size := hb; omega, by simp, ⟨((0, ⟨#[116]⟩, ⟨#[107]⟩), 1), by simp, rfl⟩, ⟨((0, ⟨#[116]⟩, ⟨#[118]⟩), 2), by simp, rfl⟩⟩
  have HPl : Hid _ := hid (play_any 5 3 0 hp hcs (by omega) rfl)
  have hs3 := hb3.size
  have hgl := hp.lt
  clear HMa hp hcs
  go_wp2_with fail
  refine Calls.mono HPl.out ?_
  rintro e U4 ⟨xo, xp, xea, xen, xec, t, r', rfl, hpl, -, -, hbut, hex⟩
  have hB24 : Below U2.heap.size U2 U4 := hbut.below hb3 (Nat.le_refl _) hs3
  obtain ⟨hkd, hnt⟩ := pl_kd 5 hpl
  obtain ⟨hwf, hlf⟩ := pl_wf 5 hpl
  have hszx : cnN (gP t).2 ≤ 900 := by
    have h1 := cn_gP hnt
    have h2 := pl_sz 5 hpl
    have h3 : 2 ^ (5 + 1) = 64 := rfl
    omega
  obtain ⟨hpt, hsl⟩ := hex.parts
  have hE4 : eG.E (fun b => U3.heap.size ≤ b) U4 (gP t) [.int .i64 xo, .int .i64 xp.1, .int .i64 xp.2.1, .string xp.2.2.1, .string xp.2.2.2.1, .string xp.2.2.2.2, .slice xea xen xec] := ⟨xea, xen, xec, by rw [hpt]; rfl, hsl⟩
  have hb5 := bal hB24 (.cells #[.int .i64 xo, .int .i64 xp.1, .int .i64 xp.2.1, .string xp.2.2.1, .string xp.2.2.2.1, .string xp.2.2.2.2, .slice xea xen xec] 41)
  have bq := Bk.new U4 (.cells #[.int .i64 xo, .int .i64 xp.1, .int .i64 xp.2.1, .string xp.2.2.1, .string xp.2.2.2.1, .string xp.2.2.2.2, .slice xea xen xec] 41)
  replace hE4 := eG.mono (Q' := fun _ => True) (fun _ _ _ => trivial) (eG.keep (fun b _ hl => (bal (Below.refl _ _) (.cells #[.int .i64 xo, .int .i64 xp.1, .int .i64 xp.2.1, .string xp.2.2.1, .string xp.2.2.2.1, .string xp.2.2.2.2, .slice xea xen xec] 41)).block b hl) hE4)
  replace r1 := r1.keep (w' := U4.alloc (.cells #[.int .i64 xo, .int .i64 xp.1, .int .i64 xp.2.1, .string xp.2.2.1, .string xp.2.2.2.1, .string xp.2.2.2.2, .slice xea xen xec] 41)) (by decide) fun b _ hl => hb5.block b hl
  replace r2 := r2.keep (w' := U4.alloc (.cells #[.int .i64 xo, .int .i64 xp.1, .int .i64 xp.2.1, .string xp.2.2.1, .string xp.2.2.2.1, .string xp.2.2.2.2, .slice xea xen xec] 41)) (by decide) fun b _ hl => hb5.block b hl
  replace hcolT := hcolT.keep (w' := U4.alloc (.cells #[.int .i64 xo, .int .i64 xp.1, .int .i64 xp.2.1, .string xp.2.2.1, .string xp.2.2.2.1, .string xp.2.2.2.2, .slice xea xen xec] 41)) (by decide) fun b _ hl => hb5.block b hl
  have hU24 : U2.heap.size ≤ (U4.alloc (.cells #[.int .i64 xo, .int .i64 xp.1, .int .i64 xp.2.1, .string xp.2.2.1, .string xp.2.2.2.1, .string xp.2.2.2.2, .slice xea xen xec] 41)).heap.size := hb5.size
  replace t0 := cell_later hb5 t0
  replace t1 := cell_later hb5 t1
  replace t2 := cell_later hb5 t2
  replace hw := Below.on hw hb5
  clear HPl hbut hex hsl hb3 hB24 hs3 hgl hpl hb5
  simp only [exV]
  go_upto_region 8 with fail
  generalize U4.alloc (.cells #[.int .i64 xo, .int .i64 xp.1, .int .i64 xp.2.1, .string xp.2.2.1, .string xp.2.2.2.1, .string xp.2.2.2.2, .slice xea xen xec] 41) = U5 at *
  obtain ⟨qx, hqx⟩ : ∃ qx, U4.heap.size = qx := ⟨_, rfl⟩
  rw [hqx] at bq
  (try rw [hqx])
  have xd0 := bq.cell 0
  have xd1 := bq.cell 1
  have xd2 := bq.cell 2
  have xd3 := bq.cell 3
  have xd4 := bq.cell 4
  have xd5 := bq.cell 5
  have xd6 := bq.cell 6
  simp only [List.getElem?_toArray, List.getElem?_cons_zero, List.getElem?_cons_succ] at xd0 xd1 xd2 xd3 xd4 xd5 xd6
  clear bq hqx
  have HMb : Hid _ := hid (made10_any hlc1 hcm1 (HNu1.out U5 hw))
  clear HNu1
  go_wp2_with fail
  refine Calls.mono HMb.out ?_
  rintro e V3 ⟨rfl, hp, hb3⟩
  have hcs : Cols V3 U5.heap.size C0 ia ic ka kc := ⟨(r1.keep (by decide) fun b _ hl => hb3.block b hl).mono (by decide) fun b hb _ => by have : b < U2.heap.size := hb; omega, (r2.keep (by decide) fun b _ hl => hb3.block b hl).mono (by decide) fun b hb _ => by have : b < U2.heap.size := hb; omega, by simp, ⟨((0, ⟨#[116]⟩, ⟨#[107]⟩), 1), by simp, rfl⟩, ⟨((0, ⟨#[116]⟩, ⟨#[118]⟩), 2), by simp, rfl⟩⟩
  have HPl : Hid _ := hid (play_any 5 3 0 hp hcs (by omega) rfl)
  have hs3 := hb3.size
  have hgl := hp.lt
  clear HMb hp hcs
  go_wp2_with fail
  refine Calls.mono HPl.out ?_
  rintro e V4 ⟨yo, yp, yea, yen, yec, u, r2', rfl, hplu, -, -, hbut, hex⟩
  have hB24 : Below U5.heap.size U5 V4 := hbut.below hb3 (Nat.le_refl _) hs3
  obtain ⟨hkdu, hntu⟩ := pl_kd 5 hplu
  obtain ⟨hwfu, hlfu⟩ := pl_wf 5 hplu
  obtain ⟨hptu, hsl⟩ := hex.parts
  have hEu : eG.E (fun b => V3.heap.size ≤ b) V4 (gP u) [.int .i64 yo, .int .i64 yp.1, .int .i64 yp.2.1, .string yp.2.2.1, .string yp.2.2.2.1, .string yp.2.2.2.2, .slice yea yen yec] := ⟨yea, yen, yec, by rw [hptu]; rfl, hsl⟩
  have hb5 := bal hB24 (.cells #[.int .i64 yo, .int .i64 yp.1, .int .i64 yp.2.1, .string yp.2.2.1, .string yp.2.2.2.1, .string yp.2.2.2.2, .slice yea yen yec] 41)
  have bq := Bk.new V4 (.cells #[.int .i64 yo, .int .i64 yp.1, .int .i64 yp.2.1, .string yp.2.2.1, .string yp.2.2.2.1, .string yp.2.2.2.2, .slice yea yen yec] 41)
  replace hEu := eG.mono (Q' := fun _ => True) (fun _ _ _ => trivial) (eG.keep (fun b _ hl => (bal (Below.refl _ _) (.cells #[.int .i64 yo, .int .i64 yp.1, .int .i64 yp.2.1, .string yp.2.2.1, .string yp.2.2.2.1, .string yp.2.2.2.2, .slice yea yen yec] 41)).block b hl) hEu)
  replace hE4 := eG.keep (fun b _ hl => hb5.block b hl) hE4
  replace r1 := r1.keep (w' := V4.alloc (.cells #[.int .i64 yo, .int .i64 yp.1, .int .i64 yp.2.1, .string yp.2.2.1, .string yp.2.2.2.1, .string yp.2.2.2.2, .slice yea yen yec] 41)) (by decide) fun b _ hl => hb5.block b hl
  replace hcolT := hcolT.keep (w' := V4.alloc (.cells #[.int .i64 yo, .int .i64 yp.1, .int .i64 yp.2.1, .string yp.2.2.1, .string yp.2.2.2.1, .string yp.2.2.2.2, .slice yea yen yec] 41)) (by decide) fun b _ hl => hb5.block b hl
  have hU25 : U2.heap.size ≤ (V4.alloc (.cells #[.int .i64 yo, .int .i64 yp.1, .int .i64 yp.2.1, .string yp.2.2.1, .string yp.2.2.2.1, .string yp.2.2.2.2, .slice yea yen yec] 41)).heap.size := Nat.le_trans hU24 hb5.size
  replace t0 := cell_later hb5 t0
  replace t1 := cell_later hb5 t1
  replace t2 := cell_later hb5 t2
  replace xd0 := cell_later hb5 xd0
  replace xd1 := cell_later hb5 xd1
  replace xd2 := cell_later hb5 xd2
  replace xd3 := cell_later hb5 xd3
  replace xd4 := cell_later hb5 xd4
  replace xd5 := cell_later hb5 xd5
  replace xd6 := cell_later hb5 xd6
  replace hw := Below.on hw hb5
  clear HPl hbut hex hsl hb3 hB24 hs3 hgl hplu hb5 r2 hU24
  simp only [exV]
  go_upto_region 9 with fail
  generalize V4.alloc (.cells #[.int .i64 yo, .int .i64 yp.1, .int .i64 yp.2.1, .string yp.2.2.1, .string yp.2.2.2.1, .string yp.2.2.2.2, .slice yea yen yec] 41) = U5 at *
  obtain ⟨qy, hqy⟩ : ∃ qy, V4.heap.size = qy := ⟨_, rfl⟩
  rw [hqy] at bq
  (try rw [hqy])
  have yd0 := bq.cell 0
  have yd1 := bq.cell 1
  have yd2 := bq.cell 2
  have yd3 := bq.cell 3
  have yd4 := bq.cell 4
  have yd5 := bq.cell 5
  have yd6 := bq.cell 6
  simp only [List.getElem?_toArray, List.getElem?_cons_zero, List.getElem?_cons_succ] at yd0 yd1 yd2 yd3 yd4 yd5 yd6
  clear bq hqy
  have HMv : Hid (∀ w1 : World, Below U5.heap.size U5 w1 → _) := hid fun w1 hb => made10_any hlc2 hcm2 (HNu2.out w1 (Below.on hw hb))
  have HRw : Hid (∀ (w1 : World) (g r : Nat), Below U5.heap.size U5 w1 → U5.heap.size ≤ g → Pk w1 g r → _) := hid fun w1 g r hb hg hp => rowL_any hp tbT.cols (by decide) (fun c hc => by
    simp only [List.mem_cons, List.not_mem_nil, or_false] at hc
    rcases hc with rfl | rfl | rfl
    · exact .inl rfl
    · exact .inr rfl
    · exact .inl rfl) ⟨#[116]⟩ xa xn xc ((hcolT.keep (by decide) fun b _ hl => hb.block b hl).mono (by decide) fun b hq _ => by have : b < U2.heap.size := hq; omega)
  clear HNu2
  go_upto_region 9 with fail
  have hY : Below U5.heap.size U5 U5.drew := (Below.refl _ U5).drew
  refine wp_region_held_drew (S := fun w' => w'.cell? ⟨qt, 0, none⟩ = some (.string ⟨#[116]⟩) ∧ w'.cell? ⟨qt, 1, none⟩ = some (.slice ca cn cc) ∧ w'.cell? ⟨qt, 2, none⟩ = some (.slice xa xn xc)) (by kernel_rfl) (⟨cell_later hY t0, cell_later hY t1, cell_later hY t2⟩) (fun hHeld => ?_)
  generalize U5.drew = y at *
  refine wpAnyH_take (i := 0) (v := ?tv701) rfl (by kernel_rfl) (by kernel_rfl) (by kernel_rfl) (fun _ _ _ h => h) (Or.inl ⟨by rfl, ?hy701⟩) (by assumption) ?rs701
  case hy701 => (intro w9 hSw; (try dsimp only at hSw); go_simp; (try with_reducible rfl))
  (try simp only [Act.put, List.getElem_toArray, List.getElem_cons_zero, List.getElem_cons_succ, List.setIfInBounds_toArray, List.set_cons_zero, List.set_cons_succ])
  refine wpAnyH_take (i := 2) (v := ?tv702) rfl (by kernel_rfl) (by kernel_rfl) (by kernel_rfl) (fun _ _ _ h => h) (Or.inl ⟨by rfl, ?hy702⟩) (by assumption) ?rs702
  case hy702 => (intro w9 hSw; (try dsimp only at hSw); go_simp; (try with_reducible rfl))
  (try simp only [Act.put, List.getElem_toArray, List.getElem_cons_zero, List.getElem_cons_succ, List.setIfInBounds_toArray, List.set_cons_zero, List.set_cons_succ])
  refine wpAnyH_ready (rs := [1]) (by kernel_rfl) (by simp) ?_
  refine AllReadyH.cons rfl (fun K hK => ?_) AllReadyH.nil
  go_simp
  go_wp2_with (first | (go_at_call 11; (refine Calls.mono (HMv.out _ hY) ?_); rintro e y1 ⟨rfl, hp1, hby⟩))
  have hq6 := hY.size
  have hY1 := Below.on hY hby
  refine hK.out _ _ (⟨cell_later hY1 t0, cell_later hY1 t1, cell_later hY1 t2⟩) (fun hHeld => ?_)
  clear hK K
  (try simp only [Act.put, List.getElem_toArray, List.getElem_cons_zero, List.getElem_cons_succ, List.setIfInBounds_toArray, List.set_cons_zero, List.set_cons_succ])
  refine wpAnyH_ready (rs := [3]) (by kernel_rfl) (by simp) ?_
  refine AllReadyH.cons rfl (fun K hK => ?_) AllReadyH.nil
  go_simp
  go_wp2_with (first | (go_at_call 13; (refine Calls.mono (HRw.out y1 _ _ hY1 hq6 hp1) ?_); rintro e y2 ⟨va, vm, vd, V, rfl, hrw, hov, hbv⟩))
  have hY2 : Below U5.heap.size U5 y2 := hbv.below hY1 hq6 hY1.size
  refine hK.out _ _ (⟨cell_later hY2 t0, cell_later hY2 t1, cell_later hY2 t2⟩) (fun hHeld => ?_)
  clear hK K
  (try simp only [Act.put, List.getElem_toArray, List.getElem_cons_zero, List.getElem_cons_succ, List.setIfInBounds_toArray, List.set_cons_zero, List.set_cons_succ])
  refine wpAnyH_ready (rs := [4]) (by kernel_rfl) (by simp) ?_
  refine AllReadyH.cons rfl (fun K hK => ?_) AllReadyH.nil
  go_simp
  refine hK.out _ _ (⟨cell_later hY2 t0, cell_later hY2 t1, cell_later hY2 t2⟩) (fun hHeld => ?_)
  clear hK K
  (try simp only [Act.put, List.getElem_toArray, List.getElem_cons_zero, List.getElem_cons_succ, List.setIfInBounds_toArray, List.set_cons_zero, List.set_cons_succ])
  refine wpAnyH_done (by kernel_rfl) ?_ _
  clear hHeld hY hY1 hp1 hby hbv
  obtain ⟨hCV, hKV, hVg⟩ := rw_vals hrw
  have rV : RowIs eVal (fun _ => True) y2 (.slice va vm vd) V := OwnR.rowE (e := eVal) hov (by simp) (fun _ _ _ => trivial) fun i h1 h2 => by
    show _ = _
    simp
  replace r1 : RowIs eItem (fun _ => True) y2 (.slice ia 3 ic) I0 := (r1.keep (by decide) fun b _ hl => hY2.block b hl).mono (by decide) fun _ _ _ => trivial
  replace hE4 := eG.keep (fun b _ hl => hY2.block b hl) hE4
  replace hEu := eG.keep (fun b _ hl => hY2.block b hl) hEu
  replace xd0 := cell_later hY2 xd0
  replace xd1 := cell_later hY2 xd1
  replace xd2 := cell_later hY2 xd2
  replace xd3 := cell_later hY2 xd3
  replace xd4 := cell_later hY2 xd4
  replace xd5 := cell_later hY2 xd5
  replace xd6 := cell_later hY2 xd6
  replace yd0 := cell_later hY2 yd0
  replace yd1 := cell_later hY2 yd1
  replace yd2 := cell_later hY2 yd2
  replace yd3 := cell_later hY2 yd3
  replace yd4 := cell_later hY2 yd4
  replace yd5 := cell_later hY2 yd5
  replace yd6 := cell_later hY2 yd6
  replace hw := Below.on hw hY2
  have hagx := ag_any (C := I0) (K := K0) (V := V) hCV rfl hKV (gP t) hlf _ hkd
  have hagy := ag_any (C := I0) (K := K0) (V := V) hCV rfl hKV (gP u) hlfu _ hkdu
  have hcases := short_cases hagx.2 hagy.2
  have HEx : Hid (∀ w1, Below y2.heap.size y2 w1 → _) := hid fun w1 hb => evalV_any (by decide) hCV (fun v hv => (hVg v hv).1) (gP t) (wf_ft hwf) (evT_gd hVg hwf.2.1).2 (r1.keep (by decide) fun b _ hl => hb.block b hl) (rV.keep (by decide) fun b _ hl => hb.block b hl) (eG.keep (fun b _ hl => hb.block b hl) hE4)
  have HEy : Hid (∀ w1, Below y2.heap.size y2 w1 → _) := hid fun w1 hb => evalV_any (by decide) hCV (fun v hv => (hVg v hv).1) (gP u) (wf_ft hwfu) (evT_gd hVg hwfu.2.1).2 (r1.keep (by decide) fun b _ hl => hb.block b hl) (rV.keep (by decide) fun b _ hl => hb.block b hl) (eG.keep (fun b _ hl => hb.block b hl) hEu)
  have hSx : SlF (fun _ => True) y2 xea xen xec (gP t).2 := by
    obtain ⟨_, _, _, e1, h1⟩ := hE4
    simp only [exC, List.cons.injEq, Value.slice.injEq, and_true] at e1
    obtain ⟨-, -, -, -, -, -, rfl, rfl, rfl⟩ := e1
    exact h1
  have hSy : SlF (fun _ => True) y2 yea yen yec (gP u).2 := by
    obtain ⟨_, _, _, e1, h1⟩ := hEu
    simp only [exC, List.cons.injEq, Value.slice.injEq, and_true] at e1
    obtain ⟨-, -, -, -, -, -, rfl, rfl, rfl⟩ := e1
    exact h1
  have slk : ∀ {w1 : World} {sa : Option Addr} {sn sc : Nat} {f : Tg}, SlF (fun _ => True) y2 sa sn sc f → Below y2.heap.size y2 w1 → SlF (fun _ => True) w1 sa sn sc f := fun h hb => ⟨h.1, h.2.1, h.2.2.1, fun hn => by
    obtain ⟨b, o, e1, hq, hf⟩ := h.2.2.2 hn
    exact ⟨b, o, e1, hq, FoG.keep (fun k _ hk => hb.block k hk) hq hf⟩⟩
  have hftx := wf_ft hwf
  have hfty := wf_ft hwfu
  have HTw : Hid (∀ (op : Int), (op = 14 ∨ op = 15) → ∀ w1, Below y2.heap.size y2 w1 → Calls Try.prog 14 #[.slice ia 3 ic, .slice va vm vd, .agg #[.int .i64 op, .int .i64 0, .int .i64 0, .string ⟨#[]⟩, .string ⟨#[]⟩, .string ⟨#[]⟩, .slice (some ⟨w1.heap.size, 0, none⟩) 2 2]] (w1.alloc (.cells #[.int .i64 xo, .int .i64 xp.1, .int .i64 xp.2.1, .string xp.2.2.1, .string xp.2.2.2.1, .string xp.2.2.2.2, .slice xea xen xec, .int .i64 yo, .int .i64 yp.1, .int .i64 yp.2.1, .string yp.2.2.1, .string yp.2.2.2.1, .string yp.2.2.2.2, .slice yea yen yec] 41)) fun x9 w' => x9 = .returned (.tuple #[vV (nz (upP (op - 14) (evT I0 V (gP t)) (evT I0 V (gP u)))).1, .int .i64 (nz (upP (op - 14) (evT I0 V (gP t)) (evT I0 V (gP u)))).2]) ∧ Below (w1.alloc (.cells #[.int .i64 xo, .int .i64 xp.1, .int .i64 xp.2.1, .string xp.2.2.1, .string xp.2.2.2.1, .string xp.2.2.2.2, .slice xea xen xec, .int .i64 yo, .int .i64 yp.1, .int .i64 yp.2.1, .string yp.2.2.1, .string yp.2.2.2.1, .string yp.2.2.2.2, .slice yea yen yec] 41)).heap.size (w1.alloc (.cells #[.int .i64 xo, .int .i64 xp.1, .int .i64 xp.2.1, .string xp.2.2.1, .string xp.2.2.2.1, .string xp.2.2.2.2, .slice xea xen xec, .int .i64 yo, .int .i64 yp.1, .int .i64 yp.2.1, .string yp.2.2.1, .string yp.2.2.2.1, .string yp.2.2.2.2, .slice yea yen yec] 41)) w') := hid fun op hop w1 hb => by
    have hb' := bal hb (.cells #[.int .i64 xo, .int .i64 xp.1, .int .i64 xp.2.1, .string xp.2.2.1, .string xp.2.2.2.1, .string xp.2.2.2.2, .slice xea xen xec, .int .i64 yo, .int .i64 yp.1, .int .i64 yp.2.1, .string yp.2.2.1, .string yp.2.2.2.1, .string yp.2.2.2.2, .slice yea yen yec] 41)
    have hc2 := cell_new w1 #[.int .i64 xo, .int .i64 xp.1, .int .i64 xp.2.1, .string xp.2.2.1, .string xp.2.2.2.1, .string xp.2.2.2.2, .slice xea xen xec, .int .i64 yo, .int .i64 yp.1, .int .i64 yp.2.1, .string yp.2.2.1, .string yp.2.2.2.1, .string yp.2.2.2.2, .slice yea yen yec] 41 (0, 0)
    have h := evalV_any (Q := fun _ => True) (by decide) hCV (fun v hv => (hVg v hv).1) (xTw op (gP t) (gP u)) ⟨fits0, ⟨hftx.1, hftx.2, hfty.1, hfty.2, trivial⟩⟩ (evT_gd hVg gd_z).2 (r1.keep (by decide) fun b _ hl => hb'.block b hl) (rV.keep (by decide) fun b _ hl => hb'.block b hl) (cs := exC op nP (.slice (some ⟨w1.heap.size, 0, none⟩) 2 2)) ⟨_, _, _, rfl, slF2 (p := (gP t).1) (q := (gP u).1) (show Ce _ w1.heap.size 0 (gP t).1.1 (gP t).1.2 (.slice xea xen xec) from by rw [hpt]; exact ⟨hc2 0, hc2 1, hc2 2, hc2 3, hc2 4, hc2 5, hc2 6⟩) (slk hSx hb') (show Ce _ w1.heap.size 7 (gP u).1.1 (gP u).1.2 (.slice yea yen yec) from by rw [hptu]; exact ⟨hc2 7, hc2 8, hc2 9, hc2 10, hc2 11, hc2 12, hc2 13⟩) (slk hSy hb')⟩
    rw [evE_nz] at h
    rcases hop with rfl | rfl
    · rw [evT_and (u := gP t) (v := gP u) rfl rfl] at h
      exact h
    · rw [evT_or (u := gP t) (v := gP u) rfl rfl] at h
      exact h
  have HOn : Hid (∀ w1, Below y2.heap.size y2 w1 → Calls Try.prog 14 #[.slice ia 3 ic, .slice va vm vd, .agg #[.int .i64 4, .int .i64 0, .int .i64 0, .string ⟨#[]⟩, .string ⟨#[]⟩, .string ⟨#[]⟩, .slice (some ⟨w1.heap.size, 0, none⟩) 1 1]] (w1.alloc (.cells #[.int .i64 xo, .int .i64 xp.1, .int .i64 xp.2.1, .string xp.2.2.1, .string xp.2.2.2.1, .string xp.2.2.2.2, .slice xea xen xec] 41)) fun x9 w' => x9 = .returned (.tuple #[vV (nz (evO 4 (evT I0 V (gP t)))).1, .int .i64 (nz (evO 4 (evT I0 V (gP t)))).2]) ∧ Below (w1.alloc (.cells #[.int .i64 xo, .int .i64 xp.1, .int .i64 xp.2.1, .string xp.2.2.1, .string xp.2.2.2.1, .string xp.2.2.2.2, .slice xea xen xec] 41)).heap.size (w1.alloc (.cells #[.int .i64 xo, .int .i64 xp.1, .int .i64 xp.2.1, .string xp.2.2.1, .string xp.2.2.2.1, .string xp.2.2.2.2, .slice xea xen xec] 41)) w') := hid fun w1 hb => by
    have hb' := bal hb (.cells #[.int .i64 xo, .int .i64 xp.1, .int .i64 xp.2.1, .string xp.2.2.1, .string xp.2.2.2.1, .string xp.2.2.2.2, .slice xea xen xec] 41)
    have hc2 := cell_new w1 #[.int .i64 xo, .int .i64 xp.1, .int .i64 xp.2.1, .string xp.2.2.1, .string xp.2.2.2.1, .string xp.2.2.2.2, .slice xea xen xec] 41 (0, 0)
    have h := evalV_any (Q := fun _ => True) (by decide) hCV (fun v hv => (hVg v hv).1) (xOn 4 (gP t)) ⟨fits0, ⟨hftx.1, hftx.2, trivial⟩⟩ (evT_gd hVg gd_z).2 (r1.keep (by decide) fun b _ hl => hb'.block b hl) (rV.keep (by decide) fun b _ hl => hb'.block b hl) (cs := exC 4 nP (.slice (some ⟨w1.heap.size, 0, none⟩) 1 1)) ⟨_, _, _, rfl, slF1 (p := (gP t).1) (show Ce _ w1.heap.size 0 (gP t).1.1 (gP t).1.2 (.slice xea xen xec) from by rw [hpt]; exact ⟨hc2 0, hc2 1, hc2 2, hc2 3, hc2 4, hc2 5, hc2 6⟩) (slk hSx hb')⟩
    rw [evE_nz, evT_one (u := gP t) (.inr rfl) rfl] at h
    exact h
  have HNo : Hid (∀ w1, Below y2.heap.size y2 w1 → _) := hid fun w1 hb => nodesB_any (gP t) _ w1 _ hszx (eG.keep (fun b _ hl => hb.block b hl) hE4)
  rw [evE_nz] at HEx HEy
  have HAn : Hid (∀ w1, Below y2.heap.size y2 w1 → _) := hid fun w1 hb => HTw.out 14 (.inl rfl) w1 hb
  have HOr : Hid (∀ w1, Below y2.heap.size y2 w1 → _) := hid fun w1 hb => HTw.out 15 (.inr rfl) w1 hb
  rw [show ((14 : Int) - 14) = 0 from rfl] at HAn
  rw [show ((15 : Int) - 14) = 1 from rfl] at HOr
  have HCa : Hid _ := hid hcases
  clear hcases hagx hagy HTw hSx hSy slk hftx hfty hkd hnt hwf hlf hkdu hntu hwfu hlfu hCV hKV hVg rV r1 hE4 hEu hov hrw hcolT HMv HRw t0 t1 t2 hU25 hszx hpt hptu
  generalize evT I0 V (gP t) = EX at *
  generalize evT I0 V (gP u) = EY at *
  have hC := Below.refl y2.heap.size y2
  obtain ⟨PX, hPX⟩ : ∃ z, nz EX = z := ⟨_, rfl⟩
  obtain ⟨PY, hPY⟩ : ∃ z, nz EY = z := ⟨_, rfl⟩
  obtain ⟨PA, hPA⟩ : ∃ z, nz (upP 0 EX EY) = z := ⟨_, rfl⟩
  obtain ⟨PO, hPO⟩ : ∃ z, nz (upP 1 EX EY) = z := ⟨_, rfl⟩
  obtain ⟨PN, hPN⟩ : ∃ z, nz (evO 4 EX) = z := ⟨_, rfl⟩
  rw [hPX] at HEx
  rw [hPY] at HEy
  rw [hPA] at HAn
  rw [hPO] at HOr
  rw [hPN] at HOn
  rw [hPX, hPY, hPA, hPO, hPN] at HCa
  clear hPX hPY hPA hPO hPN
  go_wp2_with fail
  refine Calls.mono (HEx.out _ hC) ?_
  rintro e w3 ⟨rfl, hb3⟩
  have hb4 := bal hb3 (.cells #[.int .i64 PX.1.1, .int .i64 PX.1.2.1, .string PX.1.2.2] 38)
  have bPX := Bk.new w3 (.cells #[.int .i64 PX.1.1, .int .i64 PX.1.2.1, .string PX.1.2.2] 38)
  clear HEx
  go_upto_region 11 with fail
  generalize w3.alloc (.cells #[.int .i64 PX.1.1, .int .i64 PX.1.2.1, .string PX.1.2.2] 38) = Z at *
  replace hC := Below.on hC hb4
  replace xd0 := cell_later hb4 xd0
  replace xd1 := cell_later hb4 xd1
  replace xd2 := cell_later hb4 xd2
  replace xd3 := cell_later hb4 xd3
  replace xd4 := cell_later hb4 xd4
  replace xd5 := cell_later hb4 xd5
  replace xd6 := cell_later hb4 xd6
  replace yd0 := cell_later hb4 yd0
  replace yd1 := cell_later hb4 yd1
  replace yd2 := cell_later hb4 yd2
  replace yd3 := cell_later hb4 yd3
  replace yd4 := cell_later hb4 yd4
  replace yd5 := cell_later hb4 yd5
  replace yd6 := cell_later hb4 yd6
  obtain ⟨qPX, hqPX⟩ : ∃ q, w3.heap.size = q := ⟨_, rfl⟩
  rw [hqPX] at bPX
  (try rw [hqPX])
  clear hb3 hb4 hqPX
  go_wp2_with fail
  refine Calls.mono (HEy.out _ hC) ?_
  rintro e w3 ⟨rfl, hb3⟩
  have hb4 := bal hb3 (.cells #[.int .i64 PY.1.1, .int .i64 PY.1.2.1, .string PY.1.2.2] 38)
  have bPY := Bk.new w3 (.cells #[.int .i64 PY.1.1, .int .i64 PY.1.2.1, .string PY.1.2.2] 38)
  clear HEy
  go_upto_region 12 with fail
  generalize w3.alloc (.cells #[.int .i64 PY.1.1, .int .i64 PY.1.2.1, .string PY.1.2.2] 38) = Z at *
  replace hC := Below.on hC hb4
  replace xd0 := cell_later hb4 xd0
  replace xd1 := cell_later hb4 xd1
  replace xd2 := cell_later hb4 xd2
  replace xd3 := cell_later hb4 xd3
  replace xd4 := cell_later hb4 xd4
  replace xd5 := cell_later hb4 xd5
  replace xd6 := cell_later hb4 xd6
  replace yd0 := cell_later hb4 yd0
  replace yd1 := cell_later hb4 yd1
  replace yd2 := cell_later hb4 yd2
  replace yd3 := cell_later hb4 yd3
  replace yd4 := cell_later hb4 yd4
  replace yd5 := cell_later hb4 yd5
  replace yd6 := cell_later hb4 yd6
  replace bPX := bPX.later hb4
  obtain ⟨qPY, hqPY⟩ : ∃ q, w3.heap.size = q := ⟨_, rfl⟩
  rw [hqPY] at bPY
  (try rw [hqPY])
  clear hb3 hb4 hqPY
  go_wp2_with fail
  refine Calls.mono (HAn.out _ hC) ?_
  rintro e w3 ⟨rfl, hb3⟩
  have hb4 := bal (Below.on (bal (Below.refl _ _) _) hb3) (.cells #[.int .i64 PA.1.1, .int .i64 PA.1.2.1, .string PA.1.2.2] 38)
  have bPA := Bk.new w3 (.cells #[.int .i64 PA.1.1, .int .i64 PA.1.2.1, .string PA.1.2.2] 38)
  clear HAn
  go_upto_region 13 with fail
  generalize w3.alloc (.cells #[.int .i64 PA.1.1, .int .i64 PA.1.2.1, .string PA.1.2.2] 38) = Z at *
  replace hC := Below.on hC hb4
  replace xd0 := cell_later hb4 xd0
  replace xd1 := cell_later hb4 xd1
  replace xd2 := cell_later hb4 xd2
  replace xd3 := cell_later hb4 xd3
  replace xd4 := cell_later hb4 xd4
  replace xd5 := cell_later hb4 xd5
  replace xd6 := cell_later hb4 xd6
  replace yd0 := cell_later hb4 yd0
  replace yd1 := cell_later hb4 yd1
  replace yd2 := cell_later hb4 yd2
  replace yd3 := cell_later hb4 yd3
  replace yd4 := cell_later hb4 yd4
  replace yd5 := cell_later hb4 yd5
  replace yd6 := cell_later hb4 yd6
  replace bPX := bPX.later hb4
  replace bPY := bPY.later hb4
  obtain ⟨qPA, hqPA⟩ : ∃ q, w3.heap.size = q := ⟨_, rfl⟩
  rw [hqPA] at bPA
  (try rw [hqPA])
  clear hb3 hb4 hqPA
  go_wp2_with fail
  refine Calls.mono (HOr.out _ hC) ?_
  rintro e w3 ⟨rfl, hb3⟩
  have hb4 := bal (Below.on (bal (Below.refl _ _) _) hb3) (.cells #[.int .i64 PO.1.1, .int .i64 PO.1.2.1, .string PO.1.2.2] 38)
  have bPO := Bk.new w3 (.cells #[.int .i64 PO.1.1, .int .i64 PO.1.2.1, .string PO.1.2.2] 38)
  clear HOr
  go_upto_region 14 with fail
  generalize w3.alloc (.cells #[.int .i64 PO.1.1, .int .i64 PO.1.2.1, .string PO.1.2.2] 38) = Z at *
  replace hC := Below.on hC hb4
  replace xd0 := cell_later hb4 xd0
  replace xd1 := cell_later hb4 xd1
  replace xd2 := cell_later hb4 xd2
  replace xd3 := cell_later hb4 xd3
  replace xd4 := cell_later hb4 xd4
  replace xd5 := cell_later hb4 xd5
  replace xd6 := cell_later hb4 xd6
  replace yd0 := cell_later hb4 yd0
  replace yd1 := cell_later hb4 yd1
  replace yd2 := cell_later hb4 yd2
  replace yd3 := cell_later hb4 yd3
  replace yd4 := cell_later hb4 yd4
  replace yd5 := cell_later hb4 yd5
  replace yd6 := cell_later hb4 yd6
  replace bPX := bPX.later hb4
  replace bPY := bPY.later hb4
  replace bPA := bPA.later hb4
  obtain ⟨qPO, hqPO⟩ : ∃ q, w3.heap.size = q := ⟨_, rfl⟩
  rw [hqPO] at bPO
  (try rw [hqPO])
  clear hb3 hb4 hqPO
  go_wp2_with fail
  refine Calls.mono (HOn.out _ hC) ?_
  rintro e w3 ⟨rfl, hb3⟩
  have hb4 := bal (Below.on (bal (Below.refl _ _) _) hb3) (.cells #[.int .i64 PN.1.1, .int .i64 PN.1.2.1, .string PN.1.2.2] 38)
  have bPN := Bk.new w3 (.cells #[.int .i64 PN.1.1, .int .i64 PN.1.2.1, .string PN.1.2.2] 38)
  clear HOn
  go_upto_region 15 with fail
  generalize w3.alloc (.cells #[.int .i64 PN.1.1, .int .i64 PN.1.2.1, .string PN.1.2.2] 38) = Z at *
  replace hC := Below.on hC hb4
  replace xd0 := cell_later hb4 xd0
  replace xd1 := cell_later hb4 xd1
  replace xd2 := cell_later hb4 xd2
  replace xd3 := cell_later hb4 xd3
  replace xd4 := cell_later hb4 xd4
  replace xd5 := cell_later hb4 xd5
  replace xd6 := cell_later hb4 xd6
  replace yd0 := cell_later hb4 yd0
  replace yd1 := cell_later hb4 yd1
  replace yd2 := cell_later hb4 yd2
  replace yd3 := cell_later hb4 yd3
  replace yd4 := cell_later hb4 yd4
  replace yd5 := cell_later hb4 yd5
  replace yd6 := cell_later hb4 yd6
  replace bPX := bPX.later hb4
  replace bPY := bPY.later hb4
  replace bPA := bPA.later hb4
  replace bPO := bPO.later hb4
  obtain ⟨qPN, hqPN⟩ : ∃ q, w3.heap.size = q := ⟨_, rfl⟩
  rw [hqPN] at bPN
  (try rw [hqPN])
  clear hb3 hb4 hqPN
  have cPX0 := bPX.cell 0
  have cPX1 := bPX.cell 1
  have cPX2 := bPX.cell 2
  have cPY0 := bPY.cell 0
  have cPY1 := bPY.cell 1
  have cPY2 := bPY.cell 2
  have cPA0 := bPA.cell 0
  have cPA1 := bPA.cell 1
  have cPA2 := bPA.cell 2
  have cPO0 := bPO.cell 0
  have cPO1 := bPO.cell 1
  have cPO2 := bPO.cell 2
  have cPN0 := bPN.cell 0
  have cPN1 := bPN.cell 1
  have cPN2 := bPN.cell 2
  simp only [List.getElem?_toArray, List.getElem?_cons_zero, List.getElem?_cons_succ] at cPX0 cPX1 cPX2 cPY0 cPY1 cPY2 cPA0 cPA1 cPA2 cPO0 cPO1 cPO2 cPN0 cPN1 cPN2
  clear bPX bPY bPA bPO bPN
  have hrq := fun w => runV_eq PY.1.1 PY.1.2.1 PY.1.2.2 w
  rcases HCa.out with ⟨h, rfl, rfl, rfl, rfl⟩ | ⟨rfl, rfl, rfl, rfl⟩ | ⟨rfl, rfl, rfl, rfl⟩
  · generalize EX.2 = ee at *
    have g0 : decide (ee = 0) = false := by simpa using h
    have g1 : (ee != 0) = true := by simpa using h
    clear HCa HNo hrq
    go_wp2
    go_ret
    exact ⟨by first | rfl | simp, Below.on hw hC⟩
  · clear HCa HNo
    go_wp2
    go_ret
    exact ⟨by first | rfl | simp, Below.on hw hC⟩
  · have HNo2 : Hid _ := hid (HNo.out _ hC)
    clear HCa HNo
    go_wp2_with fail
    refine Calls.mono HNo2.out ?_
    rintro e w9 ⟨z, rfl, hz1, hz2, hb9⟩
    have hz3 : decide (0 < z) = true := by simp; omega
    clear HNo2
    go_wp2
    go_ret
    exact ⟨by first | rfl | simp, Below.on hw (Below.on hC hb9)⟩

end Go.Proofs.Ytbmfehacnigknaa
namespace Go.Proofs.Ytbmfehacnigknaa
open Go.ChangeShapes Go.WideShapes Go.ChangeAt Go.RowKit
set_option linter.unusedVariables false

theorem own : ownKnob Try.prog.godebug = none := by kernel_rfl
theorem laidOut : laidOutB Try.prog = true := by kernel_rfl

/-- A slice of whole numbers that came in: nil, or a row of cells with its spare room. -/
def IsRow (k : IntKind) (w : World) (a : Option Addr) (len cap : Nat) (zs : List Int) : Prop :=
  (a = none ∧ len = 0 ∧ cap = 0 ∧ zs = []) ∨
  ∃ x, a = some x ∧ len ≤ cap ∧ cap ≤ maxLen ∧ zs.length = cap ∧ (∀ i, i < zs.length → w.cell? (x.add i) = some (.int k (zs.getD i 0))) ∧ ∀ n ∈ zs, (Lit.int k n).wf = true

theorem Rd.of_row {k : IntKind} {w : World} {a : Option Addr} {len cap : Nat} {zs : List Int} (h : IsRow k w a len cap zs) : Rd k w a len cap (zs.take len) := by
  rcases h with ⟨rfl, rfl, rfl, rfl⟩ | ⟨x, rfl, hl, hm, hz, hc, hw⟩
  · exact Rd.nil k w
  · refine ⟨by simp; omega, hl, hm, fun e => by simp at e, fun hp => ?_⟩
    obtain ⟨b, off, spot⟩ := x
    have h0 := hc 0 (by omega)
    have hspot : spot = none := by simpa [Addr.add] using World.cell?_spot h0
    subst hspot
    refine ⟨b, off, rfl, fun i hi => ?_⟩
    have hi' := hc i (by omega)
    rw [show (⟨b, off, none⟩ : Addr).add i = ⟨b, off + i, none⟩ from by simp [Addr.add]] at hi'
    rw [hi', nth, List.getElem?_take_of_lt hi, List.getD]

/-- Its numbers fit their kind. -/
theorem row_wf {k : IntKind} {w : World} {a : Option Addr} {len cap : Nat} {zs : List Int} (h : IsRow k w a len cap zs) : ∀ n ∈ zs.take len, (Lit.int k n).wf = true := by
  rcases h with ⟨rfl, rfl, rfl, rfl⟩ | ⟨x, rfl, hl, hm, hz, hc, hw⟩
  · intro n hn; simp at hn
  · exact fun n hn => hw n (List.mem_of_mem_take hn)

theorem u8_of_row {w : World} {a : Option Addr} {len cap : Nat} {zs : List Int} (h : IsRow .u8 w a len cap zs) : ∀ x ∈ zs.take len, 0 ≤ x ∧ x ≤ 255 :=
  fun x hx => bounds_u8 (row_wf h x hx)

end Go.Proofs.Ytbmfehacnigknaa
