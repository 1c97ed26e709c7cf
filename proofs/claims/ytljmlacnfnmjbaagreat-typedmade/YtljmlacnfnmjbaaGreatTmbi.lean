import Derived.Test.YtljmlacnfnmjbaaGreatTmbh
namespace Go.Proofs.YtljmlacnfnmjbaaGreat
open Go.RowKit
set_option linter.unusedVariables false
set_option linter.unusedSimpArgs false

theorem erL_tk {l : List Int} {k : Nat} (hk : k < l.length) (h : erL (l.take k) = 0) (hx : l[k] = 0) : erL (l.take (k + 1)) = 0 := by
 rw [List.take_succ_eq_append_getElem hk,erL_app,if_pos h]; simp [erL,hx]
theorem erL_st {l : List Int} {k : Nat} (hk : k < l.length) (h : erL (l.take k) = 0) (hx : l[k] ≠ 0) : erL l = l[k] := by
 have e : l = l.take k ++ l[k] :: l.drop (k + 1) := by rw [← List.drop_eq_getElem_cons hk,List.take_append_drop]
 have : erL l = erL (l.take k ++ l[k] :: l.drop (k + 1)) := by rw [← e]
 rw [this,erL_app,if_pos h,erL,if_neg hx]
theorem row_itT {t : Tbl} {B : Nat} {w : World} {a : Option Addr} {m d : Nat} (h : OwnR 66 3 B w (.slice a m d) (t.cols.map fun x => itC (0,t.name,x.1))) : RowIs eItem (fun _ => True) w (.slice a m d) (itT t) :=
 own_items (l := itT t) (by rw [itT,List.map_map]; exact h)
theorem row_kiT {t : Tbl} {B : Nat} {w : World} {a : Option Addr} {m d : Nat} (h : OwnR 3 1 B w (.slice a m d) (t.cols.map fun x => [.int .i64 x.2.1])) : RowIs eInt (fun _ => True) w (.slice a m d) (kiT t) :=
 own_ints (l := kiT t) (by rw [kiT,List.map_map]; exact h)
def updD (t : Tbl) (m : Sq) : Int :=
 if fidx (fun c => eqS c.1 m.name) t.cols < 0 then 10
 else if keptP t m.name then 24
 else erL [(m.values.map fun x => fitsP (colsT t) x ((t.cols[(fidx (fun c => eqS c.1 m.name) t.cols).toNat]?).getD (⟨#[]⟩,0,⟨#[]⟩)).2.1).headD 0,whP (colsT t) m.wh]

set_option maxRecDepth 100000 in
set_option maxHeartbeats 4000000 in
theorem writes_5 {t : Tbl} (ht : t.cols.length ≤ 50) {m : Sq} (hB : SqB m) {w : World} {s : Sv} (hm : IsQ w m s) {ca : Option Addr} {cn cc : Nat} (hc : RowIs eCol (fun _ => True) w (.slice ca cn cc) t.cols) (xa : Option Addr) (xn xc : Nat) (hk : m.kind = 5) :
  Calls Tryz.prog 38 #[stV s,.agg #[.string t.name,.slice ca cn cc,.slice xa xn xc]] w fun en w' => en = .returned (.int .i64 (insT t m)) ∧ Below w.heap.size w w' := by
 have hw := bal (bal (Below.refl w.heap.size w) (svO s)) (.cells #[.string t.name,.slice ca cn cc,.slice xa xn xc] 58)
 have bq := (Bk.new w (svO s)).later (bal (Below.refl _ _) (.cells #[.string t.name,.slice ca cn cc,.slice xa xn xc] 58))
 have bt := Bk.new (w.alloc (svO s)) (.cells #[.string t.name,.slice ca cn cc,.slice xa xn xc] 58)
 rw [World.size_alloc] at bt
 generalize hW : (w.alloc (svO s)).alloc (.cells #[.string t.name,.slice ca cn cc,.slice xa xn xc] 58) = W at hw bq bt
 replace hm := hm.later hw
 replace hc := hc.keep (by decide) fun b _ hl => hw.block b hl
 have z0 := bq.cell 0
 have z1 := bq.cell 1
 have z2 := bq.cell 2
 have z3 := bq.cell 3
 have z4 := bq.cell 4
 have z5 := bq.cell 5
 have z6 := bq.cell 6
 have z7 := bq.cell 7
 have z8 := bq.cell 8
 have z9 := bq.cell 9
 have z10 := bq.cell 10
 have z11 := bq.cell 11
 have z12 := bq.cell 12
 have y0 := bt.cell 0
 have y1 := bt.cell 1
 have y2 := bt.cell 2
 simp only [List.getElem?_toArray,List.getElem?_cons_zero,List.getElem?_cons_succ] at z0 z1 z2 z3 z4 z5 z6 z7 z8 z9 z10 z11 z12 y0 y1 y2
 have HCo : Hid _ := hid (rcols_any (nm := t.name) (a' := xa) (n' := xn) (c' := xc) hc ht)
 have k0 : s.k = 5 := by rw [hm.k,hk]
 rw [k0] at z0
 have HV : Hid (∀ w',Below W.heap.size W w' → RowIs eG (fun _ => True) w' (.slice s.va.1 s.va.2.1 s.va.2.2) m.values) := hid fun w' hb => (hm.later hb).va
 have HL : Hid (∀ w',Below W.heap.size W w' → RowIs eCol (fun _ => True) w' (.slice ca cn cc) t.cols) := hid fun w' hb => hc.keep (by decide) fun b _ hl => hb.block b hl
 obtain ⟨l1,l2,l3⟩ := hm.va.lens
 obtain ⟨r1,r2,r3⟩ := hc.lens
 have hV5 := hB.va
 have HI : Hid (insT t m = if m.values.length ≠ t.cols.length then 7 else erL (insL m.values t.cols)) := hid rfl
 have HNe : Hid (m.values.length = t.cols.length → (insL m.values t.cols).length = m.values.length) := hid fun h => insL_len h
 have HAt : Hid (∀ i (h : i < (insL m.values t.cols).length) (h1 : i < m.values.length) (h2 : i < t.cols.length),(insL m.values t.cols)[i] = fitsP [] m.values[i] t.cols[i].2.1) := hid fun i h h1 h2 => by simp only [insL,List.getElem_zipWith]
 obtain ⟨sk,stb,snm,sco,sta,⟨va0,va1,va2⟩,sit,sjn,son,swh,sod,sds,sinn⟩ := s
 dsimp only [stV,svO] at *
 subst k0
 generalize insT t m = R at *
 generalize insL m.values t.cols = IL at *
 obtain ⟨V,hVe⟩ : ∃ V,m.values = V := ⟨_,rfl⟩
 obtain ⟨L,hLe⟩ : ∃ L,t.cols = L := ⟨_,rfl⟩
 rw [hVe] at HV l1 hV5 HI HNe HAt
 rw [hLe] at HL r1 HI HNe HAt
 clear bq bt hm hB hk hc
 go_enter Tryz.func38,Tryz.ntmps38
 go_upto_region 1 with fail
 clear hW
 obtain ⟨q,hq⟩ : ∃ q,w.heap.size = q := ⟨_,rfl⟩
 have Hq : Hid _ := hid hq
 simp only [World.size_alloc,hq] at z0 z2 z5 z9 y0 y1 y2 ⊢
 clear hq
 go_wp2_with fail
 refine Calls.mono HCo.out ?_
 rintro e U ⟨v1,v2,rfl,ho1,ho2,-,hbU⟩
 obtain ⟨ia,im,ic,rfl⟩ := ho1.sl
 obtain ⟨ka,km,kc,rfl⟩ := ho2.sl
 have R1 : Hid _ := hid (row_itT ho1)
 have R2 : Hid _ := hid (row_kiT ho2)
 have u0 := cell_later hbU z0
 have u2 := cell_later hbU z2
 have u5 := cell_later hbU z5
 have u9 := cell_later hbU z9
 have t0 := cell_later hbU y0
 have t1 := cell_later hbU y1
 have t2 := cell_later hbU y2
 have hwU : Below w.heap.size w U := Below.on hw hbU
 clear HCo ho1 ho2 z0 z1 z2 z3 z4 z5 z6 z7 z8 z9 z10 z11 z12 y0 y1 y2
 have hcn : cn ≤ 50 := by rw [← r1,← hLe]; exact ht
 clear R1 R2 hVe hLe
 by_cases hne : va1 = cn
 ·have hI2 : Hid (R = erL IL) := hid (by rw [HI.out,if_neg (by rw [l1,r1]; simpa using hne)])
  have hIL : IL.length = va1 := by rw [HNe.out (by rw [l1,r1]; exact hne),l1]
  subst hne
  have g0 : ((va1 : Int) != (va1 : Int)) = false := by simp
  clear HI HNe
  go_wp2
  clear u0 u2 u9 t0 t2
  go_loopw [7] (fun v wr => ∃ i : Nat,i ≤ va1 ∧ v = .int .i64 i ∧ Hid (erL (IL.take i) = 0) ∧ Below U.heap.size U wr) (fun i _ => va1 - (intOf i).toNat)
  case atStart => exact ⟨0,Nat.zero_le _,rfl,hid (by rw [List.take_zero]; rfl),Below.refl _ _⟩
  case round =>
   obtain ⟨i,hi,rfl,HA,hB⟩ := hrel
   have hBW : Below W.heap.size W wr := Below.on hbU hB
   have hBw : Below w.heap.size w wr := Below.on hwU hB
   replace u5 := cell_later hB u5
   replace t1 := cell_later hB t1
   by_cases hlt : i < va1
   ·obtain ⟨_,_,_,e',_,_,_,hx⟩ := HV.out wr hBW
    cases e'
    obtain ⟨b,o,rfl,-,hxi⟩ := hx (by omega)
    obtain ⟨cs,hE,-,hcc⟩ := hxi i (by omega)
    obtain ⟨_,_,_,e',_,_,_,hx'⟩ := HL.out wr hBW
    cases e'
    obtain ⟨b',o',rfl,-,hxi'⟩ := hx' (by omega)
    obtain ⟨cs',hE',-,hcc'⟩ := hxi' i (by omega)
    have hE2 : cs' = [.string L[i].1,.int .i64 L[i].2.1,.string L[i].2.2] := hE'
    subst hE2
    have d1 : wr.cell? ⟨b',o' + i * 3 + 1,none⟩ = some (.int .i64 L[i].2.1) := hcc' 1 (show 1 < 3 by decide)
    have hiV : i < V.length := by omega
    have hiL : i < L.length := by omega
    have hiI : i < IL.length := by omega
    obtain ⟨y,hy⟩ : ∃ y,V[i] = y := ⟨_,rfl⟩
    obtain ⟨kk,hkk⟩ : ∃ kk,L[i].2.1 = kk := ⟨_,rfl⟩
    have HY : Hid (IL[i] = fitsP [] y kk) := hid (by rw [HAt.out i hiI hiV hiL,hy,hkk])
    rw [hy] at hE
    rw [hkk] at d1
    have HKy := rkind_any (C := []) (K := []) (by simp) (by simp) y _ wr cs none 0 0 none 0 0 (RowIs.nil _ _ _) (RowIs.nil _ _ _) hE
    obtain ⟨ya,yn,yc,rfl,hsl⟩ := hE
    simp only [exC] at hcc HKy
    have e0 : wr.cell? ⟨b,o + i * 7,none⟩ = some (.int .i64 y.1.1) := hcc 0 (show 0 < 7 by decide)
    have e1 : wr.cell? ⟨b,o + i * 7 + 1,none⟩ = some (.int .i64 y.1.2.1) := hcc 1 (show 1 < 7 by decide)
    have e2 : wr.cell? ⟨b,o + i * 7 + 2,none⟩ = some (.int .i64 y.1.2.2.1) := hcc 2 (show 2 < 7 by decide)
    have e3 : wr.cell? ⟨b,o + i * 7 + 3,none⟩ = some (.string y.1.2.2.2.1) := hcc 3 (show 3 < 7 by decide)
    have e4 : wr.cell? ⟨b,o + i * 7 + 4,none⟩ = some (.string y.1.2.2.2.2.1) := hcc 4 (show 4 < 7 by decide)
    have e5 : wr.cell? ⟨b,o + i * 7 + 5,none⟩ = some (.string y.1.2.2.2.2.2) := hcc 5 (show 5 < 7 by decide)
    have e6 : wr.cell? ⟨b,o + i * 7 + 6,none⟩ = some (.slice ya yn yc) := hcc 6 (show 6 < 7 by decide)
    have gi : (i : Int) < (va1 : Int) := by omega
    have HF : Hid (fitsP [] y kk = if (kdT [] y).2 = 0 ∧ (kdT [] y).1 ≠ kk then 11 else (kdT [] y).2) := hid rfl
    rw [show pairP [] [] = [] from rfl] at HKy
    replace HKy : Hid _ := hid HKy
    clear hcc hx hxi hsl hy hkk hcc' hx' hxi' hE'
    generalize (kdT [] y).1 = p1 at *
    generalize (kdT [] y).2 = p2 at *
    go_wp2_with fail
    refine Calls.mono HKy.out ?_
    rintro e w4 ⟨rfl,hb4⟩
    have hB4 := Below.on hB hb4
    have hB4w := Below.on hBw hb4
    replace d1 := cell_later hb4 d1
    replace t1 := cell_later hb4 t1
    clear HKy e0 e1 e2 e3 e4 e5 e6
    by_cases h2 : p2 = 0
    ·subst h2
     by_cases h1 : p1 = kk
     ·subst h1
      have HT : Hid (IL[i] = 0) := hid (by rw [HY.out,HF.out]; simp)
      clear HF HY hb4
      go_wp2
      go_roundw
      case rel => exact ⟨i + 1,by omega,by go_num,hid (erL_tk hiI HA.out HT.out),hB4⟩
      case measure => simp only [intOf]; omega
     ·have q1 : decide (p1 = kk) = false := by simpa using h1
      have q2 : (p1 != kk) = true := by simpa using h1
      have HT : Hid (R = 11) := hid (by
       have e : IL[i] = 11 := by rw [HY.out,HF.out,if_pos ⟨rfl,h1⟩]
       rw [hI2.out,erL_st hiI HA.out (by rw [e]; decide),e])
      clear HF HY hb4
      go_wp2
      go_ret
      exact ⟨ret_int HT.out.symm,hB4w⟩
    ·have q1 : decide (p2 = 0) = false := by simpa using h2
     have q2 : (p2 != 0) = true := by simpa using h2
     have HT : Hid (R = p2) := hid (by
      have e : IL[i] = p2 := by rw [HY.out,HF.out,if_neg (fun h => h2 h.1)]
      rw [hI2.out,erL_st hiI HA.out (by rw [e]; exact h2),e])
     clear HF HY hb4
     go_wp2
     go_ret
     exact ⟨ret_int HT.out.symm,hB4w⟩
   ·obtain rfl : i = va1 := by omega
    have HT : Hid (R = 0) := hid (by have := HA.out; rw [← hIL,List.take_length] at this; rw [hI2.out]; exact this)
    clear HV HL HAt
    go_wp2
    go_ret
    exact ⟨ret_int HT.out.symm,hBw⟩
 ·have hI2 : Hid (R = 7) := hid (by rw [HI.out,if_pos (by rw [l1,r1]; exact hne)])
  have g0 : ((va1 : Int) != (cn : Int)) = true := by simp; omega
  have g1 : decide ((va1 : Int) = (cn : Int)) = false := by simp; omega
  clear HI HNe HAt HV HL
  go_wp2
  go_ret
  exact ⟨ret_int hI2.out.symm,hwU⟩
set_option maxRecDepth 100000 in
set_option maxHeartbeats 4000000 in
theorem writes_8 {t : Tbl} (ht : t.cols.length ≤ 50) {m : Sq} (hB : SqB m) {w : World} {s : Sv} (hm : IsQ w m s) {ca : Option Addr} {cn cc : Nat} (hc : RowIs eCol (fun _ => True) w (.slice ca cn cc) t.cols) (xa : Option Addr) (xn xc : Nat) (hk : m.kind = 8) :
  Calls Tryz.prog 38 #[stV s,.agg #[.string t.name,.slice ca cn cc,.slice xa xn xc]] w fun en w' => en = .returned (.int .i64 (whP (colsT t) m.wh)) ∧ Below w.heap.size w w' := by
 have hw := bal (bal (Below.refl w.heap.size w) (svO s)) (.cells #[.string t.name,.slice ca cn cc,.slice xa xn xc] 58)
 have bq := (Bk.new w (svO s)).later (bal (Below.refl _ _) (.cells #[.string t.name,.slice ca cn cc,.slice xa xn xc] 58))
 have bt := Bk.new (w.alloc (svO s)) (.cells #[.string t.name,.slice ca cn cc,.slice xa xn xc] 58)
 rw [World.size_alloc] at bt
 generalize hW : (w.alloc (svO s)).alloc (.cells #[.string t.name,.slice ca cn cc,.slice xa xn xc] 58) = W at hw bq bt
 replace hm := hm.later hw
 replace hc := hc.keep (by decide) fun b _ hl => hw.block b hl
 have z0 := bq.cell 0
 have z1 := bq.cell 1
 have z2 := bq.cell 2
 have z3 := bq.cell 3
 have z4 := bq.cell 4
 have z5 := bq.cell 5
 have z6 := bq.cell 6
 have z7 := bq.cell 7
 have z8 := bq.cell 8
 have z9 := bq.cell 9
 have z10 := bq.cell 10
 have z11 := bq.cell 11
 have z12 := bq.cell 12
 have y0 := bt.cell 0
 have y1 := bt.cell 1
 have y2 := bt.cell 2
 simp only [List.getElem?_toArray,List.getElem?_cons_zero,List.getElem?_cons_succ] at z0 z1 z2 z3 z4 z5 z6 z7 z8 z9 z10 z11 z12 y0 y1 y2
 have HCo : Hid _ := hid (rcols_any (nm := t.name) (a' := xa) (n' := xn) (c' := xc) hc ht)
 have k0 : s.k = 8 := by rw [hm.k,hk]
 rw [k0] at z0
 have HWh : Hid (∀ w',Below W.heap.size W w' → RowIs eG (fun _ => True) w' (.slice s.wh.1 s.wh.2.1 s.wh.2.2) m.wh) := hid fun w' hb => (hm.later hb).wh
 obtain ⟨sk,stb,snm,sco,sta,sva,sit,sjn,son,⟨wh0,wh1,wh2⟩,sod,sds,sinn⟩ := s
 dsimp only [stV,svO] at *
 subst k0
 clear bq bt hm hB hk hc
 go_enter Tryz.func38,Tryz.ntmps38
 go_upto_region 1 with fail
 clear hW
 obtain ⟨q,hq⟩ : ∃ q,w.heap.size = q := ⟨_,rfl⟩
 have Hq : Hid _ := hid hq
 simp only [World.size_alloc,hq] at z0 z2 z5 z9 y0 y1 y2 ⊢
 clear hq
 go_wp2_with fail
 refine Calls.mono HCo.out ?_
 rintro e U ⟨v1,v2,rfl,ho1,ho2,-,hbU⟩
 obtain ⟨ia,im,ic,rfl⟩ := ho1.sl
 obtain ⟨ka,km,kc,rfl⟩ := ho2.sl
 have R1 : Hid _ := hid (row_itT ho1)
 have R2 : Hid _ := hid (row_kiT ho2)
 have u0 := cell_later hbU z0
 have u2 := cell_later hbU z2
 have u5 := cell_later hbU z5
 have u9 := cell_later hbU z9
 have t0 := cell_later hbU y0
 have t1 := cell_later hbU y1
 have t2 := cell_later hbU y2
 have hwU : Below w.heap.size w U := Below.on hw hbU
 clear HCo ho1 ho2 z0 z1 z2 z3 z4 z5 z6 z7 z8 z9 z10 z11 z12 y0 y1 y2
 have HX : Hid _ := hid (rwhere_any (C := itT t) (K := kiT t) (by rw [itT_len]; omega) (by rw [kiT_len]; omega) R1.out R2.out (HWh.out U hbU))
 rw [pairT] at HX
 clear R1 R2 HWh
 go_wp2_with fail
 refine Calls.mono HX.out ?_
 rintro e w5 ⟨rfl,hb5⟩
 clear HX
 go_wp2
 go_ret
 exact ⟨rfl,Below.on hwU hb5⟩
theorem updD_none {t : Tbl} {m : Sq} (h : fidx (fun c => eqS c.1 m.name) t.cols = -1) : updD t m = 10 := by unfold updD; rw [h]; rfl
theorem updD_zero {t : Tbl} {m : Sq} (h : fidx (fun c => eqS c.1 m.name) t.cols = ((0 : Nat) : Int)) : updD t m = 24 := by
 unfold updD; rw [if_neg (by rw [h]; decide),if_pos (by unfold keptP; rw [h]; rfl)]
theorem updD_ref {t : Tbl} {m : Sq} {k : Nat} (hk : k < t.cols.length) (h : fidx (fun c => eqS c.1 m.name) t.cols = (k : Int)) (hr : t.cols[k].2.2 ≠ ⟨#[]⟩) : updD t m = 24 := by
 unfold updD; rw [if_neg (by rw [h]; omega),if_pos (by unfold keptP; rw [h]; simp [hk,hr])]
theorem updD_go {t : Tbl} {m : Sq} {k : Nat} {x : Pg × Tg} (hv : m.values = [x]) (hk : k < t.cols.length) (h0 : k ≠ 0) (h : fidx (fun c => eqS c.1 m.name) t.cols = (k : Int)) (hr : t.cols[k].2.2 = ⟨#[]⟩) : updD t m = erL [fitsP (colsT t) x t.cols[k].2.1,whP (colsT t) m.wh] := by
 unfold updD
 rw [if_neg (by rw [h]; omega),if_neg (by unfold keptP; rw [h]; simp [hk,hr,h0]),hv,h]
 simp [hk]
set_option maxRecDepth 100000 in
set_option maxHeartbeats 4000000 in
theorem writes_7 {t : Tbl} (ht : t.cols.length ≤ 50) {m : Sq} (hB : SqB m) {w : World} {s : Sv} (hm : IsQ w m s) {ca : Option Addr} {cn cc : Nat} (hc : RowIs eCol (fun _ => True) w (.slice ca cn cc) t.cols) (xa : Option Addr) (xn xc : Nat) (hk : m.kind = 7) (hv : m.values.length = 1) :
  Calls Tryz.prog 38 #[stV s,.agg #[.string t.name,.slice ca cn cc,.slice xa xn xc]] w fun en w' => en = .returned (.int .i64 (updD t m)) ∧ Below w.heap.size w w' := by
 have hw := bal (bal (Below.refl w.heap.size w) (svO s)) (.cells #[.string t.name,.slice ca cn cc,.slice xa xn xc] 58)
 have bq := (Bk.new w (svO s)).later (bal (Below.refl _ _) (.cells #[.string t.name,.slice ca cn cc,.slice xa xn xc] 58))
 have bt := Bk.new (w.alloc (svO s)) (.cells #[.string t.name,.slice ca cn cc,.slice xa xn xc] 58)
 rw [World.size_alloc] at bt
 generalize hW : (w.alloc (svO s)).alloc (.cells #[.string t.name,.slice ca cn cc,.slice xa xn xc] 58) = W at hw bq bt
 replace hm := hm.later hw
 replace hc := hc.keep (by decide) fun b _ hl => hw.block b hl
 have z0 := bq.cell 0
 have z1 := bq.cell 1
 have z2 := bq.cell 2
 have z3 := bq.cell 3
 have z4 := bq.cell 4
 have z5 := bq.cell 5
 have z6 := bq.cell 6
 have z7 := bq.cell 7
 have z8 := bq.cell 8
 have z9 := bq.cell 9
 have z10 := bq.cell 10
 have z11 := bq.cell 11
 have z12 := bq.cell 12
 have y0 := bt.cell 0
 have y1 := bt.cell 1
 have y2 := bt.cell 2
 simp only [List.getElem?_toArray,List.getElem?_cons_zero,List.getElem?_cons_succ] at z0 z1 z2 z3 z4 z5 z6 z7 z8 z9 z10 z11 z12 y0 y1 y2
 have HCo : Hid _ := hid (rcols_any (nm := t.name) (a' := xa) (n' := xn) (c' := xc) hc ht)
 have k0 : s.k = 7 := by rw [hm.k,hk]
 rw [k0] at z0
 have knm : s.nm = m.name := hm.nm
 rw [knm] at z2
 obtain ⟨x,hvx⟩ : ∃ x,m.values = [x] := by
  match hm2 : m.values,hv with
  | [x],_ => exact ⟨x,rfl⟩
 have HV : Hid (∀ w',Below W.heap.size W w' → RowIs eG (fun _ => True) w' (.slice s.va.1 s.va.2.1 s.va.2.2) [x]) := hid fun w' hb => hvx ▸ (hm.later hb).va
 have HWh : Hid (∀ w',Below W.heap.size W w' → RowIs eG (fun _ => True) w' (.slice s.wh.1 s.wh.2.1 s.wh.2.2) m.wh) := hid fun w' hb => (hm.later hb).wh
 have HL : Hid (∀ w',Below W.heap.size W w' → RowIs eCol (fun _ => True) w' (.slice ca cn cc) t.cols) := hid fun w' hb => hc.keep (by decide) fun b _ hl => hb.block b hl
 have HCn : Hid (∀ w',Below W.heap.size W w' → _) := hid fun w' hb => rcolumn_any (L := t.cols) (by omega) t.name m.name (HL.out w' hb) xa xn xc
 have D1 : Hid (fidx (fun c => eqS c.1 m.name) t.cols = -1 → updD t m = 10) := hid updD_none
 have D2 : Hid (fidx (fun c => eqS c.1 m.name) t.cols = ((0 : Nat) : Int) → updD t m = 24) := hid updD_zero
 have D3 : Hid (∀ k (hk : k < t.cols.length),fidx (fun c => eqS c.1 m.name) t.cols = (k : Int) → t.cols[k].2.2 ≠ ⟨#[]⟩ → updD t m = 24) := hid fun k hk h hr => updD_ref hk h hr
 have D4 : Hid (∀ k (hk : k < t.cols.length),k ≠ 0 → fidx (fun c => eqS c.1 m.name) t.cols = (k : Int) → t.cols[k].2.2 = ⟨#[]⟩ → updD t m = erL [fitsP (colsT t) x t.cols[k].2.1,whP (colsT t) m.wh]) := hid fun k hk h0 h hr => updD_go hvx hk h0 h hr
 have HX0 : Hid (∀ w' (ia : Option Addr) (im ic : Nat) (ka : Option Addr) (km kc : Nat),Below W.heap.size W w' → RowIs eItem (fun _ => True) w' (.slice ia im ic) (itT t) → RowIs eInt (fun _ => True) w' (.slice ka km kc) (kiT t) → Calls Tryz.prog 74 #[.slice ia im ic,.slice ka km kc,.slice s.wh.1 s.wh.2.1 s.wh.2.2] w' fun en w'' => en = .returned (.int .i64 (whP (colsT t) m.wh)) ∧ Below w'.heap.size w' w'') := hid fun w' ia im ic ka km kc hb h1 h2 => by
  have := rwhere_any (C := itT t) (K := kiT t) (by rw [itT_len]; omega) (by rw [kiT_len]; omega) h1 h2 (HWh.out w' hb)
  rwa [pairT] at this
 have HK0 : Hid (∀ w' (cs : List Value) (ia : Option Addr) (im ic : Nat) (ka : Option Addr) (km kc : Nat),RowIs eItem (fun _ => True) w' (.slice ia im ic) (itT t) → RowIs eInt (fun _ => True) w' (.slice ka km kc) (kiT t) → eG.E (fun _ => True) w' x cs → Calls Tryz.prog 12 #[.slice ia im ic,.slice ka km kc,.agg cs.toArray] w' fun en w'' => en = .returned (.tuple #[.int .i64 (kdT (colsT t) x).1,.int .i64 (kdT (colsT t) x).2]) ∧ Below w'.heap.size w' w'') := hid fun w' cs ia im ic ka km kc h1 h2 hE => by
  have := rkind_any (C := itT t) (K := kiT t) (by rw [itT_len]; omega) (by rw [kiT_len]; omega) x _ w' cs ia im ic ka km kc h1 h2 hE
  rwa [pairT] at this
 have hvals := fidx_vals (fun c : Co => eqS c.1 m.name) t.cols
 have HF : Hid (∀ k,fitsP (colsT t) x k = if (kdT (colsT t) x).2 = 0 ∧ (kdT (colsT t) x).1 ≠ k then 11 else (kdT (colsT t) x).2) := hid fun _ => rfl
 obtain ⟨l1,l2,l3⟩ := (HV.out W (Below.refl _ _)).lens
 obtain ⟨r1,r2,r3⟩ := hc.lens
 obtain ⟨sk,stb,snm,sco,sta,⟨va0,va1,va2⟩,sit,sjn,son,⟨wh0,wh1,wh2⟩,sod,sds,sinn⟩ := s
 dsimp only [stV,svO] at *
 subst k0
 subst knm
 obtain rfl : va1 = 1 := by rw [← l1]; rfl
 generalize updD t m = R at *
 generalize fidx (fun c => eqS c.1 m.name) t.cols = fi at *
 generalize whP (colsT t) m.wh = wv at *
 generalize m.name = nme at *
 clear bq bt hm hB hk hc HWh hvx hv l1
 go_enter Tryz.func38,Tryz.ntmps38
 go_upto_region 1 with fail
 clear hW
 obtain ⟨q,hq⟩ : ∃ q,w.heap.size = q := ⟨_,rfl⟩
 have Hq : Hid _ := hid hq
 simp only [World.size_alloc,hq] at z0 z2 z5 z9 y0 y1 y2 ⊢
 clear hq
 go_wp2_with fail
 refine Calls.mono HCo.out ?_
 rintro e U ⟨v1,v2,rfl,ho1,ho2,-,hbU⟩
 obtain ⟨ia,im,ic,rfl⟩ := ho1.sl
 obtain ⟨ka,km,kc,rfl⟩ := ho2.sl
 have R1 : Hid _ := hid (row_itT ho1)
 have R2 : Hid _ := hid (row_kiT ho2)
 have u0 := cell_later hbU z0
 have u2 := cell_later hbU z2
 have u5 := cell_later hbU z5
 have u9 := cell_later hbU z9
 have t0 := cell_later hbU y0
 have t1 := cell_later hbU y1
 have t2 := cell_later hbU y2
 have hwU : Below w.heap.size w U := Below.on hw hbU
 clear HCo ho1 ho2 z0 z1 z2 z3 z4 z5 z6 z7 z8 z9 z10 z11 z12 y0 y1 y2
 have HCx : Hid _ := hid (HCn.out U hbU)
 clear HCn
 go_wp2_with fail
 refine Calls.mono HCx.out ?_
 rintro e U2 ⟨rfl,hb2⟩
 have hB2 := Below.on hbU hb2
 have hwU2 := Below.on hwU hb2
 replace u5 := cell_later hb2 u5
 replace u9 := cell_later hb2 u9
 replace t1 := cell_later hb2 t1
 have R1' : Hid _ := hid (R1.out.keep (by decide) fun b _ hl => hb2.block b hl)
 have R2' : Hid _ := hid (R2.out.keep (by decide) fun b _ hl => hb2.block b hl)
 clear HCx R1 R2 hb2
 rcases hvals with hf | ⟨k,hf,hkl⟩
 ·have HR : Hid (R = 10) := hid (D1.out hf)
  subst hf
  clear D1 D2 D3 D4 HV HL HX0 HK0 HF
  go_wp2
  go_ret
  exact ⟨ret_int HR.out.symm,hwU2⟩
 ·subst hf
  by_cases hk0 : k = 0
  ·subst hk0
   have HR : Hid (R = 24) := hid (D2.out rfl)
   clear D1 D2 D3 D4 HV HL HX0 HK0 HF
   go_wp2
   go_ret
   exact ⟨ret_int HR.out.symm,hwU2⟩
  ·have g0 : ¬ (k : Int) < 0 := by omega
   have g1 : ((k : Int) == 0) = false := by simp; omega
   have g2 : decide ((k : Int) = 0) = false := by simp; omega
   have g3 : (k : Int) < (cn : Int) := by omega
   have g4 : decide ((k : Int) < 0) = false := by simp
   obtain ⟨_,_,_,e',_,_,_,hx'⟩ := HL.out U2 hB2
   cases e'
   obtain ⟨b',o',rfl,-,hxi'⟩ := hx' (by omega)
   obtain ⟨cs',hE',-,hcc'⟩ := hxi' k hkl
   have hE2 : cs' = [.string t.cols[k].1,.int .i64 t.cols[k].2.1,.string t.cols[k].2.2] := hE'
   subst hE2
   have d1 : U2.cell? ⟨b',o' + k * 3 + 1,none⟩ = some (.int .i64 t.cols[k].2.1) := hcc' 1 (show 1 < 3 by decide)
   have d2 : U2.cell? ⟨b',o' + k * 3 + 2,none⟩ = some (.string t.cols[k].2.2) := hcc' 2 (show 2 < 3 by decide)
   have E3 : Hid (t.cols[k].2.2 ≠ ⟨#[]⟩ → R = 24) := hid (D3.out k hkl rfl)
   have E4 : Hid (t.cols[k].2.2 = ⟨#[]⟩ → R = erL [fitsP (colsT t) x t.cols[k].2.1,wv]) := hid (D4.out k hkl hk0 rfl)
   generalize t.cols[k].2.2 = rf at *
   generalize t.cols[k].2.1 = kk at *
   have es := empty_str rf
   clear D1 D2 D3 D4 hcc' hx' hxi' hE' HL
   by_cases hrf : rf = ⟨#[]⟩
   ·have eb : rf.toList.isEmpty = true := by rw [es]; simpa using hrf
    have HR : Hid _ := hid (E4.out hrf)
    clear es E3 E4 hrf
    obtain ⟨_,_,_,e',_,_,_,hx⟩ := HV.out U2 hB2
    cases e'
    obtain ⟨b,o,rfl,-,hxi⟩ := hx (by decide)
    obtain ⟨cs,hE,-,hcc⟩ := hxi 0 (by simp)
    have HKy := HK0.out U2 cs ia im ic ka km kc R1'.out R2'.out hE
    obtain ⟨ya,yn,yc,rfl,hsl⟩ := hE
    simp only [exC] at hcc HKy
    have e0 : U2.cell? ⟨b,o,none⟩ = some (.int .i64 x.1.1) := by simpa using hcc 0 (show 0 < 7 by decide)
    have e1 : U2.cell? ⟨b,o + 1,none⟩ = some (.int .i64 x.1.2.1) := by simpa using hcc 1 (show 1 < 7 by decide)
    have e2 : U2.cell? ⟨b,o + 2,none⟩ = some (.int .i64 x.1.2.2.1) := by simpa using hcc 2 (show 2 < 7 by decide)
    have e3 : U2.cell? ⟨b,o + 3,none⟩ = some (.string x.1.2.2.2.1) := by simpa using hcc 3 (show 3 < 7 by decide)
    have e4 : U2.cell? ⟨b,o + 4,none⟩ = some (.string x.1.2.2.2.2.1) := by simpa using hcc 4 (show 4 < 7 by decide)
    have e5 : U2.cell? ⟨b,o + 5,none⟩ = some (.string x.1.2.2.2.2.2) := by simpa using hcc 5 (show 5 < 7 by decide)
    have e6 : U2.cell? ⟨b,o + 6,none⟩ = some (.slice ya yn yc) := by simpa using hcc 6 (show 6 < 7 by decide)
    replace HKy : Hid _ := hid HKy
    have HFk : Hid _ := hid (HF.out kk)
    clear hcc hx hxi hsl HV HK0 HF
    generalize (kdT (colsT t) x).1 = p1 at *
    generalize (kdT (colsT t) x).2 = p2 at *
    go_wp2_with fail
    refine Calls.mono HKy.out ?_
    rintro e w4 ⟨rfl,hb4⟩
    have hB4 := Below.on hB2 hb4
    have hB4w := Below.on hwU2 hb4
    replace d1 := cell_later hb4 d1
    replace t1 := cell_later hb4 t1
    replace u9 := cell_later hb4 u9
    have HX : Hid _ := hid (HX0.out w4 ia im ic ka km kc hB4 (R1'.out.keep (by decide) fun b _ hl => hb4.block b hl) (R2'.out.keep (by decide) fun b _ hl => hb4.block b hl))
    clear HKy HX0 R1' R2' hb4
    by_cases h2 : p2 = 0
    ·subst h2
     by_cases h1 : p1 = kk
     ·subst h1
      have HT : Hid (R = wv) := hid (by rw [HR.out,HFk.out]; simp [erL]; exact fun h => h.symm)
      clear HFk HR
      go_wp2_with fail
      refine Calls.mono HX.out ?_
      rintro e w5 ⟨rfl,hb5⟩
      clear HX
      go_wp2
      go_ret
      exact ⟨ret_int HT.out.symm,Below.on hB4w hb5⟩
     ·have q1 : decide (p1 = kk) = false := by simpa using h1
      have q2 : (p1 != kk) = true := by simpa using h1
      have HT : Hid (R = 11) := hid (by rw [HR.out,HFk.out,if_pos ⟨rfl,h1⟩]; rfl)
      clear HFk HR HX
      go_wp2
      go_ret
      exact ⟨ret_int HT.out.symm,hB4w⟩
    ·have q1 : decide (p2 = 0) = false := by simpa using h2
     have q2 : (p2 != 0) = true := by simpa using h2
     have HT : Hid (R = p2) := hid (by rw [HR.out,HFk.out,if_neg (fun h => h2 h.1)]; simp [erL,h2])
     clear HFk HR HX
     go_wp2
     go_ret
     exact ⟨ret_int HT.out.symm,hB4w⟩
   ·have eb : rf.toList.isEmpty = false := by rw [es]; simpa using hrf
    have HR : Hid (R = 24) := hid (E3.out hrf)
    clear es E3 E4 hrf HV HK0 HX0 HF
    go_wp2
    go_ret
    exact ⟨ret_int HR.out.symm,hwU2⟩

end Go.Proofs.YtljmlacnfnmjbaaGreat
