import Derived.Test.YtljmlacnfnmjbaaGreatTmbe
import Derived.Test.YtljmlacnfnmjbaaGreatTmbb
namespace Go.Proofs.YtljmlacnfnmjbaaGreat
open Go.RowKit
set_option linter.unusedVariables false
set_option linter.unusedSimpArgs false

set_option maxRecDepth 100000 in
set_option maxHeartbeats 4000000 in
theorem check_3 {T : List Tbl} {m : Sq} (hB : SqB m) {w : World} {ta : Option Addr} {tn tc : Nat} {vb : Option Addr} {vm vd : Nat} (hT : IsT w T ta tn tc) {s : Sv} (hm : IsQ w m s) (hk : m.kind = 3) {r : Sv} {E : Int} {ib io ic : Nat} (hin : s.inn = (some ⟨ib,io,none⟩,1,ic)) (hic : 1 ≤ ic ∧ ic ≤ 9223372036854775807) (hir : ∀ j,j < 13 → w.cell? ⟨ib,io + j,none⟩ = (svC r)[j]?) (hI : ∀ w',Below w.heap.size w w' → Calls Tryz.prog 15 #[.agg #[.slice ta tn tc,.slice vb vm vd],stV r] w' fun en w'' => en = .returned (.int .i64 E) ∧ Below w'.heap.size w' w'') :
  Calls Tryz.prog 15 #[.agg #[.slice ta tn tc,.slice vb vm vd],stV s] w fun en w' => en = .returned (.int .i64 (E)) ∧ Below w.heap.size w w' := by
 have hw := bal (bal (Below.refl w.heap.size w) (.cells #[.slice ta tn tc,.slice vb vm vd] 38)) (svO s)
 have bs := (Bk.new w (.cells #[.slice ta tn tc,.slice vb vm vd] 38)).later (bal (Below.refl _ _) (svO s))
 have bq := Bk.new (w.alloc (.cells #[.slice ta tn tc,.slice vb vm vd] 38)) (svO s)
 rw [World.size_alloc] at bq
 generalize hW : (w.alloc (.cells #[.slice ta tn tc,.slice vb vm vd] 38)).alloc (svO s) = W at hw bs bq
 replace hT := hT.later hw
 replace hm := hm.later hw
 have y0 := bs.cell 0
 have y1 := bs.cell 1
 have z0 := bq.cell 0
 have z1 := bq.cell 1
 have z2 := bq.cell 2
 have z3 := bq.cell 3
 have z4 := bq.cell 4
 have z5 := bq.cell 5
 have z6 := bq.cell 6
 have z7 := bq.cell 7
 have z8 := bq.cell 8
 have z9 := bq.cell 9
 have z10 := bq.cell 10
 have z11 := bq.cell 11
 have z12 := bq.cell 12
 simp only [List.getElem?_toArray,List.getElem?_cons_zero,List.getElem?_cons_succ] at y0 y1 z0 z1 z2 z3 z4 z5 z6 z7 z8 z9 z10 z11 z12
 have x0 := cell_later hw (hir 0 (by decide))
 have x1 := cell_later hw (hir 1 (by decide))
 have x2 := cell_later hw (hir 2 (by decide))
 have x3 := cell_later hw (hir 3 (by decide))
 have x4 := cell_later hw (hir 4 (by decide))
 have x5 := cell_later hw (hir 5 (by decide))
 have x6 := cell_later hw (hir 6 (by decide))
 have x7 := cell_later hw (hir 7 (by decide))
 have x8 := cell_later hw (hir 8 (by decide))
 have x9 := cell_later hw (hir 9 (by decide))
 have x10 := cell_later hw (hir 10 (by decide))
 have x11 := cell_later hw (hir 11 (by decide))
 have x12 := cell_later hw (hir 12 (by decide))
 simp only [svC,List.getElem?_cons_zero,List.getElem?_cons_succ,Nat.add_zero] at x0 x1 x2 x3 x4 x5 x6 x7 x8 x9 x10 x11 x12
 have hf1 : formP m s.inn.2.1 = true := by unfold formP; rw [hin]; simp [hk]
 have HFo := formed_3 hB hm hk (by rw [hin]; show 1 ≤ _; omega)
 rw [hf1] at HFo
 replace HFo : Hid _ := hid HFo
 have HM : Hid (∀ w',Below W.heap.size W w' → _) := hid fun w' hb => hI w' (Below.on hw hb)
 have k0 : s.k = 3 := by rw [hm.k,hk]
 rw [k0] at z0
 clear hT bs bq hB hk hf1 hI hir
 obtain ⟨sk,stb,snm,⟨co0,co1,co2⟩,⟨ta0,ta1,ta2⟩,⟨va0,va1,va2⟩,⟨it0,it1,it2⟩,sjn,⟨on0,on1,on2⟩,⟨wh0,wh1,wh2⟩,⟨od0,od1,od2⟩,sds,⟨in0,in1,in2⟩⟩ := s
 obtain ⟨rk,rtb,rnm,⟨rco0,rco1,rco2⟩,⟨rta0,rta1,rta2⟩,⟨rva0,rva1,rva2⟩,⟨rit0,rit1,rit2⟩,rjn,⟨ron0,ron1,ron2⟩,⟨rwh0,rwh1,rwh2⟩,⟨rod0,rod1,rod2⟩,rds,⟨rin0,rin1,rin2⟩⟩ := r
 dsimp only [stV,svO] at *
 subst k0
 obtain ⟨rfl,rfl,rfl⟩ : in0 = some ⟨ib,io,none⟩ ∧ in1 = 1 ∧ in2 = ic := by simpa using hin
 clear hm hin
 go_enter Tryz.func15,Tryz.ntmps15
 go_upto_region 1 with fail
 go_wp2_with fail
 refine Calls.mono HFo.out ?_
 rintro e w4 ⟨rfl,hb4⟩
 have HM2 : Hid (∀ w',Below w4.heap.size w4 w' → _) := hid fun w' hb => HM.out w' (Below.on hb4 hb)
 replace y0 := cell_later hb4 y0
 replace y1 := cell_later hb4 y1
 replace z0 := cell_later hb4 z0
 replace z12 := cell_later hb4 z12
 replace x0 := cell_later hb4 x0
 replace x1 := cell_later hb4 x1
 replace x2 := cell_later hb4 x2
 replace x3 := cell_later hb4 x3
 replace x4 := cell_later hb4 x4
 replace x5 := cell_later hb4 x5
 replace x6 := cell_later hb4 x6
 replace x7 := cell_later hb4 x7
 replace x8 := cell_later hb4 x8
 replace x9 := cell_later hb4 x9
 replace x10 := cell_later hb4 x10
 replace x11 := cell_later hb4 x11
 replace x12 := cell_later hb4 x12
 have hB4 := Below.on hw hb4
 clear HFo hW hb4 hw z1 z2 z3 z4 z5 z6 z7 z8 z9 z10 z11
 generalize w.heap.size + 1 = q at *
 generalize w.heap.size = p at y0 y1 ⊢
 clear HM
 have hC : Below w4.heap.size w4 w4.drew := (Below.refl _ w4).drew
 have HG : Hid _ := hid hB4
 go_upto_region 14 with fail
 go_region_held (fun w' => w'.cell? ⟨p,0,none⟩ = some (.slice ta tn tc) ∧ w'.cell? ⟨p,1,none⟩ = some (.slice vb vm vd) ∧ w'.cell? ⟨q,12,none⟩ = some (.slice (some ⟨ib,io,none⟩) 1 in2) ∧ w'.cell? ⟨ib,io,none⟩ = some (.int .i64 rk) ∧ w'.cell? ⟨ib,io + 1,none⟩ = some (.string rtb) ∧ w'.cell? ⟨ib,io + 2,none⟩ = some (.string rnm) ∧ w'.cell? ⟨ib,io + 3,none⟩ = some (.slice rco0 rco1 rco2) ∧ w'.cell? ⟨ib,io + 4,none⟩ = some (.slice rta0 rta1 rta2) ∧ w'.cell? ⟨ib,io + 5,none⟩ = some (.slice rva0 rva1 rva2) ∧ w'.cell? ⟨ib,io + 6,none⟩ = some (.slice rit0 rit1 rit2) ∧ w'.cell? ⟨ib,io + 7,none⟩ = some (.string rjn) ∧ w'.cell? ⟨ib,io + 8,none⟩ = some (.slice ron0 ron1 ron2) ∧ w'.cell? ⟨ib,io + 9,none⟩ = some (.slice rwh0 rwh1 rwh2) ∧ w'.cell? ⟨ib,io + 10,none⟩ = some (.slice rod0 rod1 rod2) ∧ w'.cell? ⟨ib,io + 11,none⟩ = some (.bool rds) ∧ w'.cell? ⟨ib,io + 12,none⟩ = some (.slice rin0 rin1 rin2))
  (exact ⟨cell_later hC y0,cell_later hC y1,cell_later hC z12,cell_later hC x0,cell_later hC x1,cell_later hC x2,cell_later hC x3,cell_later hC x4,cell_later hC x5,cell_later hC x6,cell_later hC x7,cell_later hC x8,cell_later hC x9,cell_later hC x10,cell_later hC x11,cell_later hC x12⟩)
  (first
  | (go_at_call 15; with_reducible refine Calls.mono (HM2.out _ hC) ?_; rintro e z1 ⟨rfl,hb1⟩; replace hC := Below.on hC hb1))
 all_goals
  go_wp2
  go_ret
  exact ⟨rfl,Below.on HG.out hC⟩
set_option maxRecDepth 100000 in
set_option maxHeartbeats 4000000 in
theorem check_4 {T : List Tbl} {m : Sq} (hB : SqB m) {w : World} {ta : Option Addr} {tn tc : Nat} {vb : Option Addr} {vm vd : Nat} (hT : IsT w T ta tn tc) {s : Sv} (hm : IsQ w m s) (hk : m.kind = 4) {r : Sv} {E : Int} {ib io ic : Nat} (hin : s.inn = (some ⟨ib,io,none⟩,1,ic)) (hic : 1 ≤ ic ∧ ic ≤ 9223372036854775807) (hir : ∀ j,j < 13 → w.cell? ⟨ib,io + j,none⟩ = (svC r)[j]?) (hI : ∀ w',Below w.heap.size w w' → Calls Tryz.prog 15 #[.agg #[.slice ta tn tc,.slice vb vm vd],stV r] w' fun en w'' => en = .returned (.int .i64 E) ∧ Below w'.heap.size w' w'') :
  Calls Tryz.prog 15 #[.agg #[.slice ta tn tc,.slice vb vm vd],stV s] w fun en w' => en = .returned (.int .i64 (E)) ∧ Below w.heap.size w w' := by
 have hw := bal (bal (Below.refl w.heap.size w) (.cells #[.slice ta tn tc,.slice vb vm vd] 38)) (svO s)
 have bs := (Bk.new w (.cells #[.slice ta tn tc,.slice vb vm vd] 38)).later (bal (Below.refl _ _) (svO s))
 have bq := Bk.new (w.alloc (.cells #[.slice ta tn tc,.slice vb vm vd] 38)) (svO s)
 rw [World.size_alloc] at bq
 generalize hW : (w.alloc (.cells #[.slice ta tn tc,.slice vb vm vd] 38)).alloc (svO s) = W at hw bs bq
 replace hT := hT.later hw
 replace hm := hm.later hw
 have y0 := bs.cell 0
 have y1 := bs.cell 1
 have z0 := bq.cell 0
 have z1 := bq.cell 1
 have z2 := bq.cell 2
 have z3 := bq.cell 3
 have z4 := bq.cell 4
 have z5 := bq.cell 5
 have z6 := bq.cell 6
 have z7 := bq.cell 7
 have z8 := bq.cell 8
 have z9 := bq.cell 9
 have z10 := bq.cell 10
 have z11 := bq.cell 11
 have z12 := bq.cell 12
 simp only [List.getElem?_toArray,List.getElem?_cons_zero,List.getElem?_cons_succ] at y0 y1 z0 z1 z2 z3 z4 z5 z6 z7 z8 z9 z10 z11 z12
 have x0 := cell_later hw (hir 0 (by decide))
 have x1 := cell_later hw (hir 1 (by decide))
 have x2 := cell_later hw (hir 2 (by decide))
 have x3 := cell_later hw (hir 3 (by decide))
 have x4 := cell_later hw (hir 4 (by decide))
 have x5 := cell_later hw (hir 5 (by decide))
 have x6 := cell_later hw (hir 6 (by decide))
 have x7 := cell_later hw (hir 7 (by decide))
 have x8 := cell_later hw (hir 8 (by decide))
 have x9 := cell_later hw (hir 9 (by decide))
 have x10 := cell_later hw (hir 10 (by decide))
 have x11 := cell_later hw (hir 11 (by decide))
 have x12 := cell_later hw (hir 12 (by decide))
 simp only [svC,List.getElem?_cons_zero,List.getElem?_cons_succ,Nat.add_zero] at x0 x1 x2 x3 x4 x5 x6 x7 x8 x9 x10 x11 x12
 have hf1 : formP m s.inn.2.1 = true := by unfold formP; rw [hin]; simp [hk]
 have HFo := formed_4 hB hm hk (by rw [hin]; show 1 ≤ _; omega)
 rw [hf1] at HFo
 replace HFo : Hid _ := hid HFo
 have HM : Hid (∀ w',Below W.heap.size W w' → _) := hid fun w' hb => hI w' (Below.on hw hb)
 have k0 : s.k = 4 := by rw [hm.k,hk]
 rw [k0] at z0
 clear hT bs bq hB hk hf1 hI hir
 obtain ⟨sk,stb,snm,⟨co0,co1,co2⟩,⟨ta0,ta1,ta2⟩,⟨va0,va1,va2⟩,⟨it0,it1,it2⟩,sjn,⟨on0,on1,on2⟩,⟨wh0,wh1,wh2⟩,⟨od0,od1,od2⟩,sds,⟨in0,in1,in2⟩⟩ := s
 obtain ⟨rk,rtb,rnm,⟨rco0,rco1,rco2⟩,⟨rta0,rta1,rta2⟩,⟨rva0,rva1,rva2⟩,⟨rit0,rit1,rit2⟩,rjn,⟨ron0,ron1,ron2⟩,⟨rwh0,rwh1,rwh2⟩,⟨rod0,rod1,rod2⟩,rds,⟨rin0,rin1,rin2⟩⟩ := r
 dsimp only [stV,svO] at *
 subst k0
 obtain ⟨rfl,rfl,rfl⟩ : in0 = some ⟨ib,io,none⟩ ∧ in1 = 1 ∧ in2 = ic := by simpa using hin
 clear hm hin
 go_enter Tryz.func15,Tryz.ntmps15
 go_upto_region 1 with fail
 go_wp2_with fail
 refine Calls.mono HFo.out ?_
 rintro e w4 ⟨rfl,hb4⟩
 have HM2 : Hid (∀ w',Below w4.heap.size w4 w' → _) := hid fun w' hb => HM.out w' (Below.on hb4 hb)
 replace y0 := cell_later hb4 y0
 replace y1 := cell_later hb4 y1
 replace z0 := cell_later hb4 z0
 replace z12 := cell_later hb4 z12
 replace x0 := cell_later hb4 x0
 replace x1 := cell_later hb4 x1
 replace x2 := cell_later hb4 x2
 replace x3 := cell_later hb4 x3
 replace x4 := cell_later hb4 x4
 replace x5 := cell_later hb4 x5
 replace x6 := cell_later hb4 x6
 replace x7 := cell_later hb4 x7
 replace x8 := cell_later hb4 x8
 replace x9 := cell_later hb4 x9
 replace x10 := cell_later hb4 x10
 replace x11 := cell_later hb4 x11
 replace x12 := cell_later hb4 x12
 have hB4 := Below.on hw hb4
 clear HFo hW hb4 hw z1 z2 z3 z4 z5 z6 z7 z8 z9 z10 z11
 generalize w.heap.size + 1 = q at *
 generalize w.heap.size = p at y0 y1 ⊢
 clear HM
 have hC : Below w4.heap.size w4 w4.drew := (Below.refl _ w4).drew
 have HG : Hid _ := hid hB4
 go_upto_region 14 with fail
 go_region_held (fun w' => w'.cell? ⟨p,0,none⟩ = some (.slice ta tn tc) ∧ w'.cell? ⟨p,1,none⟩ = some (.slice vb vm vd) ∧ w'.cell? ⟨q,12,none⟩ = some (.slice (some ⟨ib,io,none⟩) 1 in2) ∧ w'.cell? ⟨ib,io,none⟩ = some (.int .i64 rk) ∧ w'.cell? ⟨ib,io + 1,none⟩ = some (.string rtb) ∧ w'.cell? ⟨ib,io + 2,none⟩ = some (.string rnm) ∧ w'.cell? ⟨ib,io + 3,none⟩ = some (.slice rco0 rco1 rco2) ∧ w'.cell? ⟨ib,io + 4,none⟩ = some (.slice rta0 rta1 rta2) ∧ w'.cell? ⟨ib,io + 5,none⟩ = some (.slice rva0 rva1 rva2) ∧ w'.cell? ⟨ib,io + 6,none⟩ = some (.slice rit0 rit1 rit2) ∧ w'.cell? ⟨ib,io + 7,none⟩ = some (.string rjn) ∧ w'.cell? ⟨ib,io + 8,none⟩ = some (.slice ron0 ron1 ron2) ∧ w'.cell? ⟨ib,io + 9,none⟩ = some (.slice rwh0 rwh1 rwh2) ∧ w'.cell? ⟨ib,io + 10,none⟩ = some (.slice rod0 rod1 rod2) ∧ w'.cell? ⟨ib,io + 11,none⟩ = some (.bool rds) ∧ w'.cell? ⟨ib,io + 12,none⟩ = some (.slice rin0 rin1 rin2))
  (exact ⟨cell_later hC y0,cell_later hC y1,cell_later hC z12,cell_later hC x0,cell_later hC x1,cell_later hC x2,cell_later hC x3,cell_later hC x4,cell_later hC x5,cell_later hC x6,cell_later hC x7,cell_later hC x8,cell_later hC x9,cell_later hC x10,cell_later hC x11,cell_later hC x12⟩)
  (first
  | (go_at_call 15; with_reducible refine Calls.mono (HM2.out _ hC) ?_; rintro e z1 ⟨rfl,hb1⟩; replace hC := Below.on hC hb1))
 all_goals
  go_wp2
  go_ret
  exact ⟨rfl,Below.on HG.out hC⟩

end Go.Proofs.YtljmlacnfnmjbaaGreat
namespace Go.Proofs.YtljmlacnfnmjbaaGreat
open Go.RowKit
set_option linter.unusedVariables false
set_option linter.unusedSimpArgs false

theorem all_takeS {l : List (Pg × Tg)} {p : Pg × Tg → Bool} {k : Nat} (hk : k < l.length) (h : (l.take k).all p = true) (hx : p l[k] = true) : (l.take (k + 1)).all p = true := by
 rw [List.take_succ_eq_append_getElem hk,List.all_append,h]; simp [hx]
theorem all_atF {l : List (Pg × Tg)} {p : Pg × Tg → Bool} {k : Nat} (hk : k < l.length) (hx : p l[k] = false) : l.all p = false := by
 rw [List.all_eq_false]; exact ⟨_,List.getElem_mem hk,by simp [hx]⟩

set_option maxRecDepth 100000 in
set_option maxHeartbeats 4000000 in
theorem rcolumns_any {l : List (Pg × Tg)} {Q : Nat → Prop} {w : World} {a : Option Addr} {n c : Nat} (h : RowIs eG Q w (.slice a n c) l) :
  Calls Tryz.prog 72 #[.slice a n c] w fun en w' => en = .returned (.bool (l.all colP1)) ∧ Below w.heap.size w w' := by
 obtain ⟨l1,l2,l3⟩ := h.lens
 have HR : Hid (∀ w',Below w.heap.size w w' → RowIs eG Q w' (.slice a n c) l) := hid fun w' hb => h.keep (by decide) fun b _ hl => hb.block b hl
 clear h
 go_enter Tryz.func72,Tryz.ntmps72
 go_wp2
 go_loopw [3] (fun v3 wr => ∃ k : Nat,k ≤ n ∧ v3 = .int .i64 k ∧ Hid ((l.take k).all colP1 = true) ∧ Below w.heap.size w wr) (fun i _ => n - (intOf i).toNat)
 case atStart => exact ⟨0,Nat.zero_le _,rfl,hid (by simp),Below.refl _ _⟩
 case round =>
  obtain ⟨k,hk,rfl,HA,hB⟩ := hrel
  by_cases hlt : k < n
  ·obtain ⟨_,_,_,e',_,_,_,hx⟩ := HR.out wr hB
   cases e'
   obtain ⟨b,o,rfl,-,hxi⟩ := hx (by omega)
   obtain ⟨cs,hE,-,hcc⟩ := hxi k (by omega)
   obtain ⟨y,hy⟩ : ∃ y,l[k]'(by omega) = y := ⟨_,rfl⟩
   have HY : Hid (l[k]'(by omega) = y) := hid hy
   rw [hy] at hE
   obtain ⟨ya,yn,yc,rfl,hsl⟩ := hE
   have hyl := hsl.1
   simp only [exC] at hcc
   have e0 : wr.cell? ⟨b,o + k * 7,none⟩ = some (.int .i64 y.1.1) := hcc 0 (show 0 < 7 by decide)
   have e6 : wr.cell? ⟨b,o + k * 7 + 6,none⟩ = some (.slice ya yn yc) := hcc 6 (show 6 < 7 by decide)
   have g0 : (k : Int) < (n : Int) := by omega
   have hkl : k < l.length := by omega
   have HC : Hid (colP1 y = (decide (y.1.1 = 2) && decide (yn = 0))) := hid (by unfold colP1; rw [hyl])
   clear hcc hx hxi hsl hy hyl
   generalize y.1.1 = op at *
   by_cases h2 : op = 2
   ·subst h2
    by_cases hn0 : yn = 0
    ·subst hn0
     have HT : Hid (colP1 (l[k]'(by omega)) = true) := hid (by rw [HY.out,HC.out]; simp)
     clear HC
     go_wp2
     go_roundw
     case rel => exact ⟨k + 1,by omega,by simp,hid (all_takeS hkl HA.out HT.out),hB⟩
     case measure => simp only [intOf]; omega
    ·have g1 : (0 : Int) < (yn : Int) := by omega
     have HT : Hid (l.all colP1 = false) := hid (all_atF hkl (by rw [HY.out,HC.out]; simp [hn0]))
     clear HC
     go_wp2
     go_ret
     exact ⟨ret_bool HT.out.symm,hB⟩
   ·have g1 : (op == 2) = false := by simpa using h2
    have g2 : decide (op = 2) = false := by simpa using h2
    have HT : Hid (l.all colP1 = false) := hid (all_atF hkl (by rw [HY.out,HC.out]; simp [h2]))
    clear HC
    go_wp2
    go_ret
    exact ⟨ret_bool HT.out.symm,hB⟩
  ·obtain rfl : k = n := by omega
   have HT : Hid (l.all colP1 = true) := hid (by have := HA.out; rwa [← l1,List.take_length] at this)
   clear HR
   go_wp2
   go_ret
   exact ⟨ret_bool HT.out.symm,hB⟩

end Go.Proofs.YtljmlacnfnmjbaaGreat
namespace Go.Proofs.YtljmlacnfnmjbaaGreat
open Go.RowKit
set_option linter.unusedVariables false
set_option linter.unusedSimpArgs false

theorem erL_takeS {l : List (Pg × Tg)} {f : Pg × Tg → Int} {k : Nat} (hk : k < l.length) (h : erL ((l.take k).map f) = 0) (hx : f l[k] = 0) : erL ((l.take (k + 1)).map f) = 0 := by
 rw [List.take_succ_eq_append_getElem hk,List.map_append,erL_app,if_pos h]; simp [erL,hx]
theorem erL_atF {l : List (Pg × Tg)} {f : Pg × Tg → Int} {k : Nat} (hk : k < l.length) (h : erL ((l.take k).map f) = 0) (hx : f l[k] ≠ 0) : erL (l.map f) = f l[k] := by
 have e : l = l.take k ++ l[k] :: l.drop (k + 1) := by rw [← List.drop_eq_getElem_cons hk,List.take_append_drop]
 have : erL (l.map f) = erL ((l.take k ++ l[k] :: l.drop (k + 1)).map f) := by rw [← e]
 rw [this,List.map_append,erL_app,if_pos h,List.map_cons,erL,if_neg hx]

set_option maxRecDepth 100000 in
set_option maxHeartbeats 4000000 in
theorem rwhere_any {C : List It} {K : List Int} (hC : C.length ≤ 500) (hK5 : K.length ≤ 500) {l : List (Pg × Tg)} {Q : Nat → Prop} {w : World} {a : Option Addr} {n c : Nat} {ia : Option Addr} {im ic : Nat} {ka : Option Addr} {kn kc : Nat} (hI : RowIs eItem Q w (.slice ia im ic) C) (hK : RowIs eInt Q w (.slice ka kn kc) K) (h : RowIs eG Q w (.slice a n c) l) :
  Calls Tryz.prog 74 #[.slice ia im ic,.slice ka kn kc,.slice a n c] w fun en w' => en = .returned (.int .i64 (whP (pairP C K) l)) ∧ Below w.heap.size w w' := by
 obtain ⟨l1,l2,l3⟩ := h.lens
 have HR : Hid (∀ w',Below w.heap.size w w' → RowIs eG Q w' (.slice a n c) l) := hid fun w' hb => h.keep (by decide) fun b _ hl => hb.block b hl
 have HK : Hid (∀ (y : Pg × Tg) w' cs,Below w.heap.size w w' → eG.E Q w' y cs → _) := hid fun y w' cs hb hE => rkind_any hC hK5 y Q w' cs ia im ic ka kn kc (hI.keep (by decide) fun b _ hl => hb.block b hl) (hK.keep (by decide) fun b _ hl => hb.block b hl) hE
 have HW : Hid (whP (pairP C K) l = erL (l.map fun x => fitsP (pairP C K) x 3)) := hid rfl
 generalize whP (pairP C K) l = R at *
 generalize pairP C K = S at *
 clear h hI hK
 go_enter Tryz.func74,Tryz.ntmps74
 go_wp2
 go_loopw [7] (fun v3 wr => ∃ k : Nat,k ≤ n ∧ v3 = .int .i64 k ∧ Hid (erL ((l.take k).map fun x => fitsP S x 3) = 0) ∧ Below w.heap.size w wr) (fun i _ => n - (intOf i).toNat)
 case atStart => exact ⟨0,Nat.zero_le _,rfl,hid rfl,Below.refl _ _⟩
 case round =>
  obtain ⟨k,hk,rfl,HA,hB⟩ := hrel
  by_cases hlt : k < n
  ·obtain ⟨_,_,_,e',_,_,_,hx⟩ := HR.out wr hB
   cases e'
   obtain ⟨b,o,rfl,-,hxi⟩ := hx (by omega)
   obtain ⟨cs,hE,-,hcc⟩ := hxi k (by omega)
   obtain ⟨y,hy⟩ : ∃ y,l[k]'(by omega) = y := ⟨_,rfl⟩
   have HY : Hid (l[k]'(by omega) = y) := hid hy
   rw [hy] at hE
   have HKy := HK.out y wr cs hB hE
   obtain ⟨ya,yn,yc,rfl,hsl⟩ := hE
   simp only [exC] at hcc HKy
   have e0 : wr.cell? ⟨b,o + k * 7,none⟩ = some (.int .i64 y.1.1) := hcc 0 (show 0 < 7 by decide)
   have e1 : wr.cell? ⟨b,o + k * 7 + 1,none⟩ = some (.int .i64 y.1.2.1) := hcc 1 (show 1 < 7 by decide)
   have e2 : wr.cell? ⟨b,o + k * 7 + 2,none⟩ = some (.int .i64 y.1.2.2.1) := hcc 2 (show 2 < 7 by decide)
   have e3 : wr.cell? ⟨b,o + k * 7 + 3,none⟩ = some (.string y.1.2.2.2.1) := hcc 3 (show 3 < 7 by decide)
   have e4 : wr.cell? ⟨b,o + k * 7 + 4,none⟩ = some (.string y.1.2.2.2.2.1) := hcc 4 (show 4 < 7 by decide)
   have e5 : wr.cell? ⟨b,o + k * 7 + 5,none⟩ = some (.string y.1.2.2.2.2.2) := hcc 5 (show 5 < 7 by decide)
   have e6 : wr.cell? ⟨b,o + k * 7 + 6,none⟩ = some (.slice ya yn yc) := hcc 6 (show 6 < 7 by decide)
   have g0 : (k : Int) < (n : Int) := by omega
   have hkl : k < l.length := by omega
   have HF : Hid (fitsP S y 3 = if (kdT S y).2 = 0 ∧ (kdT S y).1 ≠ 3 then 11 else (kdT S y).2) := hid rfl
   replace HKy : Hid _ := hid HKy
   clear hcc hx hxi hsl hy
   generalize (kdT S y).1 = r1 at *
   generalize (kdT S y).2 = r2 at *
   go_wp2_with fail
   refine Calls.mono HKy.out ?_
   rintro e w4 ⟨rfl,hb4⟩
   have hB4 := Below.on hB hb4
   clear HKy e0 e1 e2 e3 e4 e5 e6 hb4
   by_cases h2 : r2 = 0
   ·subst h2
    by_cases h1 : r1 = 3
    ·subst h1
     have HT : Hid (fitsP S (l[k]'hkl) 3 = 0) := hid (by rw [HY.out,HF.out]; simp)
     clear HF
     go_wp2
     go_roundw
     case rel => exact ⟨k + 1,by omega,by simp,hid (erL_takeS hkl HA.out HT.out),hB4⟩
     case measure => simp only [intOf]; omega
    ·have q1 : decide (r1 = 3) = false := by simpa using h1
     have q2 : (r1 != 3) = true := by simpa using h1
     have HT : Hid (R = 11) := hid (by rw [HW.out,erL_atF hkl HA.out (by rw [HY.out,HF.out,if_pos ⟨rfl,h1⟩]; decide),HY.out,HF.out,if_pos ⟨rfl,h1⟩])
     clear HF
     go_wp2
     go_ret
     exact ⟨ret_int HT.out.symm,hB4⟩
   ·have q1 : decide (r2 = 0) = false := by simpa using h2
    have q2 : (r2 != 0) = true := by simpa using h2
    have HT : Hid (R = r2) := hid (by rw [HW.out,erL_atF hkl HA.out (by rw [HY.out,HF.out,if_neg (fun h => h2 h.1)]; exact h2),HY.out,HF.out,if_neg (fun h => h2 h.1)])
    clear HF
    go_wp2
    go_ret
    exact ⟨ret_int HT.out.symm,hB4⟩
  ·obtain rfl : k = n := by omega
   have HT : Hid (R = 0) := hid (by have := HA.out; rw [← l1,List.take_length] at this; rw [HW.out]; exact this)
   clear HR HK
   go_wp2
   go_ret
   exact ⟨ret_int HT.out.symm,hB⟩

end Go.Proofs.YtljmlacnfnmjbaaGreat
namespace Go.Proofs.YtljmlacnfnmjbaaGreat
open Go.RowKit
set_option linter.unusedVariables false

set_option maxRecDepth 100000 in
set_option maxHeartbeats 8000000 in
theorem rcols_any {Q : Nat → Prop} {w : World} {a a' : Option Addr} {n c n' c' : Nat} {nm : ByteArray} {cs : List Co} (h : RowIs eCol Q w (.slice a n c) cs) (hn : cs.length ≤ 50) :
  Calls Tryz.prog 73 #[.agg #[.string nm,.slice a n c,.slice a' n' c']] w fun e w' => ∃ v1 v2,e = .returned (.tuple #[v1,v2]) ∧ OwnR 66 3 w.heap.size w' v1 (cs.map fun x => itC (0,nm,x.1)) ∧ OwnR 3 1 w.heap.size w' v2 (cs.map fun x => [.int .i64 x.2.1]) ∧ Apart v1 v2 ∧ Below w.heap.size w w' := by
 have hl : n = cs.length := by obtain ⟨ao,n',c',hv,hl,_⟩ := h; cases hv; exact hl.symm
 subst hl
 have HK : Hid (∀ k (hk : k < cs.length),∃ b o x,cs[k] = x ∧ a = some ⟨b,o,none⟩ ∧ b < w.heap.size ∧ (w.cell? ⟨b,o + k * 3,none⟩ = some (.string x.1) ∧ w.cell? ⟨b,o + k * 3 + 1,none⟩ = some (.int .i64 x.2.1))) := hid fun k hk => by
  obtain ⟨ao,n',c',hv,hl,hn,hc,hx⟩ := h
  cases hv
  obtain ⟨b,o,ha,_,hi⟩ := hx (by omega)
  obtain ⟨xs,hcs,_,hc⟩ := hi k hk
  have hcs' : xs = [.string cs[k].1,.int .i64 cs[k].2.1,.string cs[k].2.2] := hcs
  subst hcs'
  have q0 := hc 0 (show 0 < 3 by decide)
  exact ⟨b,o,_,rfl,ha,World.block_lt_of_cell? _ _ q0,q0,hc 1 (show 1 < 3 by decide)⟩
 have bT : (w.alloc (.cells #[.string nm,.slice a cs.length c,.slice a' n' c'] 58)).cell? ⟨w.heap.size,0,none⟩ = some (.string nm) ∧ (w.alloc (.cells #[.string nm,.slice a cs.length c,.slice a' n' c'] 58)).cell? ⟨w.heap.size,1,none⟩ = some (.slice a cs.length c) := ⟨cell_new w _ _ _ 0,cell_new w _ _ _ 1⟩
 have hB0 := bal (Below.refl _ w) (.cells #[.string nm,.slice a cs.length c,.slice a' n' c'] 58)
 clear h
 go_enter Tryz.func73,Tryz.ntmps73
 go_wp2
 generalize hW : w.alloc (.cells #[.string nm,.slice a cs.length c,.slice a' n' c'] 58) = W at *
 have hWs : W.heap.size = w.heap.size + 1 := by rw [← hW]; simp
 clear hW
 go_loopw [4,5,6] (fun v u i wr => ∃ k : Nat,k ≤ cs.length ∧ i = .int .i64 k ∧ OwnR 66 3 W.heap.size wr v ((cs.take k).map fun x => itC (0,nm,x.1)) ∧ OwnR 3 1 W.heap.size wr u ((cs.take k).map fun x => [.int .i64 x.2.1]) ∧ Apart v u ∧ Below W.heap.size W wr) (fun _ _ i _ => cs.length - (intOf i).toNat)
 case atStart => exact ⟨0,Nat.zero_le _,rfl,OwnR.nil _ _ _ _,OwnR.nil _ _ _ _,fun b hb => by simp [Value.ownBlock] at hb,Below.refl _ _⟩
 case round =>
  obtain ⟨k,hk,rfl,ho1,ho2,hap,hb⟩ := hrel
  have c1 : wr.cell? ⟨w.heap.size,1,none⟩ = some (.slice a cs.length c) := cell_later hb bT.2
  have c0 : wr.cell? ⟨w.heap.size,0,none⟩ = some (.string nm) := cell_later hb bT.1
  by_cases hlt : k < cs.length
  ·obtain ⟨b,o,x,hx,rfl,hbl,q0,q1⟩ := HK.out k hlt
   have hbw : Below w.heap.size w wr := Below.on hB0 hb
   replace q0 := cell_later hbw q0
   replace q1 := cell_later hbw q1
   have HS : Hid (cs.take (k + 1) = cs.take k ++ [x]) := hid (by rw [List.take_succ_eq_append_getElem hlt,hx])
   have i0 : (0 : Int) ≤ (k : Int) := by omega
   have i1 : (k : Int) < (cs.length : Int) := by omega
   have hl1 : ((cs.take k).map fun x => itC (0,nm,x.1)).length ≤ 50 := by rw [List.length_map,List.length_take]; omega
   have hl2 : ((cs.take k).map fun x => [Value.int .i64 x.2.1]).length ≤ 50 := by rw [List.length_map,List.length_take]; omega
   have HO1 : Hid (∀ w',Below wr.heap.size wr w' → _) := hid fun w' hb' => ho1.later hb'
   have HO2 : Hid (∀ w',Below wr.heap.size wr w' → _) := hid fun w' hb' => ho2.later hb'
   have HZ : Hid (W.heap.size ≤ wr.heap.size) := hid hb.size
   obtain ⟨cn,ck,cr⟩ := x
   simp only at q0 q1
   clear HK hx
   go_upto_region 6 with fail
   have HKs : Hid (∀ w',Below W.heap.size W w' → w'.cell? ⟨w.heap.size,0,none⟩ = some (.string nm) ∧ w'.cell? ⟨w.heap.size,1,none⟩ = some (.slice (some ⟨b,o,none⟩) cs.length c) ∧ w'.cell? ⟨b,o + k * 3,none⟩ = some (.string cn) ∧ w'.cell? ⟨b,o + k * 3 + 1,none⟩ = some (.int .i64 ck)) := hid fun w' hb' => by
    have keepC : ∀ (p : Addr) v,p.block < W.heap.size → wr.cell? p = some v → w'.cell? p = some v := fun p v hp hc => (World.cell?_of_block ((hb'.block p.block hp).trans (hb.block p.block hp).symm)).trans hc
    exact ⟨keepC _ _ (by show w.heap.size < W.heap.size; omega) c0,keepC _ _ (by show w.heap.size < W.heap.size; omega) c1,keepC _ _ (by show b < W.heap.size; omega) q0,keepC _ _ (by show b < W.heap.size; omega) q1⟩
   have hbd : Below W.heap.size W wr.drew := hb.drew
   have ho1d : OwnR 66 3 W.heap.size wr.drew u4 ((cs.take k).map fun x => itC (0,nm,x.1)) := ho1.later (Below.refl _ wr).drew
   have ho2d : OwnR 3 1 W.heap.size wr.drew u5 ((cs.take k).map fun x => [.int .i64 x.2.1]) := ho2.later (Below.refl _ wr).drew
   have hblk1 := ho1.blk
   have hblk2 := ho2.blk
   have hds : wr.drew.heap.size = wr.heap.size := rfl
   obtain ⟨css1,E1⟩ : ∃ css1,Hid (((cs.take k).map fun x => itC (0,nm,x.1)) = css1) := ⟨_,hid rfl⟩
   obtain ⟨css2,E2⟩ : ∃ css2,Hid (((cs.take k).map fun x => [Value.int .i64 x.2.1]) = css2) := ⟨_,hid rfl⟩
   rw [E1.out] at ho1d hl1
   rw [E2.out] at ho2d hl2
   clear HO1 HO2 bT HZ ho1 ho2
   go_region_held3 (fun w' => w'.cell? ⟨w.heap.size,0,none⟩ = some (.string nm) ∧ w'.cell? ⟨w.heap.size,1,none⟩ = some (.slice (some ⟨b,o,none⟩) cs.length c) ∧ w'.cell? ⟨b,o + k * 3,none⟩ = some (.string cn) ∧ w'.cell? ⟨b,o + k * 3 + 1,none⟩ = some (.int .i64 ck)) (first | exact HKs.out _ finB | exact HKs.out _ hbI | exact HKs.out _ (bal hbI _) | exact HKs.out _ hbK | exact HKs.out _ (bal hbK _) | exact HKs.out _ hbd | exact HKs.out _ (bal hbd _) | exact HKs.out _ (bal (bal hbd _) _))
    ((first
      | (have hxI := hgI; clear hxI; refine step_guard (.tmp 26) (.tmp 33) 23 ?_ ?_; (exact rfl); refine step_appR (B := W.heap.size) (by rfl) (.tmp 26) (.tmp 33) (by rfl) Tryz.underlying23 Tryz.infoTInt rfl (by decide) (by decide) u5 css2 _ [.int .i64 ck] (by rfl) (by rfl) (by first | exact hoKI | exact hoKI.alloc _) rfl (one_int _) (by first | exact new1_at (by first | rfl | simp) | exact far_new hgI (new1_at (by first | rfl | simp)) (fun e => by have h9 := (hblk1 _ e).2; (try simp only [World.size_alloc] at h9); (try rw [hds] at h9); omega) | exact far_new hgI (past_new (new1_at (by first | rfl | simp))) (fun e => by have h9 := (hblk1 _ e).2; (try simp only [World.size_alloc] at h9); (try rw [hds] at h9); omega)) (by omega) (by first | exact hbI.size | exact (bal hbI _).size) ?_; intro vK wK hOK hgK hownK; have finB : Below W.heap.size W wK := (by first | exact below_grows hbI hbI.size hgK (fun k e => (hoKI.blk k e).1) | exact below_grows (bal hbI _) (bal hbI _).size hgK (fun k e => (hoKI.blk k e).1)); have finI := (by first | exact hOI.far hgK apI.symm | exact (hOI.alloc _).far hgK apI.symm : OwnR _ _ W.heap.size wK vI _); have finK := hOK; have finA : Apart vK vI := (by first | exact Apart.grew apI.symm hOI hownK | exact Apart.grew apI.symm (hOI.alloc _) hownK))
      | (have hxK := hgK; clear hxK; refine step_guard (.tmp 14) (.tmp 24) 22 ?_ ?_; (exact rfl); refine step_appR (B := W.heap.size) (by rfl) (.tmp 14) (.tmp 24) (by rfl) Tryz.underlying22 Tryz.infoTItem rfl (by decide) (by decide) u4 css1 _ [.int .i64 0,.string nm,.string cn] (by rfl) (by rfl) (by first | exact hoIK | exact hoIK.alloc _) rfl (one_item _ _ _) (by first | exact new3_at (by first | rfl | simp) | exact far_new hgK (new3_at (by first | rfl | simp)) (fun e => by have h9 := (hblk2 _ e).2; (try simp only [World.size_alloc] at h9); (try rw [hds] at h9); omega) | exact far_new hgK (past_new (new3_at (by first | rfl | simp))) (fun e => by have h9 := (hblk2 _ e).2; (try simp only [World.size_alloc] at h9); (try rw [hds] at h9); omega)) (by omega) (by first | exact hbK.size | exact (bal hbK _).size) ?_; intro vI wI hOI hgI hownI; have finB : Below W.heap.size W wI := (by first | exact below_grows hbK hbK.size hgI (fun k e => (hoIK.blk k e).1) | exact below_grows (bal hbK _) (bal hbK _).size hgI (fun k e => (hoIK.blk k e).1)); have finK := (by first | exact hOK.far hgI apK.symm | exact (hOK.alloc _).far hgI apK.symm : OwnR _ _ W.heap.size wI vK _); have finI := hOI; have finA : Apart vI vK := (by first | exact Apart.grew apK.symm hOK hownI | exact Apart.grew apK.symm (hOK.alloc _) hownI))
      | (refine step_guard (.tmp 14) (.tmp 24) 22 ?_ ?_; (exact rfl); refine step_appR (B := W.heap.size) (by rfl) (.tmp 14) (.tmp 24) (by rfl) Tryz.underlying22 Tryz.infoTItem rfl (by decide) (by decide) u4 css1 _ [.int .i64 0,.string nm,.string cn] (by rfl) (by rfl) (by first | exact ho1d.alloc _ | exact (ho1d.alloc _).alloc _) rfl (one_item _ _ _) (by first | exact new3_at (by first | rfl | simp) | exact past_new (new3_at (by first | rfl | simp))) (by omega) (by first | exact (bal hbd _).size | exact (bal (bal hbd _) _).size) ?_; intro vI wI hOI hgI hownI; have hbI : Below W.heap.size W wI := (by first | exact below_grows (bal hbd _) (bal hbd _).size hgI (fun k e => (hblk1 k e).1) | exact below_grows (bal (bal hbd _) _) (bal (bal hbd _) _).size hgI (fun k e => (hblk1 k e).1)); have hoKI : OwnR 3 1 W.heap.size wI u5 css2 := (by first | exact (ho2d.alloc _).far hgI hap | exact ((ho2d.alloc _).alloc _).far hgI hap); have apI : Apart vI u5 := (by first | exact Apart.grew hap (ho2d.alloc _) hownI | exact Apart.grew hap ((ho2d.alloc _).alloc _) hownI))
      | (refine step_guard (.tmp 26) (.tmp 33) 23 ?_ ?_; (exact rfl); refine step_appR (B := W.heap.size) (by rfl) (.tmp 26) (.tmp 33) (by rfl) Tryz.underlying23 Tryz.infoTInt rfl (by decide) (by decide) u5 css2 _ [.int .i64 ck] (by rfl) (by rfl) (by first | exact ho2d.alloc _ | exact (ho2d.alloc _).alloc _) rfl (one_int _) (by first | exact new1_at (by first | rfl | simp) | exact past_new (new1_at (by first | rfl | simp))) (by omega) (by first | exact (bal hbd _).size | exact (bal (bal hbd _) _).size) ?_; intro vK wK hOK hgK hownK; have hbK : Below W.heap.size W wK := (by first | exact below_grows (bal hbd _) (bal hbd _).size hgK (fun k e => (hblk2 k e).1) | exact below_grows (bal (bal hbd _) _) (bal (bal hbd _) _).size hgK (fun k e => (hblk2 k e).1)); have hoIK : OwnR 66 3 W.heap.size wK u4 css1 := (by first | exact (ho1d.alloc _).far hgK hap.symm | exact ((ho1d.alloc _).alloc _).far hgK hap.symm); have apK : Apart vK u4 := (by first | exact Apart.grew hap.symm (ho1d.alloc _) hownK | exact Apart.grew hap.symm ((ho1d.alloc _).alloc _) hownK))))
   all_goals
    have F1 : Hid _ := hid finI
    have F2 : Hid _ := hid finK
    have F3 : Hid _ := hid finA
    have F4 : Hid _ := hid finB
    go_wp2
    go_roundw
    case rel =>
     refine ⟨k + 1,by omega,by go_num,?_,?_,by first | exact F3.out | exact F3.out.symm,F4.out⟩
     ·rw [HS.out,List.map_append,E1.out]; exact F1.out
     ·rw [HS.out,List.map_append,E2.out]; exact F2.out
    case measure => simp only [intOf]; omega
  ·obtain rfl : k = cs.length := by omega
   rw [List.take_length] at ho1 ho2
   clear HK
   obtain ⟨x1,y1,z1,rfl⟩ := ho1.sl
   obtain ⟨x2,y2,z2,rfl⟩ := ho2.sl
   go_wp2
   go_ret2
   exact ⟨_,_,rfl,ho1.base (by omega),ho2.base (by omega),hap,Below.on hB0 hb⟩

end Go.Proofs.YtljmlacnfnmjbaaGreat
