import Derived.Test.YtljmlacnfnmjbaaGreatTmbd
namespace Go.Proofs.YtljmlacnfnmjbaaGreat
open Go.RowKit
set_option linter.unusedVariables false
set_option linter.unusedSimpArgs false

set_option maxRecDepth 100000 in
set_option maxHeartbeats 4000000 in
theorem check_5 {T : List Tbl} {m : Sq} (hB : SqB m) {w : World} {ta : Option Addr} {tn tc : Nat} {vb : Option Addr} {vm vd : Nat} (hT : IsT w T ta tn tc) {s : Sv} (hm : IsQ w m s) (hk : m.kind = 5) :
  Calls Tryz.prog 15 #[.agg #[.slice ta tn tc,.slice vb vm vd],stV s] w fun en w' => en = .returned (.int .i64 (if formP m s.inn.2.1 then insP T m else 1)) ∧ Below w.heap.size w w' := by
 have hw := bal (bal (Below.refl w.heap.size w) (.cells #[.slice ta tn tc,.slice vb vm vd] 38)) (svO s)
 have bs := (Bk.new w (.cells #[.slice ta tn tc,.slice vb vm vd] 38)).later (bal (Below.refl _ _) (svO s))
 have bq := Bk.new (w.alloc (.cells #[.slice ta tn tc,.slice vb vm vd] 38)) (svO s)
 rw [World.size_alloc] at bq
 generalize hW : (w.alloc (.cells #[.slice ta tn tc,.slice vb vm vd] 38)).alloc (svO s) = W at hw bs bq
 replace hT := hT.later hw
 replace hm := hm.later hw
 have y0 := bs.cell 0
 have y1 := bs.cell 1
 have z0 := bq.cell 0
 have z1 := bq.cell 1
 have z2 := bq.cell 2
 have z3 := bq.cell 3
 have z4 := bq.cell 4
 have z5 := bq.cell 5
 have z6 := bq.cell 6
 have z7 := bq.cell 7
 have z8 := bq.cell 8
 have z9 := bq.cell 9
 have z10 := bq.cell 10
 have z11 := bq.cell 11
 have z12 := bq.cell 12
 simp only [List.getElem?_toArray,List.getElem?_cons_zero,List.getElem?_cons_succ] at y0 y1 z0 z1 z2 z3 z4 z5 z6 z7 z8 z9 z10 z11 z12
 have HFo : Hid _ := hid (formed_5 hB hm hk)
 have HM : Hid (formP m s.inn.2.1 = true → ∀ w',Below W.heap.size W w' → _) := hid fun hfm w' hb => by exact (mayInsert_any hB (hT.later hb) (hm.later hb) : Calls Tryz.prog 29 #[.agg #[.slice ta tn tc,.slice vb vm vd],stV s] w' _)
 obtain ⟨R,hR⟩ : ∃ R,(if formP m s.inn.2.1 then insP T m else 1) = R := ⟨_,rfl⟩
 rw [hR]
 have k0 : s.k = 5 := by rw [hm.k,hk]
 rw [k0] at z0
 generalize formP m s.inn.2.1 = B at *
 clear hT bs bq hB hk 
 obtain ⟨sk,stb,snm,⟨co0,co1,co2⟩,⟨ta0,ta1,ta2⟩,⟨va0,va1,va2⟩,⟨it0,it1,it2⟩,sjn,⟨on0,on1,on2⟩,⟨wh0,wh1,wh2⟩,⟨od0,od1,od2⟩,sds,⟨in0,in1,in2⟩⟩ := s
 dsimp only [stV,svO] at *
 subst k0
 clear hm
 cases B with
 | false =>
  have hR2 : (1 : Int) = R := hR
  subst hR2
  clear HM hR
  go_enter Tryz.func15,Tryz.ntmps15
  go_upto_region 1 with fail
  go_wp2_with fail
  refine Calls.mono HFo.out ?_
  rintro e w4 ⟨rfl,hb4⟩
  clear HFo
  go_wp2
  go_ret
  exact ⟨rfl,Below.on hw hb4⟩
 | true =>
  have hR2 : insP T m = R := hR
  clear hR
  go_enter Tryz.func15,Tryz.ntmps15
  go_upto_region 1 with fail
  go_wp2_with fail
  refine Calls.mono HFo.out ?_
  rintro e w4 ⟨rfl,hb4⟩
  have HM2 := HM.out (by first | rfl | trivial) w4 hb4
  rw [hR2] at HM2
  replace HM2 : Hid _ := hid HM2
  replace y0 := cell_later hb4 y0
  replace y1 := cell_later hb4 y1
  replace z0 := cell_later hb4 z0
  replace z1 := cell_later hb4 z1
  replace z2 := cell_later hb4 z2
  replace z3 := cell_later hb4 z3
  replace z4 := cell_later hb4 z4
  replace z5 := cell_later hb4 z5
  replace z6 := cell_later hb4 z6
  replace z7 := cell_later hb4 z7
  replace z8 := cell_later hb4 z8
  replace z9 := cell_later hb4 z9
  replace z10 := cell_later hb4 z10
  replace z11 := cell_later hb4 z11
  replace z12 := cell_later hb4 z12
  have hB4 := Below.on hw hb4
  clear HFo HM hR2 hW hb4 hw
  generalize w.heap.size + 1 = q at *
  go_wp2_with fail
  refine Calls.mono HM2.out ?_
  rintro e w5 ⟨rfl,hb5⟩
  clear HM2 y0 y1 z0 z1 z2 z3 z4 z5 z6 z7 z8 z9 z10 z11 z12
  go_wp2
  go_ret
  exact ⟨rfl,Below.on hB4 hb5⟩
set_option maxRecDepth 100000 in
set_option maxHeartbeats 4000000 in
theorem check_8 {T : List Tbl} {m : Sq} (hB : SqB m) {w : World} {ta : Option Addr} {tn tc : Nat} {vb : Option Addr} {vm vd : Nat} (hT : IsT w T ta tn tc) {s : Sv} (hm : IsQ w m s) (hk : m.kind = 8) :
  Calls Tryz.prog 15 #[.agg #[.slice ta tn tc,.slice vb vm vd],stV s] w fun en w' => en = .returned (.int .i64 (if formP m s.inn.2.1 then delP T m else 1)) ∧ Below w.heap.size w w' := by
 have hw := bal (bal (Below.refl w.heap.size w) (.cells #[.slice ta tn tc,.slice vb vm vd] 38)) (svO s)
 have bs := (Bk.new w (.cells #[.slice ta tn tc,.slice vb vm vd] 38)).later (bal (Below.refl _ _) (svO s))
 have bq := Bk.new (w.alloc (.cells #[.slice ta tn tc,.slice vb vm vd] 38)) (svO s)
 rw [World.size_alloc] at bq
 generalize hW : (w.alloc (.cells #[.slice ta tn tc,.slice vb vm vd] 38)).alloc (svO s) = W at hw bs bq
 replace hT := hT.later hw
 replace hm := hm.later hw
 have y0 := bs.cell 0
 have y1 := bs.cell 1
 have z0 := bq.cell 0
 have z1 := bq.cell 1
 have z2 := bq.cell 2
 have z3 := bq.cell 3
 have z4 := bq.cell 4
 have z5 := bq.cell 5
 have z6 := bq.cell 6
 have z7 := bq.cell 7
 have z8 := bq.cell 8
 have z9 := bq.cell 9
 have z10 := bq.cell 10
 have z11 := bq.cell 11
 have z12 := bq.cell 12
 simp only [List.getElem?_toArray,List.getElem?_cons_zero,List.getElem?_cons_succ] at y0 y1 z0 z1 z2 z3 z4 z5 z6 z7 z8 z9 z10 z11 z12
 have HFo : Hid _ := hid (formed_8 hB hm hk)
 have HM : Hid (formP m s.inn.2.1 = true → ∀ w',Below W.heap.size W w' → _) := hid fun hfm w' hb => by exact (mayDelete_any hB (hT.later hb) (hm.later hb) : Calls Tryz.prog 32 #[.agg #[.slice ta tn tc,.slice vb vm vd],stV s] w' _)
 obtain ⟨R,hR⟩ : ∃ R,(if formP m s.inn.2.1 then delP T m else 1) = R := ⟨_,rfl⟩
 rw [hR]
 have k0 : s.k = 8 := by rw [hm.k,hk]
 rw [k0] at z0
 generalize formP m s.inn.2.1 = B at *
 clear hT bs bq hB hk 
 obtain ⟨sk,stb,snm,⟨co0,co1,co2⟩,⟨ta0,ta1,ta2⟩,⟨va0,va1,va2⟩,⟨it0,it1,it2⟩,sjn,⟨on0,on1,on2⟩,⟨wh0,wh1,wh2⟩,⟨od0,od1,od2⟩,sds,⟨in0,in1,in2⟩⟩ := s
 dsimp only [stV,svO] at *
 subst k0
 clear hm
 cases B with
 | false =>
  have hR2 : (1 : Int) = R := hR
  subst hR2
  clear HM hR
  go_enter Tryz.func15,Tryz.ntmps15
  go_upto_region 1 with fail
  go_wp2_with fail
  refine Calls.mono HFo.out ?_
  rintro e w4 ⟨rfl,hb4⟩
  clear HFo
  go_wp2
  go_ret
  exact ⟨rfl,Below.on hw hb4⟩
 | true =>
  have hR2 : delP T m = R := hR
  clear hR
  go_enter Tryz.func15,Tryz.ntmps15
  go_upto_region 1 with fail
  go_wp2_with fail
  refine Calls.mono HFo.out ?_
  rintro e w4 ⟨rfl,hb4⟩
  have HM2 := HM.out (by first | rfl | trivial) w4 hb4
  rw [hR2] at HM2
  replace HM2 : Hid _ := hid HM2
  replace y0 := cell_later hb4 y0
  replace y1 := cell_later hb4 y1
  replace z0 := cell_later hb4 z0
  replace z1 := cell_later hb4 z1
  replace z2 := cell_later hb4 z2
  replace z3 := cell_later hb4 z3
  replace z4 := cell_later hb4 z4
  replace z5 := cell_later hb4 z5
  replace z6 := cell_later hb4 z6
  replace z7 := cell_later hb4 z7
  replace z8 := cell_later hb4 z8
  replace z9 := cell_later hb4 z9
  replace z10 := cell_later hb4 z10
  replace z11 := cell_later hb4 z11
  replace z12 := cell_later hb4 z12
  have hB4 := Below.on hw hb4
  clear HFo HM hR2 hW hb4 hw
  generalize w.heap.size + 1 = q at *
  go_wp2_with fail
  refine Calls.mono HM2.out ?_
  rintro e w5 ⟨rfl,hb5⟩
  clear HM2 y0 y1 z0 z1 z2 z3 z4 z5 z6 z7 z8 z9 z10 z11 z12
  go_wp2
  go_ret
  exact ⟨rfl,Below.on hB4 hb5⟩
set_option maxRecDepth 100000 in
set_option maxHeartbeats 4000000 in
theorem check_13 {T : List Tbl} {m : Sq} (hB : SqB m) {w : World} {ta : Option Addr} {tn tc : Nat} (hT : IsT w T ta tn tc) {s : Sv} (hm : IsQ w m s) (hk : m.kind = 13) :
  Calls Tryz.prog 15 #[.agg #[.slice ta tn tc,.slice none 0 0],stV s] w fun en w' => en = .returned (.int .i64 (if formP m s.inn.2.1 then (22 : Int) else 1)) ∧ Below w.heap.size w w' := by
 have hw := bal (bal (Below.refl w.heap.size w) (.cells #[.slice ta tn tc,.slice none 0 0] 38)) (svO s)
 have bs := (Bk.new w (.cells #[.slice ta tn tc,.slice none 0 0] 38)).later (bal (Below.refl _ _) (svO s))
 have bq := Bk.new (w.alloc (.cells #[.slice ta tn tc,.slice none 0 0] 38)) (svO s)
 rw [World.size_alloc] at bq
 generalize hW : (w.alloc (.cells #[.slice ta tn tc,.slice none 0 0] 38)).alloc (svO s) = W at hw bs bq
 replace hT := hT.later hw
 replace hm := hm.later hw
 have y0 := bs.cell 0
 have y1 := bs.cell 1
 have z0 := bq.cell 0
 have z1 := bq.cell 1
 have z2 := bq.cell 2
 have z3 := bq.cell 3
 have z4 := bq.cell 4
 have z5 := bq.cell 5
 have z6 := bq.cell 6
 have z7 := bq.cell 7
 have z8 := bq.cell 8
 have z9 := bq.cell 9
 have z10 := bq.cell 10
 have z11 := bq.cell 11
 have z12 := bq.cell 12
 simp only [List.getElem?_toArray,List.getElem?_cons_zero,List.getElem?_cons_succ] at y0 y1 z0 z1 z2 z3 z4 z5 z6 z7 z8 z9 z10 z11 z12
 have HFo : Hid _ := hid (formed_13 hB hm hk)
 have HM : Hid (formP m s.inn.2.1 = true → ∀ w',Below W.heap.size W w' → _) := hid fun hfm w' hb => by exact (mayCall_none hB (hT.later hb) (hm.later hb) : Calls Tryz.prog 33 #[.agg #[.slice ta tn tc,.slice none 0 0],stV s] w' _)
 obtain ⟨R,hR⟩ : ∃ R,(if formP m s.inn.2.1 then (22 : Int) else 1) = R := ⟨_,rfl⟩
 rw [hR]
 have k0 : s.k = 13 := by rw [hm.k,hk]
 rw [k0] at z0
 generalize formP m s.inn.2.1 = B at *
 clear hT bs bq hB hk 
 obtain ⟨sk,stb,snm,⟨co0,co1,co2⟩,⟨ta0,ta1,ta2⟩,⟨va0,va1,va2⟩,⟨it0,it1,it2⟩,sjn,⟨on0,on1,on2⟩,⟨wh0,wh1,wh2⟩,⟨od0,od1,od2⟩,sds,⟨in0,in1,in2⟩⟩ := s
 dsimp only [stV,svO] at *
 subst k0
 clear hm
 cases B with
 | false =>
  have hR2 : (1 : Int) = R := hR
  subst hR2
  clear HM hR
  go_enter Tryz.func15,Tryz.ntmps15
  go_upto_region 1 with fail
  go_wp2_with fail
  refine Calls.mono HFo.out ?_
  rintro e w4 ⟨rfl,hb4⟩
  clear HFo
  go_wp2
  go_ret
  exact ⟨rfl,Below.on hw hb4⟩
 | true =>
  have hR2 : (22 : Int) = R := hR
  clear hR
  go_enter Tryz.func15,Tryz.ntmps15
  go_upto_region 1 with fail
  go_wp2_with fail
  refine Calls.mono HFo.out ?_
  rintro e w4 ⟨rfl,hb4⟩
  have HM2 := HM.out (by first | rfl | trivial) w4 hb4
  rw [hR2] at HM2
  replace HM2 : Hid _ := hid HM2
  replace y0 := cell_later hb4 y0
  replace y1 := cell_later hb4 y1
  replace z0 := cell_later hb4 z0
  replace z1 := cell_later hb4 z1
  replace z2 := cell_later hb4 z2
  replace z3 := cell_later hb4 z3
  replace z4 := cell_later hb4 z4
  replace z5 := cell_later hb4 z5
  replace z6 := cell_later hb4 z6
  replace z7 := cell_later hb4 z7
  replace z8 := cell_later hb4 z8
  replace z9 := cell_later hb4 z9
  replace z10 := cell_later hb4 z10
  replace z11 := cell_later hb4 z11
  replace z12 := cell_later hb4 z12
  have hB4 := Below.on hw hb4
  clear HFo HM hR2 hW hb4 hw
  generalize w.heap.size + 1 = q at *
  go_wp2_with fail
  refine Calls.mono HM2.out ?_
  rintro e w5 ⟨rfl,hb5⟩
  clear HM2 y0 y1 z0 z1 z2 z3 z4 z5 z6 z7 z8 z9 z10 z11 z12
  go_wp2
  go_ret
  exact ⟨rfl,Below.on hB4 hb5⟩
set_option maxRecDepth 100000 in
set_option maxHeartbeats 4000000 in
theorem check_1 {T : List Tbl} {m : Sq} (hB : SqB m) {w : World} {ta : Option Addr} {tn tc : Nat} {vb : Option Addr} {vm vd : Nat} (hT : IsT w T ta tn tc) {s : Sv} (hm : IsQ w m s) (hk : m.kind = 1) :
  Calls Tryz.prog 15 #[.agg #[.slice ta tn tc,.slice vb vm vd],stV s] w fun en w' => en = .returned (.int .i64 (0)) ∧ Below w.heap.size w w' := by
 have hw := bal (bal (Below.refl w.heap.size w) (.cells #[.slice ta tn tc,.slice vb vm vd] 38)) (svO s)
 have bs := (Bk.new w (.cells #[.slice ta tn tc,.slice vb vm vd] 38)).later (bal (Below.refl _ _) (svO s))
 have bq := Bk.new (w.alloc (.cells #[.slice ta tn tc,.slice vb vm vd] 38)) (svO s)
 rw [World.size_alloc] at bq
 generalize hW : (w.alloc (.cells #[.slice ta tn tc,.slice vb vm vd] 38)).alloc (svO s) = W at hw bs bq
 replace hT := hT.later hw
 replace hm := hm.later hw
 have y0 := bs.cell 0
 have y1 := bs.cell 1
 have z0 := bq.cell 0
 have z1 := bq.cell 1
 have z2 := bq.cell 2
 have z3 := bq.cell 3
 have z4 := bq.cell 4
 have z5 := bq.cell 5
 have z6 := bq.cell 6
 have z7 := bq.cell 7
 have z8 := bq.cell 8
 have z9 := bq.cell 9
 have z10 := bq.cell 10
 have z11 := bq.cell 11
 have z12 := bq.cell 12
 simp only [List.getElem?_toArray,List.getElem?_cons_zero,List.getElem?_cons_succ] at y0 y1 z0 z1 z2 z3 z4 z5 z6 z7 z8 z9 z10 z11 z12
 have HFo : Hid _ := hid (formed_1 hB hm hk)
 have hf1 : formP m s.inn.2.1 = true := by unfold formP; simp [hk]
 rw [hf1] at HFo
 have k0 : s.k = 1 := by rw [hm.k,hk]
 rw [k0] at z0
 clear hT bs bq hB hk hf1
 obtain ⟨sk,stb,snm,⟨co0,co1,co2⟩,⟨ta0,ta1,ta2⟩,⟨va0,va1,va2⟩,⟨it0,it1,it2⟩,sjn,⟨on0,on1,on2⟩,⟨wh0,wh1,wh2⟩,⟨od0,od1,od2⟩,sds,⟨in0,in1,in2⟩⟩ := s
 dsimp only [stV,svO] at *
 subst k0
 clear hm
 go_enter Tryz.func15,Tryz.ntmps15
 go_upto_region 1 with fail
 go_wp2_with fail
 refine Calls.mono HFo.out ?_
 rintro e w4 ⟨rfl,hb4⟩
 replace z0 := cell_later hb4 z0
 have hB4 := Below.on hw hb4
 clear HFo hW hb4 hw z1 z2 z3 z4 z5 z6 z7 z8 z9 z10 z11 z12 y0 y1
 generalize w.heap.size + 1 = q at *
 go_wp2
 go_ret
 exact ⟨rfl,hB4⟩
set_option maxRecDepth 100000 in
set_option maxHeartbeats 4000000 in
theorem check_2 {T : List Tbl} {m : Sq} (hB : SqB m) {w : World} {ta : Option Addr} {tn tc : Nat} {vb : Option Addr} {vm vd : Nat} (hT : IsT w T ta tn tc) {s : Sv} (hm : IsQ w m s) (hk : m.kind = 2) :
  Calls Tryz.prog 15 #[.agg #[.slice ta tn tc,.slice vb vm vd],stV s] w fun en w' => en = .returned (.int .i64 (0)) ∧ Below w.heap.size w w' := by
 have hw := bal (bal (Below.refl w.heap.size w) (.cells #[.slice ta tn tc,.slice vb vm vd] 38)) (svO s)
 have bs := (Bk.new w (.cells #[.slice ta tn tc,.slice vb vm vd] 38)).later (bal (Below.refl _ _) (svO s))
 have bq := Bk.new (w.alloc (.cells #[.slice ta tn tc,.slice vb vm vd] 38)) (svO s)
 rw [World.size_alloc] at bq
 generalize hW : (w.alloc (.cells #[.slice ta tn tc,.slice vb vm vd] 38)).alloc (svO s) = W at hw bs bq
 replace hT := hT.later hw
 replace hm := hm.later hw
 have y0 := bs.cell 0
 have y1 := bs.cell 1
 have z0 := bq.cell 0
 have z1 := bq.cell 1
 have z2 := bq.cell 2
 have z3 := bq.cell 3
 have z4 := bq.cell 4
 have z5 := bq.cell 5
 have z6 := bq.cell 6
 have z7 := bq.cell 7
 have z8 := bq.cell 8
 have z9 := bq.cell 9
 have z10 := bq.cell 10
 have z11 := bq.cell 11
 have z12 := bq.cell 12
 simp only [List.getElem?_toArray,List.getElem?_cons_zero,List.getElem?_cons_succ] at y0 y1 z0 z1 z2 z3 z4 z5 z6 z7 z8 z9 z10 z11 z12
 have HFo : Hid _ := hid (formed_2 hB hm hk)
 have hf1 : formP m s.inn.2.1 = true := by unfold formP; simp [hk]
 rw [hf1] at HFo
 have k0 : s.k = 2 := by rw [hm.k,hk]
 rw [k0] at z0
 clear hT bs bq hB hk hf1
 obtain ⟨sk,stb,snm,⟨co0,co1,co2⟩,⟨ta0,ta1,ta2⟩,⟨va0,va1,va2⟩,⟨it0,it1,it2⟩,sjn,⟨on0,on1,on2⟩,⟨wh0,wh1,wh2⟩,⟨od0,od1,od2⟩,sds,⟨in0,in1,in2⟩⟩ := s
 dsimp only [stV,svO] at *
 subst k0
 clear hm
 go_enter Tryz.func15,Tryz.ntmps15
 go_upto_region 1 with fail
 go_wp2_with fail
 refine Calls.mono HFo.out ?_
 rintro e w4 ⟨rfl,hb4⟩
 replace z0 := cell_later hb4 z0
 have hB4 := Below.on hw hb4
 clear HFo hW hb4 hw z1 z2 z3 z4 z5 z6 z7 z8 z9 z10 z11 z12 y0 y1
 generalize w.heap.size + 1 = q at *
 go_wp2
 go_ret
 exact ⟨rfl,hB4⟩
set_option maxRecDepth 100000 in
set_option maxHeartbeats 4000000 in
theorem check_9 {T : List Tbl} {m : Sq} (hB : SqB m) {w : World} {ta : Option Addr} {tn tc : Nat} {vb : Option Addr} {vm vd : Nat} (hT : IsT w T ta tn tc) {s : Sv} (hm : IsQ w m s) (hk : m.kind = 9) :
  Calls Tryz.prog 15 #[.agg #[.slice ta tn tc,.slice vb vm vd],stV s] w fun en w' => en = .returned (.int .i64 (0)) ∧ Below w.heap.size w w' := by
 have hw := bal (bal (Below.refl w.heap.size w) (.cells #[.slice ta tn tc,.slice vb vm vd] 38)) (svO s)
 have bs := (Bk.new w (.cells #[.slice ta tn tc,.slice vb vm vd] 38)).later (bal (Below.refl _ _) (svO s))
 have bq := Bk.new (w.alloc (.cells #[.slice ta tn tc,.slice vb vm vd] 38)) (svO s)
 rw [World.size_alloc] at bq
 generalize hW : (w.alloc (.cells #[.slice ta tn tc,.slice vb vm vd] 38)).alloc (svO s) = W at hw bs bq
 replace hT := hT.later hw
 replace hm := hm.later hw
 have y0 := bs.cell 0
 have y1 := bs.cell 1
 have z0 := bq.cell 0
 have z1 := bq.cell 1
 have z2 := bq.cell 2
 have z3 := bq.cell 3
 have z4 := bq.cell 4
 have z5 := bq.cell 5
 have z6 := bq.cell 6
 have z7 := bq.cell 7
 have z8 := bq.cell 8
 have z9 := bq.cell 9
 have z10 := bq.cell 10
 have z11 := bq.cell 11
 have z12 := bq.cell 12
 simp only [List.getElem?_toArray,List.getElem?_cons_zero,List.getElem?_cons_succ] at y0 y1 z0 z1 z2 z3 z4 z5 z6 z7 z8 z9 z10 z11 z12
 have HFo : Hid _ := hid (formed_9 hB hm hk)
 have hf1 : formP m s.inn.2.1 = true := by unfold formP; simp [hk]
 rw [hf1] at HFo
 have k0 : s.k = 9 := by rw [hm.k,hk]
 rw [k0] at z0
 clear hT bs bq hB hk hf1
 obtain ⟨sk,stb,snm,⟨co0,co1,co2⟩,⟨ta0,ta1,ta2⟩,⟨va0,va1,va2⟩,⟨it0,it1,it2⟩,sjn,⟨on0,on1,on2⟩,⟨wh0,wh1,wh2⟩,⟨od0,od1,od2⟩,sds,⟨in0,in1,in2⟩⟩ := s
 dsimp only [stV,svO] at *
 subst k0
 clear hm
 go_enter Tryz.func15,Tryz.ntmps15
 go_upto_region 1 with fail
 go_wp2_with fail
 refine Calls.mono HFo.out ?_
 rintro e w4 ⟨rfl,hb4⟩
 replace z0 := cell_later hb4 z0
 have hB4 := Below.on hw hb4
 clear HFo hW hb4 hw z1 z2 z3 z4 z5 z6 z7 z8 z9 z10 z11 z12 y0 y1
 generalize w.heap.size + 1 = q at *
 go_wp2
 go_ret
 exact ⟨rfl,hB4⟩
set_option maxRecDepth 100000 in
set_option maxHeartbeats 4000000 in
theorem check_10 {T : List Tbl} {m : Sq} (hB : SqB m) {w : World} {ta : Option Addr} {tn tc : Nat} {vb : Option Addr} {vm vd : Nat} (hT : IsT w T ta tn tc) {s : Sv} (hm : IsQ w m s) (hk : m.kind = 10) :
  Calls Tryz.prog 15 #[.agg #[.slice ta tn tc,.slice vb vm vd],stV s] w fun en w' => en = .returned (.int .i64 (0)) ∧ Below w.heap.size w w' := by
 have hw := bal (bal (Below.refl w.heap.size w) (.cells #[.slice ta tn tc,.slice vb vm vd] 38)) (svO s)
 have bs := (Bk.new w (.cells #[.slice ta tn tc,.slice vb vm vd] 38)).later (bal (Below.refl _ _) (svO s))
 have bq := Bk.new (w.alloc (.cells #[.slice ta tn tc,.slice vb vm vd] 38)) (svO s)
 rw [World.size_alloc] at bq
 generalize hW : (w.alloc (.cells #[.slice ta tn tc,.slice vb vm vd] 38)).alloc (svO s) = W at hw bs bq
 replace hT := hT.later hw
 replace hm := hm.later hw
 have y0 := bs.cell 0
 have y1 := bs.cell 1
 have z0 := bq.cell 0
 have z1 := bq.cell 1
 have z2 := bq.cell 2
 have z3 := bq.cell 3
 have z4 := bq.cell 4
 have z5 := bq.cell 5
 have z6 := bq.cell 6
 have z7 := bq.cell 7
 have z8 := bq.cell 8
 have z9 := bq.cell 9
 have z10 := bq.cell 10
 have z11 := bq.cell 11
 have z12 := bq.cell 12
 simp only [List.getElem?_toArray,List.getElem?_cons_zero,List.getElem?_cons_succ] at y0 y1 z0 z1 z2 z3 z4 z5 z6 z7 z8 z9 z10 z11 z12
 have HFo : Hid _ := hid (formed_10 hB hm hk)
 have hf1 : formP m s.inn.2.1 = true := by unfold formP; simp [hk]
 rw [hf1] at HFo
 have k0 : s.k = 10 := by rw [hm.k,hk]
 rw [k0] at z0
 clear hT bs bq hB hk hf1
 obtain ⟨sk,stb,snm,⟨co0,co1,co2⟩,⟨ta0,ta1,ta2⟩,⟨va0,va1,va2⟩,⟨it0,it1,it2⟩,sjn,⟨on0,on1,on2⟩,⟨wh0,wh1,wh2⟩,⟨od0,od1,od2⟩,sds,⟨in0,in1,in2⟩⟩ := s
 dsimp only [stV,svO] at *
 subst k0
 clear hm
 go_enter Tryz.func15,Tryz.ntmps15
 go_upto_region 1 with fail
 go_wp2_with fail
 refine Calls.mono HFo.out ?_
 rintro e w4 ⟨rfl,hb4⟩
 replace z0 := cell_later hb4 z0
 have hB4 := Below.on hw hb4
 clear HFo hW hb4 hw z1 z2 z3 z4 z5 z6 z7 z8 z9 z10 z11 z12 y0 y1
 generalize w.heap.size + 1 = q at *
 go_wp2
 go_ret
 exact ⟨rfl,hB4⟩
set_option maxRecDepth 100000 in
set_option maxHeartbeats 4000000 in
theorem check_11 {T : List Tbl} {m : Sq} (hB : SqB m) {w : World} {ta : Option Addr} {tn tc : Nat} {vb : Option Addr} {vm vd : Nat} (hT : IsT w T ta tn tc) {s : Sv} (hm : IsQ w m s) (hk : m.kind = 11) :
  Calls Tryz.prog 15 #[.agg #[.slice ta tn tc,.slice vb vm vd],stV s] w fun en w' => en = .returned (.int .i64 (0)) ∧ Below w.heap.size w w' := by
 have hw := bal (bal (Below.refl w.heap.size w) (.cells #[.slice ta tn tc,.slice vb vm vd] 38)) (svO s)
 have bs := (Bk.new w (.cells #[.slice ta tn tc,.slice vb vm vd] 38)).later (bal (Below.refl _ _) (svO s))
 have bq := Bk.new (w.alloc (.cells #[.slice ta tn tc,.slice vb vm vd] 38)) (svO s)
 rw [World.size_alloc] at bq
 generalize hW : (w.alloc (.cells #[.slice ta tn tc,.slice vb vm vd] 38)).alloc (svO s) = W at hw bs bq
 replace hT := hT.later hw
 replace hm := hm.later hw
 have y0 := bs.cell 0
 have y1 := bs.cell 1
 have z0 := bq.cell 0
 have z1 := bq.cell 1
 have z2 := bq.cell 2
 have z3 := bq.cell 3
 have z4 := bq.cell 4
 have z5 := bq.cell 5
 have z6 := bq.cell 6
 have z7 := bq.cell 7
 have z8 := bq.cell 8
 have z9 := bq.cell 9
 have z10 := bq.cell 10
 have z11 := bq.cell 11
 have z12 := bq.cell 12
 simp only [List.getElem?_toArray,List.getElem?_cons_zero,List.getElem?_cons_succ] at y0 y1 z0 z1 z2 z3 z4 z5 z6 z7 z8 z9 z10 z11 z12
 have HFo : Hid _ := hid (formed_11 hB hm hk)
 have hf1 : formP m s.inn.2.1 = true := by unfold formP; simp [hk]
 rw [hf1] at HFo
 have k0 : s.k = 11 := by rw [hm.k,hk]
 rw [k0] at z0
 clear hT bs bq hB hk hf1
 obtain ⟨sk,stb,snm,⟨co0,co1,co2⟩,⟨ta0,ta1,ta2⟩,⟨va0,va1,va2⟩,⟨it0,it1,it2⟩,sjn,⟨on0,on1,on2⟩,⟨wh0,wh1,wh2⟩,⟨od0,od1,od2⟩,sds,⟨in0,in1,in2⟩⟩ := s
 dsimp only [stV,svO] at *
 subst k0
 clear hm
 go_enter Tryz.func15,Tryz.ntmps15
 go_upto_region 1 with fail
 go_wp2_with fail
 refine Calls.mono HFo.out ?_
 rintro e w4 ⟨rfl,hb4⟩
 replace z0 := cell_later hb4 z0
 have hB4 := Below.on hw hb4
 clear HFo hW hb4 hw z1 z2 z3 z4 z5 z6 z7 z8 z9 z10 z11 z12 y0 y1
 generalize w.heap.size + 1 = q at *
 go_wp2
 go_ret
 exact ⟨rfl,hB4⟩
set_option maxRecDepth 100000 in
set_option maxHeartbeats 4000000 in
theorem check_12 {T : List Tbl} {m : Sq} (hB : SqB m) {w : World} {ta : Option Addr} {tn tc : Nat} {vb : Option Addr} {vm vd : Nat} (hT : IsT w T ta tn tc) {s : Sv} (hm : IsQ w m s) (hk : m.kind = 12) :
  Calls Tryz.prog 15 #[.agg #[.slice ta tn tc,.slice vb vm vd],stV s] w fun en w' => en = .returned (.int .i64 (0)) ∧ Below w.heap.size w w' := by
 have hw := bal (bal (Below.refl w.heap.size w) (.cells #[.slice ta tn tc,.slice vb vm vd] 38)) (svO s)
 have bs := (Bk.new w (.cells #[.slice ta tn tc,.slice vb vm vd] 38)).later (bal (Below.refl _ _) (svO s))
 have bq := Bk.new (w.alloc (.cells #[.slice ta tn tc,.slice vb vm vd] 38)) (svO s)
 rw [World.size_alloc] at bq
 generalize hW : (w.alloc (.cells #[.slice ta tn tc,.slice vb vm vd] 38)).alloc (svO s) = W at hw bs bq
 replace hT := hT.later hw
 replace hm := hm.later hw
 have y0 := bs.cell 0
 have y1 := bs.cell 1
 have z0 := bq.cell 0
 have z1 := bq.cell 1
 have z2 := bq.cell 2
 have z3 := bq.cell 3
 have z4 := bq.cell 4
 have z5 := bq.cell 5
 have z6 := bq.cell 6
 have z7 := bq.cell 7
 have z8 := bq.cell 8
 have z9 := bq.cell 9
 have z10 := bq.cell 10
 have z11 := bq.cell 11
 have z12 := bq.cell 12
 simp only [List.getElem?_toArray,List.getElem?_cons_zero,List.getElem?_cons_succ] at y0 y1 z0 z1 z2 z3 z4 z5 z6 z7 z8 z9 z10 z11 z12
 have HFo : Hid _ := hid (formed_12 hB hm hk)
 have hf1 : formP m s.inn.2.1 = true := by unfold formP; simp [hk]
 rw [hf1] at HFo
 have k0 : s.k = 12 := by rw [hm.k,hk]
 rw [k0] at z0
 clear hT bs bq hB hk hf1
 obtain ⟨sk,stb,snm,⟨co0,co1,co2⟩,⟨ta0,ta1,ta2⟩,⟨va0,va1,va2⟩,⟨it0,it1,it2⟩,sjn,⟨on0,on1,on2⟩,⟨wh0,wh1,wh2⟩,⟨od0,od1,od2⟩,sds,⟨in0,in1,in2⟩⟩ := s
 dsimp only [stV,svO] at *
 subst k0
 clear hm
 go_enter Tryz.func15,Tryz.ntmps15
 go_upto_region 1 with fail
 go_wp2_with fail
 refine Calls.mono HFo.out ?_
 rintro e w4 ⟨rfl,hb4⟩
 replace z0 := cell_later hb4 z0
 have hB4 := Below.on hw hb4
 clear HFo hW hb4 hw z1 z2 z3 z4 z5 z6 z7 z8 z9 z10 z11 z12 y0 y1
 generalize w.heap.size + 1 = q at *
 go_wp2
 go_ret
 exact ⟨rfl,hB4⟩

end Go.Proofs.YtljmlacnfnmjbaaGreat
