import Derived.Test.YtljmlacnfnmjbaaGreatTmbi
import Derived.Test.YtljmlacnfnmjbaaGreatTmbf
namespace Go.Proofs.YtljmlacnfnmjbaaGreat
open Go.RowKit
set_option linter.unusedVariables false
set_option linter.unusedSimpArgs false

set_option maxRecDepth 100000 in
set_option maxHeartbeats 4000000 in
theorem rview_none (name : ByteArray) (ta : Option Addr) (tn tc : Nat) (w : World) :
  Calls Tryz.prog 35 #[.agg #[.slice ta tn tc,.slice none 0 0],.string name] w fun e w' => e = .returned (.tuple #[.agg #[.string ⟨#[]⟩,.slice none 0 0,.int .i64 0,.string ⟨#[]⟩,.string ⟨#[]⟩,.slice none 0 0,.slice none 0 0,.slice none 0 0,.slice none 0 0,.string ⟨#[]⟩,.slice none 0 0,.slice none 0 0,.slice none 0 0,.bool false,.slice none 0 0],.bool false]) ∧ Below w.heap.size w w' := by
 have hw := bal (bal (Below.refl w.heap.size w) (.cells #[.slice ta tn tc,.slice none 0 0] 38)) (.cells #[.string ⟨#[]⟩,.slice none 0 0,.int .i64 0,.string ⟨#[]⟩,.string ⟨#[]⟩,.slice none 0 0,.slice none 0 0,.slice none 0 0,.slice none 0 0,.string ⟨#[]⟩,.slice none 0 0,.slice none 0 0,.slice none 0 0,.bool false,.slice none 0 0] 76)
 have bs := (Bk.new w (.cells #[.slice ta tn tc,.slice none 0 0] 38)).later (bal (Below.refl _ _) (.cells #[.string ⟨#[]⟩,.slice none 0 0,.int .i64 0,.string ⟨#[]⟩,.string ⟨#[]⟩,.slice none 0 0,.slice none 0 0,.slice none 0 0,.slice none 0 0,.string ⟨#[]⟩,.slice none 0 0,.slice none 0 0,.slice none 0 0,.bool false,.slice none 0 0] 76))
 have bx := Bk.new (w.alloc (.cells #[.slice ta tn tc,.slice none 0 0] 38)) (.cells #[.string ⟨#[]⟩,.slice none 0 0,.int .i64 0,.string ⟨#[]⟩,.string ⟨#[]⟩,.slice none 0 0,.slice none 0 0,.slice none 0 0,.slice none 0 0,.string ⟨#[]⟩,.slice none 0 0,.slice none 0 0,.slice none 0 0,.bool false,.slice none 0 0] 76)
 rw [World.size_alloc] at bx
 generalize hW : (w.alloc (.cells #[.slice ta tn tc,.slice none 0 0] 38)).alloc (.cells #[.string ⟨#[]⟩,.slice none 0 0,.int .i64 0,.string ⟨#[]⟩,.string ⟨#[]⟩,.slice none 0 0,.slice none 0 0,.slice none 0 0,.slice none 0 0,.string ⟨#[]⟩,.slice none 0 0,.slice none 0 0,.slice none 0 0,.bool false,.slice none 0 0] 76) = W at hw bs bx
 have d1 := bs.cell 1
 simp only [List.getElem?_toArray,List.getElem?_cons_zero,List.getElem?_cons_succ] at d1
 clear bs
 go_enter Tryz.func35,Tryz.ntmps35
 go_upto_region 1 with fail
 go_wp2
 clear hW
 obtain ⟨z,hz⟩ : ∃ z,w.heap.size + 1 = z := ⟨_,rfl⟩
 simp only [World.size_alloc,hz] at bx ⊢
 have hzw : w.heap.size < z := by omega
 go_loopw [6] (fun v wr => v = .int .i64 0 ∧ Below W.heap.size W wr) (fun i _ => 0)
 case atStart => exact ⟨rfl,Below.refl _ _⟩
 case round =>
  obtain ⟨rfl,hB⟩ := hrel
  have e1 := cell_later hB d1
  have bz := bx.later hB
  have z0 := bz.cell 0
  have f0 := bz.free 0
  have z1 := bz.cell 1
  have f1 := bz.free 1
  have z2 := bz.cell 2
  have f2 := bz.free 2
  have z3 := bz.cell 3
  have f3 := bz.free 3
  have z4 := bz.cell 4
  have f4 := bz.free 4
  have z5 := bz.cell 5
  have f5 := bz.free 5
  have z6 := bz.cell 6
  have f6 := bz.free 6
  have z7 := bz.cell 7
  have f7 := bz.free 7
  have z8 := bz.cell 8
  have f8 := bz.free 8
  have z9 := bz.cell 9
  have f9 := bz.free 9
  have z10 := bz.cell 10
  have f10 := bz.free 10
  have z11 := bz.cell 11
  have f11 := bz.free 11
  have z12 := bz.cell 12
  have f12 := bz.free 12
  have z13 := bz.cell 13
  have f13 := bz.free 13
  have z14 := bz.cell 14
  have f14 := bz.free 14
  simp only [List.getElem?_toArray,List.getElem?_cons_zero,List.getElem?_cons_succ] at z0 z1 z2 z3 z4 z5 z6 z7 z8 z9 z10 z11 z12 z13 z14
  clear bz bx d1
  go_wp2
  exact bodyPost_ret (v := .tuple #[.agg #[.string ⟨#[]⟩,.slice none 0 0,.int .i64 0,.string ⟨#[]⟩,.string ⟨#[]⟩,.slice none 0 0,.slice none 0 0,.slice none 0 0,.slice none 0 0,.string ⟨#[]⟩,.slice none 0 0,.slice none 0 0,.slice none 0 0,.bool false,.slice none 0 0],.bool false]) (by simp [results,Tryz.results35,go_sem,z0,z1,z2,z3,z4,z5,z6,z7,z8,z9,z10,z11,z12,z13,z14]) rfl ⟨rfl,((((((((((((((((Below.on hw hB).setCell (by show w.heap.size ≤ z; omega) _).setCell (by show w.heap.size ≤ z; omega) _).setCell (by show w.heap.size ≤ z; omega) _).setCell (by show w.heap.size ≤ z; omega) _).setCell (by show w.heap.size ≤ z; omega) _).setCell (by show w.heap.size ≤ z; omega) _).setCell (by show w.heap.size ≤ z; omega) _).setCell (by show w.heap.size ≤ z; omega) _).setCell (by show w.heap.size ≤ z; omega) _).setCell (by show w.heap.size ≤ z; omega) _).setCell (by show w.heap.size ≤ z; omega) _).setCell (by show w.heap.size ≤ z; omega) _).setCell (by show w.heap.size ≤ z; omega) _).setCell (by show w.heap.size ≤ z; omega) _).setCell (by show w.heap.size ≤ z; omega) _)⟩
set_option maxRecDepth 100000 in
set_option maxHeartbeats 4000000 in
theorem rcheck_1 {T : List Tbl} {m : Sq} (hB : SqB m) {w : World} {ta : Option Addr} {tn tc : Nat} {vb : Option Addr} {vm vd : Nat} (hT : IsT w T ta tn tc) {s : Sv} (hm : IsQ w m s) (hk : m.kind = 1) :
  Calls Tryz.prog 16 #[.agg #[.slice ta tn tc,.slice vb vm vd],stV s] w fun en w' => en = .returned (.int .i64 (0)) ∧ Below w.heap.size w w' := by
 have hw := bal (bal (Below.refl w.heap.size w) (.cells #[.slice ta tn tc,.slice vb vm vd] 38)) (svO s)
 have bs := (Bk.new w (.cells #[.slice ta tn tc,.slice vb vm vd] 38)).later (bal (Below.refl _ _) (svO s))
 have bq := Bk.new (w.alloc (.cells #[.slice ta tn tc,.slice vb vm vd] 38)) (svO s)
 rw [World.size_alloc] at bq
 generalize hW : (w.alloc (.cells #[.slice ta tn tc,.slice vb vm vd] 38)).alloc (svO s) = W at hw bs bq
 replace hT := hT.later hw
 replace hm := hm.later hw
 have y0 := bs.cell 0
 have y1 := bs.cell 1
 have z0 := bq.cell 0
 have z1 := bq.cell 1
 have z2 := bq.cell 2
 have z3 := bq.cell 3
 have z4 := bq.cell 4
 have z5 := bq.cell 5
 have z6 := bq.cell 6
 have z7 := bq.cell 7
 have z8 := bq.cell 8
 have z9 := bq.cell 9
 have z10 := bq.cell 10
 have z11 := bq.cell 11
 have z12 := bq.cell 12
 simp only [List.getElem?_toArray,List.getElem?_cons_zero,List.getElem?_cons_succ] at y0 y1 z0 z1 z2 z3 z4 z5 z6 z7 z8 z9 z10 z11 z12
 have HFo : Hid _ := hid (lists_1 hB hm hk)
 have hf1 : formP m s.inn.2.1 = true := by unfold formP; simp [hk]
 rw [hf1] at HFo
 have k0 : s.k = 1 := by rw [hm.k,hk]
 rw [k0] at z0
 clear hT bs bq hB hk hf1
 obtain ⟨sk,stb,snm,⟨co0,co1,co2⟩,⟨ta0,ta1,ta2⟩,⟨va0,va1,va2⟩,⟨it0,it1,it2⟩,sjn,⟨on0,on1,on2⟩,⟨wh0,wh1,wh2⟩,⟨od0,od1,od2⟩,sds,⟨in0,in1,in2⟩⟩ := s
 dsimp only [stV,svO] at *
 subst k0
 clear hm
 go_enter Tryz.func16,Tryz.ntmps16
 go_upto_region 1 with fail
 go_wp2_with fail
 refine Calls.mono HFo.out ?_
 rintro e w4 ⟨rfl,hb4⟩
 replace z0 := cell_later hb4 z0
 have hB4 := Below.on hw hb4
 clear HFo hW hb4 hw z1 z2 z3 z4 z5 z6 z7 z8 z9 z10 z11 z12 y0 y1
 generalize w.heap.size + 1 = q at *
 go_wp2
 go_ret
 exact ⟨rfl,hB4⟩
set_option maxRecDepth 100000 in
set_option maxHeartbeats 4000000 in
theorem rcheck_2 {T : List Tbl} {m : Sq} (hB : SqB m) {w : World} {ta : Option Addr} {tn tc : Nat} {vb : Option Addr} {vm vd : Nat} (hT : IsT w T ta tn tc) {s : Sv} (hm : IsQ w m s) (hk : m.kind = 2) :
  Calls Tryz.prog 16 #[.agg #[.slice ta tn tc,.slice vb vm vd],stV s] w fun en w' => en = .returned (.int .i64 (0)) ∧ Below w.heap.size w w' := by
 have hw := bal (bal (Below.refl w.heap.size w) (.cells #[.slice ta tn tc,.slice vb vm vd] 38)) (svO s)
 have bs := (Bk.new w (.cells #[.slice ta tn tc,.slice vb vm vd] 38)).later (bal (Below.refl _ _) (svO s))
 have bq := Bk.new (w.alloc (.cells #[.slice ta tn tc,.slice vb vm vd] 38)) (svO s)
 rw [World.size_alloc] at bq
 generalize hW : (w.alloc (.cells #[.slice ta tn tc,.slice vb vm vd] 38)).alloc (svO s) = W at hw bs bq
 replace hT := hT.later hw
 replace hm := hm.later hw
 have y0 := bs.cell 0
 have y1 := bs.cell 1
 have z0 := bq.cell 0
 have z1 := bq.cell 1
 have z2 := bq.cell 2
 have z3 := bq.cell 3
 have z4 := bq.cell 4
 have z5 := bq.cell 5
 have z6 := bq.cell 6
 have z7 := bq.cell 7
 have z8 := bq.cell 8
 have z9 := bq.cell 9
 have z10 := bq.cell 10
 have z11 := bq.cell 11
 have z12 := bq.cell 12
 simp only [List.getElem?_toArray,List.getElem?_cons_zero,List.getElem?_cons_succ] at y0 y1 z0 z1 z2 z3 z4 z5 z6 z7 z8 z9 z10 z11 z12
 have HFo : Hid _ := hid (lists_2 hB hm hk)
 have hf1 : formP m s.inn.2.1 = true := by unfold formP; simp [hk]
 rw [hf1] at HFo
 have k0 : s.k = 2 := by rw [hm.k,hk]
 rw [k0] at z0
 clear hT bs bq hB hk hf1
 obtain ⟨sk,stb,snm,⟨co0,co1,co2⟩,⟨ta0,ta1,ta2⟩,⟨va0,va1,va2⟩,⟨it0,it1,it2⟩,sjn,⟨on0,on1,on2⟩,⟨wh0,wh1,wh2⟩,⟨od0,od1,od2⟩,sds,⟨in0,in1,in2⟩⟩ := s
 dsimp only [stV,svO] at *
 subst k0
 clear hm
 go_enter Tryz.func16,Tryz.ntmps16
 go_upto_region 1 with fail
 go_wp2_with fail
 refine Calls.mono HFo.out ?_
 rintro e w4 ⟨rfl,hb4⟩
 replace z0 := cell_later hb4 z0
 have hB4 := Below.on hw hb4
 clear HFo hW hb4 hw z1 z2 z3 z4 z5 z6 z7 z8 z9 z10 z11 z12 y0 y1
 generalize w.heap.size + 1 = q at *
 go_wp2
 go_ret
 exact ⟨rfl,hB4⟩
set_option maxRecDepth 100000 in
set_option maxHeartbeats 4000000 in
theorem rcheck_9 {T : List Tbl} {m : Sq} (hB : SqB m) {w : World} {ta : Option Addr} {tn tc : Nat} {vb : Option Addr} {vm vd : Nat} (hT : IsT w T ta tn tc) {s : Sv} (hm : IsQ w m s) (hk : m.kind = 9) :
  Calls Tryz.prog 16 #[.agg #[.slice ta tn tc,.slice vb vm vd],stV s] w fun en w' => en = .returned (.int .i64 (0)) ∧ Below w.heap.size w w' := by
 have hw := bal (bal (Below.refl w.heap.size w) (.cells #[.slice ta tn tc,.slice vb vm vd] 38)) (svO s)
 have bs := (Bk.new w (.cells #[.slice ta tn tc,.slice vb vm vd] 38)).later (bal (Below.refl _ _) (svO s))
 have bq := Bk.new (w.alloc (.cells #[.slice ta tn tc,.slice vb vm vd] 38)) (svO s)
 rw [World.size_alloc] at bq
 generalize hW : (w.alloc (.cells #[.slice ta tn tc,.slice vb vm vd] 38)).alloc (svO s) = W at hw bs bq
 replace hT := hT.later hw
 replace hm := hm.later hw
 have y0 := bs.cell 0
 have y1 := bs.cell 1
 have z0 := bq.cell 0
 have z1 := bq.cell 1
 have z2 := bq.cell 2
 have z3 := bq.cell 3
 have z4 := bq.cell 4
 have z5 := bq.cell 5
 have z6 := bq.cell 6
 have z7 := bq.cell 7
 have z8 := bq.cell 8
 have z9 := bq.cell 9
 have z10 := bq.cell 10
 have z11 := bq.cell 11
 have z12 := bq.cell 12
 simp only [List.getElem?_toArray,List.getElem?_cons_zero,List.getElem?_cons_succ] at y0 y1 z0 z1 z2 z3 z4 z5 z6 z7 z8 z9 z10 z11 z12
 have HFo : Hid _ := hid (lists_9 hB hm hk)
 have hf1 : formP m s.inn.2.1 = true := by unfold formP; simp [hk]
 rw [hf1] at HFo
 have k0 : s.k = 9 := by rw [hm.k,hk]
 rw [k0] at z0
 clear hT bs bq hB hk hf1
 obtain ⟨sk,stb,snm,⟨co0,co1,co2⟩,⟨ta0,ta1,ta2⟩,⟨va0,va1,va2⟩,⟨it0,it1,it2⟩,sjn,⟨on0,on1,on2⟩,⟨wh0,wh1,wh2⟩,⟨od0,od1,od2⟩,sds,⟨in0,in1,in2⟩⟩ := s
 dsimp only [stV,svO] at *
 subst k0
 clear hm
 go_enter Tryz.func16,Tryz.ntmps16
 go_upto_region 1 with fail
 go_wp2_with fail
 refine Calls.mono HFo.out ?_
 rintro e w4 ⟨rfl,hb4⟩
 replace z0 := cell_later hb4 z0
 have hB4 := Below.on hw hb4
 clear HFo hW hb4 hw z1 z2 z3 z4 z5 z6 z7 z8 z9 z10 z11 z12 y0 y1
 generalize w.heap.size + 1 = q at *
 go_wp2
 go_ret
 exact ⟨rfl,hB4⟩
set_option maxRecDepth 100000 in
set_option maxHeartbeats 4000000 in
theorem rcheck_10 {T : List Tbl} {m : Sq} (hB : SqB m) {w : World} {ta : Option Addr} {tn tc : Nat} {vb : Option Addr} {vm vd : Nat} (hT : IsT w T ta tn tc) {s : Sv} (hm : IsQ w m s) (hk : m.kind = 10) :
  Calls Tryz.prog 16 #[.agg #[.slice ta tn tc,.slice vb vm vd],stV s] w fun en w' => en = .returned (.int .i64 (0)) ∧ Below w.heap.size w w' := by
 have hw := bal (bal (Below.refl w.heap.size w) (.cells #[.slice ta tn tc,.slice vb vm vd] 38)) (svO s)
 have bs := (Bk.new w (.cells #[.slice ta tn tc,.slice vb vm vd] 38)).later (bal (Below.refl _ _) (svO s))
 have bq := Bk.new (w.alloc (.cells #[.slice ta tn tc,.slice vb vm vd] 38)) (svO s)
 rw [World.size_alloc] at bq
 generalize hW : (w.alloc (.cells #[.slice ta tn tc,.slice vb vm vd] 38)).alloc (svO s) = W at hw bs bq
 replace hT := hT.later hw
 replace hm := hm.later hw
 have y0 := bs.cell 0
 have y1 := bs.cell 1
 have z0 := bq.cell 0
 have z1 := bq.cell 1
 have z2 := bq.cell 2
 have z3 := bq.cell 3
 have z4 := bq.cell 4
 have z5 := bq.cell 5
 have z6 := bq.cell 6
 have z7 := bq.cell 7
 have z8 := bq.cell 8
 have z9 := bq.cell 9
 have z10 := bq.cell 10
 have z11 := bq.cell 11
 have z12 := bq.cell 12
 simp only [List.getElem?_toArray,List.getElem?_cons_zero,List.getElem?_cons_succ] at y0 y1 z0 z1 z2 z3 z4 z5 z6 z7 z8 z9 z10 z11 z12
 have HFo : Hid _ := hid (lists_10 hB hm hk)
 have hf1 : formP m s.inn.2.1 = true := by unfold formP; simp [hk]
 rw [hf1] at HFo
 have k0 : s.k = 10 := by rw [hm.k,hk]
 rw [k0] at z0
 clear hT bs bq hB hk hf1
 obtain ⟨sk,stb,snm,⟨co0,co1,co2⟩,⟨ta0,ta1,ta2⟩,⟨va0,va1,va2⟩,⟨it0,it1,it2⟩,sjn,⟨on0,on1,on2⟩,⟨wh0,wh1,wh2⟩,⟨od0,od1,od2⟩,sds,⟨in0,in1,in2⟩⟩ := s
 dsimp only [stV,svO] at *
 subst k0
 clear hm
 go_enter Tryz.func16,Tryz.ntmps16
 go_upto_region 1 with fail
 go_wp2_with fail
 refine Calls.mono HFo.out ?_
 rintro e w4 ⟨rfl,hb4⟩
 replace z0 := cell_later hb4 z0
 have hB4 := Below.on hw hb4
 clear HFo hW hb4 hw z1 z2 z3 z4 z5 z6 z7 z8 z9 z10 z11 z12 y0 y1
 generalize w.heap.size + 1 = q at *
 go_wp2
 go_ret
 exact ⟨rfl,hB4⟩
set_option maxRecDepth 100000 in
set_option maxHeartbeats 4000000 in
theorem rcheck_11 {T : List Tbl} {m : Sq} (hB : SqB m) {w : World} {ta : Option Addr} {tn tc : Nat} {vb : Option Addr} {vm vd : Nat} (hT : IsT w T ta tn tc) {s : Sv} (hm : IsQ w m s) (hk : m.kind = 11) :
  Calls Tryz.prog 16 #[.agg #[.slice ta tn tc,.slice vb vm vd],stV s] w fun en w' => en = .returned (.int .i64 (0)) ∧ Below w.heap.size w w' := by
 have hw := bal (bal (Below.refl w.heap.size w) (.cells #[.slice ta tn tc,.slice vb vm vd] 38)) (svO s)
 have bs := (Bk.new w (.cells #[.slice ta tn tc,.slice vb vm vd] 38)).later (bal (Below.refl _ _) (svO s))
 have bq := Bk.new (w.alloc (.cells #[.slice ta tn tc,.slice vb vm vd] 38)) (svO s)
 rw [World.size_alloc] at bq
 generalize hW : (w.alloc (.cells #[.slice ta tn tc,.slice vb vm vd] 38)).alloc (svO s) = W at hw bs bq
 replace hT := hT.later hw
 replace hm := hm.later hw
 have y0 := bs.cell 0
 have y1 := bs.cell 1
 have z0 := bq.cell 0
 have z1 := bq.cell 1
 have z2 := bq.cell 2
 have z3 := bq.cell 3
 have z4 := bq.cell 4
 have z5 := bq.cell 5
 have z6 := bq.cell 6
 have z7 := bq.cell 7
 have z8 := bq.cell 8
 have z9 := bq.cell 9
 have z10 := bq.cell 10
 have z11 := bq.cell 11
 have z12 := bq.cell 12
 simp only [List.getElem?_toArray,List.getElem?_cons_zero,List.getElem?_cons_succ] at y0 y1 z0 z1 z2 z3 z4 z5 z6 z7 z8 z9 z10 z11 z12
 have HFo : Hid _ := hid (lists_11 hB hm hk)
 have hf1 : formP m s.inn.2.1 = true := by unfold formP; simp [hk]
 rw [hf1] at HFo
 have k0 : s.k = 11 := by rw [hm.k,hk]
 rw [k0] at z0
 clear hT bs bq hB hk hf1
 obtain ⟨sk,stb,snm,⟨co0,co1,co2⟩,⟨ta0,ta1,ta2⟩,⟨va0,va1,va2⟩,⟨it0,it1,it2⟩,sjn,⟨on0,on1,on2⟩,⟨wh0,wh1,wh2⟩,⟨od0,od1,od2⟩,sds,⟨in0,in1,in2⟩⟩ := s
 dsimp only [stV,svO] at *
 subst k0
 clear hm
 go_enter Tryz.func16,Tryz.ntmps16
 go_upto_region 1 with fail
 go_wp2_with fail
 refine Calls.mono HFo.out ?_
 rintro e w4 ⟨rfl,hb4⟩
 replace z0 := cell_later hb4 z0
 have hB4 := Below.on hw hb4
 clear HFo hW hb4 hw z1 z2 z3 z4 z5 z6 z7 z8 z9 z10 z11 z12 y0 y1
 generalize w.heap.size + 1 = q at *
 go_wp2
 go_ret
 exact ⟨rfl,hB4⟩
set_option maxRecDepth 100000 in
set_option maxHeartbeats 4000000 in
theorem rcheck_12 {T : List Tbl} {m : Sq} (hB : SqB m) {w : World} {ta : Option Addr} {tn tc : Nat} {vb : Option Addr} {vm vd : Nat} (hT : IsT w T ta tn tc) {s : Sv} (hm : IsQ w m s) (hk : m.kind = 12) :
  Calls Tryz.prog 16 #[.agg #[.slice ta tn tc,.slice vb vm vd],stV s] w fun en w' => en = .returned (.int .i64 (0)) ∧ Below w.heap.size w w' := by
 have hw := bal (bal (Below.refl w.heap.size w) (.cells #[.slice ta tn tc,.slice vb vm vd] 38)) (svO s)
 have bs := (Bk.new w (.cells #[.slice ta tn tc,.slice vb vm vd] 38)).later (bal (Below.refl _ _) (svO s))
 have bq := Bk.new (w.alloc (.cells #[.slice ta tn tc,.slice vb vm vd] 38)) (svO s)
 rw [World.size_alloc] at bq
 generalize hW : (w.alloc (.cells #[.slice ta tn tc,.slice vb vm vd] 38)).alloc (svO s) = W at hw bs bq
 replace hT := hT.later hw
 replace hm := hm.later hw
 have y0 := bs.cell 0
 have y1 := bs.cell 1
 have z0 := bq.cell 0
 have z1 := bq.cell 1
 have z2 := bq.cell 2
 have z3 := bq.cell 3
 have z4 := bq.cell 4
 have z5 := bq.cell 5
 have z6 := bq.cell 6
 have z7 := bq.cell 7
 have z8 := bq.cell 8
 have z9 := bq.cell 9
 have z10 := bq.cell 10
 have z11 := bq.cell 11
 have z12 := bq.cell 12
 simp only [List.getElem?_toArray,List.getElem?_cons_zero,List.getElem?_cons_succ] at y0 y1 z0 z1 z2 z3 z4 z5 z6 z7 z8 z9 z10 z11 z12
 have HFo : Hid _ := hid (lists_12 hB hm hk)
 have hf1 : formP m s.inn.2.1 = true := by unfold formP; simp [hk]
 rw [hf1] at HFo
 have k0 : s.k = 12 := by rw [hm.k,hk]
 rw [k0] at z0
 clear hT bs bq hB hk hf1
 obtain ⟨sk,stb,snm,⟨co0,co1,co2⟩,⟨ta0,ta1,ta2⟩,⟨va0,va1,va2⟩,⟨it0,it1,it2⟩,sjn,⟨on0,on1,on2⟩,⟨wh0,wh1,wh2⟩,⟨od0,od1,od2⟩,sds,⟨in0,in1,in2⟩⟩ := s
 dsimp only [stV,svO] at *
 subst k0
 clear hm
 go_enter Tryz.func16,Tryz.ntmps16
 go_upto_region 1 with fail
 go_wp2_with fail
 refine Calls.mono HFo.out ?_
 rintro e w4 ⟨rfl,hb4⟩
 replace z0 := cell_later hb4 z0
 have hB4 := Below.on hw hb4
 clear HFo hW hb4 hw z1 z2 z3 z4 z5 z6 z7 z8 z9 z10 z11 z12 y0 y1
 generalize w.heap.size + 1 = q at *
 go_wp2
 go_ret
 exact ⟨rfl,hB4⟩
set_option maxRecDepth 100000 in
set_option maxHeartbeats 4000000 in
theorem rcheck_13 {T : List Tbl} {m : Sq} (hB : SqB m) {w : World} {ta : Option Addr} {tn tc : Nat} (hT : IsT w T ta tn tc) {s : Sv} (hm : IsQ w m s) (hk : m.kind = 13) :
  Calls Tryz.prog 16 #[.agg #[.slice ta tn tc,.slice none 0 0],stV s] w fun en w' => en = .returned (.int .i64 (22)) ∧ Below w.heap.size w w' := by
 have hw := bal (bal (Below.refl w.heap.size w) (.cells #[.slice ta tn tc,.slice none 0 0] 38)) (svO s)
 have bs := (Bk.new w (.cells #[.slice ta tn tc,.slice none 0 0] 38)).later (bal (Below.refl _ _) (svO s))
 have bq := Bk.new (w.alloc (.cells #[.slice ta tn tc,.slice none 0 0] 38)) (svO s)
 rw [World.size_alloc] at bq
 generalize hW : (w.alloc (.cells #[.slice ta tn tc,.slice none 0 0] 38)).alloc (svO s) = W at hw bs bq
 replace hT := hT.later hw
 replace hm := hm.later hw
 have y0 := bs.cell 0
 have y1 := bs.cell 1
 have z0 := bq.cell 0
 have z1 := bq.cell 1
 have z2 := bq.cell 2
 have z3 := bq.cell 3
 have z4 := bq.cell 4
 have z5 := bq.cell 5
 have z6 := bq.cell 6
 have z7 := bq.cell 7
 have z8 := bq.cell 8
 have z9 := bq.cell 9
 have z10 := bq.cell 10
 have z11 := bq.cell 11
 have z12 := bq.cell 12
 simp only [List.getElem?_toArray,List.getElem?_cons_zero,List.getElem?_cons_succ] at y0 y1 z0 z1 z2 z3 z4 z5 z6 z7 z8 z9 z10 z11 z12
 have HFo : Hid _ := hid (lists_13 hB hm hk)
 have HV : Hid (∀ w',_) := hid fun w' => rview_none s.nm ta tn tc w'
 have hf1 : formP m s.inn.2.1 = true := by unfold formP; simp [hk]
 rw [hf1] at HFo
 have k0 : s.k = 13 := by rw [hm.k,hk]
 rw [k0] at z0
 clear hT bs bq hB hk hf1
 obtain ⟨sk,stb,snm,⟨co0,co1,co2⟩,⟨ta0,ta1,ta2⟩,⟨va0,va1,va2⟩,⟨it0,it1,it2⟩,sjn,⟨on0,on1,on2⟩,⟨wh0,wh1,wh2⟩,⟨od0,od1,od2⟩,sds,⟨in0,in1,in2⟩⟩ := s
 dsimp only [stV,svO] at *
 subst k0
 clear hm
 go_enter Tryz.func16,Tryz.ntmps16
 go_upto_region 1 with fail
 go_wp2_with fail
 refine Calls.mono HFo.out ?_
 rintro e w4 ⟨rfl,hb4⟩
 replace z0 := cell_later hb4 z0
 replace z2 := cell_later hb4 z2
 replace y0 := cell_later hb4 y0
 replace y1 := cell_later hb4 y1
 have hB4 := Below.on hw hb4
 clear HFo hW hb4 hw z1 z3 z4 z5 z6 z7 z8 z9 z10 z11 z12
 generalize w.heap.size + 1 = q at *
 go_wp2_with fail
 refine Calls.mono (HV.out _) ?_
 rintro e w5 ⟨rfl,hb5⟩
 have hB5 := Below.on hB4 hb5
 clear HV z0 z2 y0 y1 hb5
 go_wp2
 go_ret
 exact ⟨rfl,by first | exact bal hB5 _ | exact hB5⟩
set_option maxRecDepth 100000 in
set_option maxHeartbeats 4000000 in
theorem rcheck_3 {T : List Tbl} {m : Sq} (hB : SqB m) {w : World} {ta : Option Addr} {tn tc : Nat} {vb : Option Addr} {vm vd : Nat} (hT : IsT w T ta tn tc) {s : Sv} (hm : IsQ w m s) (hk : m.kind = 3) {r : Sv} {E : Int} {ib io ic : Nat} (hin : s.inn = (some ⟨ib,io,none⟩,1,ic)) (hic : 1 ≤ ic ∧ ic ≤ 9223372036854775807) (hir : ∀ j,j < 13 → w.cell? ⟨ib,io + j,none⟩ = (svC r)[j]?) (hI : ∀ w',Below w.heap.size w w' → Calls Tryz.prog 16 #[.agg #[.slice ta tn tc,.slice vb vm vd],stV r] w' fun en w'' => en = .returned (.int .i64 E) ∧ Below w'.heap.size w' w'') :
  Calls Tryz.prog 16 #[.agg #[.slice ta tn tc,.slice vb vm vd],stV s] w fun en w' => en = .returned (.int .i64 (E)) ∧ Below w.heap.size w w' := by
 have hw := bal (bal (Below.refl w.heap.size w) (.cells #[.slice ta tn tc,.slice vb vm vd] 38)) (svO s)
 have bs := (Bk.new w (.cells #[.slice ta tn tc,.slice vb vm vd] 38)).later (bal (Below.refl _ _) (svO s))
 have bq := Bk.new (w.alloc (.cells #[.slice ta tn tc,.slice vb vm vd] 38)) (svO s)
 rw [World.size_alloc] at bq
 generalize hW : (w.alloc (.cells #[.slice ta tn tc,.slice vb vm vd] 38)).alloc (svO s) = W at hw bs bq
 replace hT := hT.later hw
 replace hm := hm.later hw
 have y0 := bs.cell 0
 have y1 := bs.cell 1
 have z0 := bq.cell 0
 have z1 := bq.cell 1
 have z2 := bq.cell 2
 have z3 := bq.cell 3
 have z4 := bq.cell 4
 have z5 := bq.cell 5
 have z6 := bq.cell 6
 have z7 := bq.cell 7
 have z8 := bq.cell 8
 have z9 := bq.cell 9
 have z10 := bq.cell 10
 have z11 := bq.cell 11
 have z12 := bq.cell 12
 simp only [List.getElem?_toArray,List.getElem?_cons_zero,List.getElem?_cons_succ] at y0 y1 z0 z1 z2 z3 z4 z5 z6 z7 z8 z9 z10 z11 z12
 have x0 := cell_later hw (hir 0 (by decide))
 have x1 := cell_later hw (hir 1 (by decide))
 have x2 := cell_later hw (hir 2 (by decide))
 have x3 := cell_later hw (hir 3 (by decide))
 have x4 := cell_later hw (hir 4 (by decide))
 have x5 := cell_later hw (hir 5 (by decide))
 have x6 := cell_later hw (hir 6 (by decide))
 have x7 := cell_later hw (hir 7 (by decide))
 have x8 := cell_later hw (hir 8 (by decide))
 have x9 := cell_later hw (hir 9 (by decide))
 have x10 := cell_later hw (hir 10 (by decide))
 have x11 := cell_later hw (hir 11 (by decide))
 have x12 := cell_later hw (hir 12 (by decide))
 simp only [svC,List.getElem?_cons_zero,List.getElem?_cons_succ,Nat.add_zero] at x0 x1 x2 x3 x4 x5 x6 x7 x8 x9 x10 x11 x12
 have hf1 : formP m s.inn.2.1 = true := by unfold formP; rw [hin]; simp [hk]
 have HFo := lists_3 hB hm hk (by rw [hin]; show 1 ≤ _; omega)
 rw [hf1] at HFo
 replace HFo : Hid _ := hid HFo
 have HM : Hid (∀ w',Below W.heap.size W w' → _) := hid fun w' hb => hI w' (Below.on hw hb)
 have k0 : s.k = 3 := by rw [hm.k,hk]
 rw [k0] at z0
 clear hT bs bq hB hk hf1 hI hir
 obtain ⟨sk,stb,snm,⟨co0,co1,co2⟩,⟨ta0,ta1,ta2⟩,⟨va0,va1,va2⟩,⟨it0,it1,it2⟩,sjn,⟨on0,on1,on2⟩,⟨wh0,wh1,wh2⟩,⟨od0,od1,od2⟩,sds,⟨in0,in1,in2⟩⟩ := s
 obtain ⟨rk,rtb,rnm,⟨rco0,rco1,rco2⟩,⟨rta0,rta1,rta2⟩,⟨rva0,rva1,rva2⟩,⟨rit0,rit1,rit2⟩,rjn,⟨ron0,ron1,ron2⟩,⟨rwh0,rwh1,rwh2⟩,⟨rod0,rod1,rod2⟩,rds,⟨rin0,rin1,rin2⟩⟩ := r
 dsimp only [stV,svO] at *
 subst k0
 obtain ⟨rfl,rfl,rfl⟩ : in0 = some ⟨ib,io,none⟩ ∧ in1 = 1 ∧ in2 = ic := by simpa using hin
 clear hm hin
 go_enter Tryz.func16,Tryz.ntmps16
 go_upto_region 1 with fail
 go_wp2_with fail
 refine Calls.mono HFo.out ?_
 rintro e w4 ⟨rfl,hb4⟩
 have HM2 : Hid (∀ w',Below w4.heap.size w4 w' → _) := hid fun w' hb => HM.out w' (Below.on hb4 hb)
 replace y0 := cell_later hb4 y0
 replace y1 := cell_later hb4 y1
 replace z0 := cell_later hb4 z0
 replace z12 := cell_later hb4 z12
 replace x0 := cell_later hb4 x0
 replace x1 := cell_later hb4 x1
 replace x2 := cell_later hb4 x2
 replace x3 := cell_later hb4 x3
 replace x4 := cell_later hb4 x4
 replace x5 := cell_later hb4 x5
 replace x6 := cell_later hb4 x6
 replace x7 := cell_later hb4 x7
 replace x8 := cell_later hb4 x8
 replace x9 := cell_later hb4 x9
 replace x10 := cell_later hb4 x10
 replace x11 := cell_later hb4 x11
 replace x12 := cell_later hb4 x12
 have hB4 := Below.on hw hb4
 clear HFo hW hb4 hw z1 z2 z3 z4 z5 z6 z7 z8 z9 z10 z11
 generalize w.heap.size + 1 = q at *
 generalize w.heap.size = p at y0 y1 ⊢
 clear HM
 have hC : Below w4.heap.size w4 w4.drew := (Below.refl _ w4).drew
 have HG : Hid _ := hid hB4
 go_upto_region 6 with fail
 go_region_held (fun w' => w'.cell? ⟨p,0,none⟩ = some (.slice ta tn tc) ∧ w'.cell? ⟨p,1,none⟩ = some (.slice vb vm vd) ∧ w'.cell? ⟨q,12,none⟩ = some (.slice (some ⟨ib,io,none⟩) 1 in2) ∧ w'.cell? ⟨ib,io,none⟩ = some (.int .i64 rk) ∧ w'.cell? ⟨ib,io + 1,none⟩ = some (.string rtb) ∧ w'.cell? ⟨ib,io + 2,none⟩ = some (.string rnm) ∧ w'.cell? ⟨ib,io + 3,none⟩ = some (.slice rco0 rco1 rco2) ∧ w'.cell? ⟨ib,io + 4,none⟩ = some (.slice rta0 rta1 rta2) ∧ w'.cell? ⟨ib,io + 5,none⟩ = some (.slice rva0 rva1 rva2) ∧ w'.cell? ⟨ib,io + 6,none⟩ = some (.slice rit0 rit1 rit2) ∧ w'.cell? ⟨ib,io + 7,none⟩ = some (.string rjn) ∧ w'.cell? ⟨ib,io + 8,none⟩ = some (.slice ron0 ron1 ron2) ∧ w'.cell? ⟨ib,io + 9,none⟩ = some (.slice rwh0 rwh1 rwh2) ∧ w'.cell? ⟨ib,io + 10,none⟩ = some (.slice rod0 rod1 rod2) ∧ w'.cell? ⟨ib,io + 11,none⟩ = some (.bool rds) ∧ w'.cell? ⟨ib,io + 12,none⟩ = some (.slice rin0 rin1 rin2))
  (exact ⟨cell_later hC y0,cell_later hC y1,cell_later hC z12,cell_later hC x0,cell_later hC x1,cell_later hC x2,cell_later hC x3,cell_later hC x4,cell_later hC x5,cell_later hC x6,cell_later hC x7,cell_later hC x8,cell_later hC x9,cell_later hC x10,cell_later hC x11,cell_later hC x12⟩)
  (first
  | (go_at_call 16; with_reducible refine Calls.mono (HM2.out _ hC) ?_; rintro e z1 ⟨rfl,hb1⟩; replace hC := Below.on hC hb1))
 all_goals
  go_wp2
  go_ret
  exact ⟨rfl,Below.on HG.out hC⟩
set_option maxRecDepth 100000 in
set_option maxHeartbeats 4000000 in
theorem rcheck_4 {T : List Tbl} {m : Sq} (hB : SqB m) {w : World} {ta : Option Addr} {tn tc : Nat} {vb : Option Addr} {vm vd : Nat} (hT : IsT w T ta tn tc) {s : Sv} (hm : IsQ w m s) (hk : m.kind = 4) {r : Sv} {E : Int} {ib io ic : Nat} (hin : s.inn = (some ⟨ib,io,none⟩,1,ic)) (hic : 1 ≤ ic ∧ ic ≤ 9223372036854775807) (hir : ∀ j,j < 13 → w.cell? ⟨ib,io + j,none⟩ = (svC r)[j]?) (hI : ∀ w',Below w.heap.size w w' → Calls Tryz.prog 16 #[.agg #[.slice ta tn tc,.slice vb vm vd],stV r] w' fun en w'' => en = .returned (.int .i64 E) ∧ Below w'.heap.size w' w'') :
  Calls Tryz.prog 16 #[.agg #[.slice ta tn tc,.slice vb vm vd],stV s] w fun en w' => en = .returned (.int .i64 (E)) ∧ Below w.heap.size w w' := by
 have hw := bal (bal (Below.refl w.heap.size w) (.cells #[.slice ta tn tc,.slice vb vm vd] 38)) (svO s)
 have bs := (Bk.new w (.cells #[.slice ta tn tc,.slice vb vm vd] 38)).later (bal (Below.refl _ _) (svO s))
 have bq := Bk.new (w.alloc (.cells #[.slice ta tn tc,.slice vb vm vd] 38)) (svO s)
 rw [World.size_alloc] at bq
 generalize hW : (w.alloc (.cells #[.slice ta tn tc,.slice vb vm vd] 38)).alloc (svO s) = W at hw bs bq
 replace hT := hT.later hw
 replace hm := hm.later hw
 have y0 := bs.cell 0
 have y1 := bs.cell 1
 have z0 := bq.cell 0
 have z1 := bq.cell 1
 have z2 := bq.cell 2
 have z3 := bq.cell 3
 have z4 := bq.cell 4
 have z5 := bq.cell 5
 have z6 := bq.cell 6
 have z7 := bq.cell 7
 have z8 := bq.cell 8
 have z9 := bq.cell 9
 have z10 := bq.cell 10
 have z11 := bq.cell 11
 have z12 := bq.cell 12
 simp only [List.getElem?_toArray,List.getElem?_cons_zero,List.getElem?_cons_succ] at y0 y1 z0 z1 z2 z3 z4 z5 z6 z7 z8 z9 z10 z11 z12
 have x0 := cell_later hw (hir 0 (by decide))
 have x1 := cell_later hw (hir 1 (by decide))
 have x2 := cell_later hw (hir 2 (by decide))
 have x3 := cell_later hw (hir 3 (by decide))
 have x4 := cell_later hw (hir 4 (by decide))
 have x5 := cell_later hw (hir 5 (by decide))
 have x6 := cell_later hw (hir 6 (by decide))
 have x7 := cell_later hw (hir 7 (by decide))
 have x8 := cell_later hw (hir 8 (by decide))
 have x9 := cell_later hw (hir 9 (by decide))
 have x10 := cell_later hw (hir 10 (by decide))
 have x11 := cell_later hw (hir 11 (by decide))
 have x12 := cell_later hw (hir 12 (by decide))
 simp only [svC,List.getElem?_cons_zero,List.getElem?_cons_succ,Nat.add_zero] at x0 x1 x2 x3 x4 x5 x6 x7 x8 x9 x10 x11 x12
 have hf1 : formP m s.inn.2.1 = true := by unfold formP; rw [hin]; simp [hk]
 have HFo := lists_4 hB hm hk (by rw [hin]; show 1 ≤ _; omega)
 rw [hf1] at HFo
 replace HFo : Hid _ := hid HFo
 have HM : Hid (∀ w',Below W.heap.size W w' → _) := hid fun w' hb => hI w' (Below.on hw hb)
 have k0 : s.k = 4 := by rw [hm.k,hk]
 rw [k0] at z0
 clear hT bs bq hB hk hf1 hI hir
 obtain ⟨sk,stb,snm,⟨co0,co1,co2⟩,⟨ta0,ta1,ta2⟩,⟨va0,va1,va2⟩,⟨it0,it1,it2⟩,sjn,⟨on0,on1,on2⟩,⟨wh0,wh1,wh2⟩,⟨od0,od1,od2⟩,sds,⟨in0,in1,in2⟩⟩ := s
 obtain ⟨rk,rtb,rnm,⟨rco0,rco1,rco2⟩,⟨rta0,rta1,rta2⟩,⟨rva0,rva1,rva2⟩,⟨rit0,rit1,rit2⟩,rjn,⟨ron0,ron1,ron2⟩,⟨rwh0,rwh1,rwh2⟩,⟨rod0,rod1,rod2⟩,rds,⟨rin0,rin1,rin2⟩⟩ := r
 dsimp only [stV,svO] at *
 subst k0
 obtain ⟨rfl,rfl,rfl⟩ : in0 = some ⟨ib,io,none⟩ ∧ in1 = 1 ∧ in2 = ic := by simpa using hin
 clear hm hin
 go_enter Tryz.func16,Tryz.ntmps16
 go_upto_region 1 with fail
 go_wp2_with fail
 refine Calls.mono HFo.out ?_
 rintro e w4 ⟨rfl,hb4⟩
 have HM2 : Hid (∀ w',Below w4.heap.size w4 w' → _) := hid fun w' hb => HM.out w' (Below.on hb4 hb)
 replace y0 := cell_later hb4 y0
 replace y1 := cell_later hb4 y1
 replace z0 := cell_later hb4 z0
 replace z12 := cell_later hb4 z12
 replace x0 := cell_later hb4 x0
 replace x1 := cell_later hb4 x1
 replace x2 := cell_later hb4 x2
 replace x3 := cell_later hb4 x3
 replace x4 := cell_later hb4 x4
 replace x5 := cell_later hb4 x5
 replace x6 := cell_later hb4 x6
 replace x7 := cell_later hb4 x7
 replace x8 := cell_later hb4 x8
 replace x9 := cell_later hb4 x9
 replace x10 := cell_later hb4 x10
 replace x11 := cell_later hb4 x11
 replace x12 := cell_later hb4 x12
 have hB4 := Below.on hw hb4
 clear HFo hW hb4 hw z1 z2 z3 z4 z5 z6 z7 z8 z9 z10 z11
 generalize w.heap.size + 1 = q at *
 generalize w.heap.size = p at y0 y1 ⊢
 clear HM
 have hC : Below w4.heap.size w4 w4.drew := (Below.refl _ w4).drew
 have HG : Hid _ := hid hB4
 go_upto_region 6 with fail
 go_region_held (fun w' => w'.cell? ⟨p,0,none⟩ = some (.slice ta tn tc) ∧ w'.cell? ⟨p,1,none⟩ = some (.slice vb vm vd) ∧ w'.cell? ⟨q,12,none⟩ = some (.slice (some ⟨ib,io,none⟩) 1 in2) ∧ w'.cell? ⟨ib,io,none⟩ = some (.int .i64 rk) ∧ w'.cell? ⟨ib,io + 1,none⟩ = some (.string rtb) ∧ w'.cell? ⟨ib,io + 2,none⟩ = some (.string rnm) ∧ w'.cell? ⟨ib,io + 3,none⟩ = some (.slice rco0 rco1 rco2) ∧ w'.cell? ⟨ib,io + 4,none⟩ = some (.slice rta0 rta1 rta2) ∧ w'.cell? ⟨ib,io + 5,none⟩ = some (.slice rva0 rva1 rva2) ∧ w'.cell? ⟨ib,io + 6,none⟩ = some (.slice rit0 rit1 rit2) ∧ w'.cell? ⟨ib,io + 7,none⟩ = some (.string rjn) ∧ w'.cell? ⟨ib,io + 8,none⟩ = some (.slice ron0 ron1 ron2) ∧ w'.cell? ⟨ib,io + 9,none⟩ = some (.slice rwh0 rwh1 rwh2) ∧ w'.cell? ⟨ib,io + 10,none⟩ = some (.slice rod0 rod1 rod2) ∧ w'.cell? ⟨ib,io + 11,none⟩ = some (.bool rds) ∧ w'.cell? ⟨ib,io + 12,none⟩ = some (.slice rin0 rin1 rin2))
  (exact ⟨cell_later hC y0,cell_later hC y1,cell_later hC z12,cell_later hC x0,cell_later hC x1,cell_later hC x2,cell_later hC x3,cell_later hC x4,cell_later hC x5,cell_later hC x6,cell_later hC x7,cell_later hC x8,cell_later hC x9,cell_later hC x10,cell_later hC x11,cell_later hC x12⟩)
  (first
  | (go_at_call 16; with_reducible refine Calls.mono (HM2.out _ hC) ?_; rintro e z1 ⟨rfl,hb1⟩; replace hC := Below.on hC hb1))
 all_goals
  go_wp2
  go_ret
  exact ⟨rfl,Below.on HG.out hC⟩

end Go.Proofs.YtljmlacnfnmjbaaGreat
