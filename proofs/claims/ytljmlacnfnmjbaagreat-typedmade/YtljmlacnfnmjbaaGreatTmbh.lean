import Derived.Test.YtljmlacnfnmjbaaGreatTmbg
namespace Go.Proofs.YtljmlacnfnmjbaaGreat
open Go.RowKit
set_option linter.unusedVariables false
set_option linter.unusedSimpArgs false

set_option maxRecDepth 100000 in
set_option maxHeartbeats 4000000 in
theorem lists_3 {m : Sq} (hB : SqB m) {w : World} {s : Sv} (hm : IsQ w m s) (hk : m.kind = 3) (hi : s.inn.2.1 ≤ 9223372036854775807) : Calls Tryz.prog 34 #[stV s] w fun en w' => en = .returned (.bool (formP m s.inn.2.1)) ∧ Below w.heap.size w w' := by
 have hw := bal (Below.refl w.heap.size w) (svO s)
 have bq := Bk.new w (svO s)
 generalize hW : w.alloc (svO s) = W at hw bq
 replace hm := hm.later hw
 have z0 := bq.cell 0
 have z1 := bq.cell 1
 have z2 := bq.cell 2
 have z3 := bq.cell 3
 have z4 := bq.cell 4
 have z5 := bq.cell 5
 have z6 := bq.cell 6
 have z7 := bq.cell 7
 have z8 := bq.cell 8
 have z9 := bq.cell 9
 have z10 := bq.cell 10
 have z11 := bq.cell 11
 have z12 := bq.cell 12
 simp only [List.getElem?_toArray,List.getElem?_cons_zero,List.getElem?_cons_succ] at z0 z1 z2 z3 z4 z5 z6 z7 z8 z9 z10 z11 z12
 have HF : Hid (formP m s.inn.2.1 = decide (s.inn.2.1 = 1)) := hid (by unfold formP; simp [hk])
 obtain ⟨k0,-,-,-,-,-,-,hwh,-⟩ := hm
 obtain ⟨l1,l2,l3⟩ := hwh.lens
 obtain ⟨sk,stb,snm,sco,sta,sva,sit,sjn,son,⟨wh0,wh1,wh2⟩,sod,sds,⟨in0,in1,in2⟩⟩ := s
 dsimp only [stV,svO] at *
 obtain rfl : sk = 3 := by rw [k0,hk]
 generalize formP m in1 = T at *
 clear hwh l1 k0 hB bq hk
 by_cases hc : in1 = 1
 ·skip
  subst hc
  have HT : Hid (T = true) := hid (by rw [HF.out]; simp)
  clear HF
  go_enter Tryz.func34,Tryz.ntmps34
  go_upto_region 1 with fail
  go_wp2
  go_ret
  exact ⟨ret_bool HT.out.symm,by first | exact hw | exact hw.drew | exact below_drewN hw _ | exact hw.drew.drew⟩
 ·skip
  have g1 : ¬ (in1 : Int) = 1 := by omega
  have q1 : decide ((in1 : Int) = 1) = false := by simpa using g1
  have HT : Hid (T = false) := hid (by rw [HF.out]; simp [hc])
  clear HF
  go_enter Tryz.func34,Tryz.ntmps34
  go_upto_region 1 with fail
  go_wp2
  go_ret
  exact ⟨ret_bool (by rw [HT.out]; simpa using g1),hw⟩
set_option maxRecDepth 100000 in
set_option maxHeartbeats 4000000 in
theorem lists_4 {m : Sq} (hB : SqB m) {w : World} {s : Sv} (hm : IsQ w m s) (hk : m.kind = 4) (hi : s.inn.2.1 ≤ 9223372036854775807) : Calls Tryz.prog 34 #[stV s] w fun en w' => en = .returned (.bool (formP m s.inn.2.1)) ∧ Below w.heap.size w w' := by
 have hw := bal (Below.refl w.heap.size w) (svO s)
 have bq := Bk.new w (svO s)
 generalize hW : w.alloc (svO s) = W at hw bq
 replace hm := hm.later hw
 have z0 := bq.cell 0
 have z1 := bq.cell 1
 have z2 := bq.cell 2
 have z3 := bq.cell 3
 have z4 := bq.cell 4
 have z5 := bq.cell 5
 have z6 := bq.cell 6
 have z7 := bq.cell 7
 have z8 := bq.cell 8
 have z9 := bq.cell 9
 have z10 := bq.cell 10
 have z11 := bq.cell 11
 have z12 := bq.cell 12
 simp only [List.getElem?_toArray,List.getElem?_cons_zero,List.getElem?_cons_succ] at z0 z1 z2 z3 z4 z5 z6 z7 z8 z9 z10 z11 z12
 have HF : Hid (formP m s.inn.2.1 = decide (s.inn.2.1 = 1)) := hid (by unfold formP; simp [hk])
 obtain ⟨k0,-,-,-,-,-,-,hwh,-⟩ := hm
 obtain ⟨l1,l2,l3⟩ := hwh.lens
 obtain ⟨sk,stb,snm,sco,sta,sva,sit,sjn,son,⟨wh0,wh1,wh2⟩,sod,sds,⟨in0,in1,in2⟩⟩ := s
 dsimp only [stV,svO] at *
 obtain rfl : sk = 4 := by rw [k0,hk]
 generalize formP m in1 = T at *
 clear hwh l1 k0 hB bq hk
 by_cases hc : in1 = 1
 ·skip
  subst hc
  have HT : Hid (T = true) := hid (by rw [HF.out]; simp)
  clear HF
  go_enter Tryz.func34,Tryz.ntmps34
  go_upto_region 1 with fail
  go_wp2
  go_ret
  exact ⟨ret_bool HT.out.symm,by first | exact hw | exact hw.drew | exact below_drewN hw _ | exact hw.drew.drew⟩
 ·skip
  have g1 : ¬ (in1 : Int) = 1 := by omega
  have q1 : decide ((in1 : Int) = 1) = false := by simpa using g1
  have HT : Hid (T = false) := hid (by rw [HF.out]; simp [hc])
  clear HF
  go_enter Tryz.func34,Tryz.ntmps34
  go_upto_region 1 with fail
  go_wp2
  go_ret
  exact ⟨ret_bool (by rw [HT.out]; simpa using g1),hw⟩
set_option maxRecDepth 100000 in
set_option maxHeartbeats 4000000 in
theorem lists_8 {m : Sq} (hB : SqB m) {w : World} {s : Sv} (hm : IsQ w m s) (hk : m.kind = 8) : Calls Tryz.prog 34 #[stV s] w fun en w' => en = .returned (.bool (formP m s.inn.2.1)) ∧ Below w.heap.size w w' := by
 have hw := bal (Below.refl w.heap.size w) (svO s)
 have bq := Bk.new w (svO s)
 generalize hW : w.alloc (svO s) = W at hw bq
 replace hm := hm.later hw
 have z0 := bq.cell 0
 have z1 := bq.cell 1
 have z2 := bq.cell 2
 have z3 := bq.cell 3
 have z4 := bq.cell 4
 have z5 := bq.cell 5
 have z6 := bq.cell 6
 have z7 := bq.cell 7
 have z8 := bq.cell 8
 have z9 := bq.cell 9
 have z10 := bq.cell 10
 have z11 := bq.cell 11
 have z12 := bq.cell 12
 simp only [List.getElem?_toArray,List.getElem?_cons_zero,List.getElem?_cons_succ] at z0 z1 z2 z3 z4 z5 z6 z7 z8 z9 z10 z11 z12
 have HF : Hid (formP m s.inn.2.1 = decide (m.wh.length ≤ 1)) := hid (by unfold formP; simp [hk])
 obtain ⟨k0,-,-,-,-,-,-,hwh,-⟩ := hm
 obtain ⟨l1,l2,l3⟩ := hwh.lens
 obtain ⟨sk,stb,snm,sco,sta,sva,sit,sjn,son,⟨wh0,wh1,wh2⟩,sod,sds,⟨in0,in1,in2⟩⟩ := s
 dsimp only [stV,svO] at *
 rw [l1] at HF
 obtain rfl : sk = 8 := by rw [k0,hk]
 generalize formP m in1 = T at *
 clear hwh l1 k0 hB bq hk
 by_cases hc : wh1 ≤ 1
 ·skip
  have g1 : (wh1 : Int) ≤ 1 := by omega
  have HT : Hid (T = true) := hid (by rw [HF.out]; simp [hc])
  clear HF
  go_enter Tryz.func34,Tryz.ntmps34
  go_upto_region 1 with fail
  go_wp2
  go_ret
  exact ⟨ret_bool HT.out.symm,by first | exact hw | exact hw.drew | exact below_drewN hw _ | exact hw.drew.drew⟩
 ·skip
  have g1 : ¬ (wh1 : Int) ≤ 1 := by omega
  have q1 : decide ((wh1 : Int) ≤ 1) = false := by simpa using g1
  have HT : Hid (T = false) := hid (by rw [HF.out]; simp [hc])
  clear HF
  go_enter Tryz.func34,Tryz.ntmps34
  go_upto_region 1 with fail
  go_wp2
  go_ret
  exact ⟨ret_bool HT.out.symm,by first | exact hw | exact hw.drew | exact below_drewN hw _ | exact hw.drew.drew⟩
set_option maxRecDepth 100000 in
set_option maxHeartbeats 4000000 in
theorem lists_1 {m : Sq} (hB : SqB m) {w : World} {s : Sv} (hm : IsQ w m s) (hk : m.kind = 1) : Calls Tryz.prog 34 #[stV s] w fun en w' => en = .returned (.bool (formP m s.inn.2.1)) ∧ Below w.heap.size w w' := by
 have hw := bal (Below.refl w.heap.size w) (svO s)
 have bq := Bk.new w (svO s)
 generalize hW : w.alloc (svO s) = W at hw bq
 replace hm := hm.later hw
 have z0 := bq.cell 0
 have z1 := bq.cell 1
 have z2 := bq.cell 2
 have z3 := bq.cell 3
 have z4 := bq.cell 4
 have z5 := bq.cell 5
 have z6 := bq.cell 6
 have z7 := bq.cell 7
 have z8 := bq.cell 8
 have z9 := bq.cell 9
 have z10 := bq.cell 10
 have z11 := bq.cell 11
 have z12 := bq.cell 12
 simp only [List.getElem?_toArray,List.getElem?_cons_zero,List.getElem?_cons_succ] at z0 z1 z2 z3 z4 z5 z6 z7 z8 z9 z10 z11 z12
 have HF : Hid (formP m s.inn.2.1 = true) := hid (by unfold formP; simp [hk])
 obtain ⟨k0,-,-,-,-,-,-,hwh,-⟩ := hm
 obtain ⟨l1,l2,l3⟩ := hwh.lens
 obtain ⟨sk,stb,snm,sco,sta,sva,sit,sjn,son,⟨wh0,wh1,wh2⟩,sod,sds,⟨in0,in1,in2⟩⟩ := s
 dsimp only [stV,svO] at *
 obtain rfl : sk = 1 := by rw [k0,hk]
 generalize formP m in1 = T at *
 clear hwh l1 k0 hB bq hk
 have HT : Hid (T = true) := hid (by rw [HF.out])
 clear HF
 go_enter Tryz.func34,Tryz.ntmps34
 go_upto_region 1 with fail
 go_wp2
 go_ret
 exact ⟨ret_bool HT.out.symm,by first | exact hw | exact hw.drew | exact below_drewN hw _ | exact hw.drew.drew⟩
set_option maxRecDepth 100000 in
set_option maxHeartbeats 4000000 in
theorem lists_2 {m : Sq} (hB : SqB m) {w : World} {s : Sv} (hm : IsQ w m s) (hk : m.kind = 2) : Calls Tryz.prog 34 #[stV s] w fun en w' => en = .returned (.bool (formP m s.inn.2.1)) ∧ Below w.heap.size w w' := by
 have hw := bal (Below.refl w.heap.size w) (svO s)
 have bq := Bk.new w (svO s)
 generalize hW : w.alloc (svO s) = W at hw bq
 replace hm := hm.later hw
 have z0 := bq.cell 0
 have z1 := bq.cell 1
 have z2 := bq.cell 2
 have z3 := bq.cell 3
 have z4 := bq.cell 4
 have z5 := bq.cell 5
 have z6 := bq.cell 6
 have z7 := bq.cell 7
 have z8 := bq.cell 8
 have z9 := bq.cell 9
 have z10 := bq.cell 10
 have z11 := bq.cell 11
 have z12 := bq.cell 12
 simp only [List.getElem?_toArray,List.getElem?_cons_zero,List.getElem?_cons_succ] at z0 z1 z2 z3 z4 z5 z6 z7 z8 z9 z10 z11 z12
 have HF : Hid (formP m s.inn.2.1 = true) := hid (by unfold formP; simp [hk])
 obtain ⟨k0,-,-,-,-,-,-,hwh,-⟩ := hm
 obtain ⟨l1,l2,l3⟩ := hwh.lens
 obtain ⟨sk,stb,snm,sco,sta,sva,sit,sjn,son,⟨wh0,wh1,wh2⟩,sod,sds,⟨in0,in1,in2⟩⟩ := s
 dsimp only [stV,svO] at *
 obtain rfl : sk = 2 := by rw [k0,hk]
 generalize formP m in1 = T at *
 clear hwh l1 k0 hB bq hk
 have HT : Hid (T = true) := hid (by rw [HF.out])
 clear HF
 go_enter Tryz.func34,Tryz.ntmps34
 go_upto_region 1 with fail
 go_wp2
 go_ret
 exact ⟨ret_bool HT.out.symm,by first | exact hw | exact hw.drew | exact below_drewN hw _ | exact hw.drew.drew⟩
set_option maxRecDepth 100000 in
set_option maxHeartbeats 4000000 in
theorem lists_5 {m : Sq} (hB : SqB m) {w : World} {s : Sv} (hm : IsQ w m s) (hk : m.kind = 5) : Calls Tryz.prog 34 #[stV s] w fun en w' => en = .returned (.bool (formP m s.inn.2.1)) ∧ Below w.heap.size w w' := by
 have hw := bal (Below.refl w.heap.size w) (svO s)
 have bq := Bk.new w (svO s)
 generalize hW : w.alloc (svO s) = W at hw bq
 replace hm := hm.later hw
 have z0 := bq.cell 0
 have z1 := bq.cell 1
 have z2 := bq.cell 2
 have z3 := bq.cell 3
 have z4 := bq.cell 4
 have z5 := bq.cell 5
 have z6 := bq.cell 6
 have z7 := bq.cell 7
 have z8 := bq.cell 8
 have z9 := bq.cell 9
 have z10 := bq.cell 10
 have z11 := bq.cell 11
 have z12 := bq.cell 12
 simp only [List.getElem?_toArray,List.getElem?_cons_zero,List.getElem?_cons_succ] at z0 z1 z2 z3 z4 z5 z6 z7 z8 z9 z10 z11 z12
 have HF : Hid (formP m s.inn.2.1 = true) := hid (by unfold formP; simp [hk])
 obtain ⟨k0,-,-,-,-,-,-,hwh,-⟩ := hm
 obtain ⟨l1,l2,l3⟩ := hwh.lens
 obtain ⟨sk,stb,snm,sco,sta,sva,sit,sjn,son,⟨wh0,wh1,wh2⟩,sod,sds,⟨in0,in1,in2⟩⟩ := s
 dsimp only [stV,svO] at *
 obtain rfl : sk = 5 := by rw [k0,hk]
 generalize formP m in1 = T at *
 clear hwh l1 k0 hB bq hk
 have HT : Hid (T = true) := hid (by rw [HF.out])
 clear HF
 go_enter Tryz.func34,Tryz.ntmps34
 go_upto_region 1 with fail
 go_wp2
 go_ret
 exact ⟨ret_bool HT.out.symm,by first | exact hw | exact hw.drew | exact below_drewN hw _ | exact hw.drew.drew⟩
set_option maxRecDepth 100000 in
set_option maxHeartbeats 4000000 in
theorem lists_9 {m : Sq} (hB : SqB m) {w : World} {s : Sv} (hm : IsQ w m s) (hk : m.kind = 9) : Calls Tryz.prog 34 #[stV s] w fun en w' => en = .returned (.bool (formP m s.inn.2.1)) ∧ Below w.heap.size w w' := by
 have hw := bal (Below.refl w.heap.size w) (svO s)
 have bq := Bk.new w (svO s)
 generalize hW : w.alloc (svO s) = W at hw bq
 replace hm := hm.later hw
 have z0 := bq.cell 0
 have z1 := bq.cell 1
 have z2 := bq.cell 2
 have z3 := bq.cell 3
 have z4 := bq.cell 4
 have z5 := bq.cell 5
 have z6 := bq.cell 6
 have z7 := bq.cell 7
 have z8 := bq.cell 8
 have z9 := bq.cell 9
 have z10 := bq.cell 10
 have z11 := bq.cell 11
 have z12 := bq.cell 12
 simp only [List.getElem?_toArray,List.getElem?_cons_zero,List.getElem?_cons_succ] at z0 z1 z2 z3 z4 z5 z6 z7 z8 z9 z10 z11 z12
 have HF : Hid (formP m s.inn.2.1 = true) := hid (by unfold formP; simp [hk])
 obtain ⟨k0,-,-,-,-,-,-,hwh,-⟩ := hm
 obtain ⟨l1,l2,l3⟩ := hwh.lens
 obtain ⟨sk,stb,snm,sco,sta,sva,sit,sjn,son,⟨wh0,wh1,wh2⟩,sod,sds,⟨in0,in1,in2⟩⟩ := s
 dsimp only [stV,svO] at *
 obtain rfl : sk = 9 := by rw [k0,hk]
 generalize formP m in1 = T at *
 clear hwh l1 k0 hB bq hk
 have HT : Hid (T = true) := hid (by rw [HF.out])
 clear HF
 go_enter Tryz.func34,Tryz.ntmps34
 go_upto_region 1 with fail
 go_wp2
 go_ret
 exact ⟨ret_bool HT.out.symm,by first | exact hw | exact hw.drew | exact below_drewN hw _ | exact hw.drew.drew⟩
set_option maxRecDepth 100000 in
set_option maxHeartbeats 4000000 in
theorem lists_10 {m : Sq} (hB : SqB m) {w : World} {s : Sv} (hm : IsQ w m s) (hk : m.kind = 10) : Calls Tryz.prog 34 #[stV s] w fun en w' => en = .returned (.bool (formP m s.inn.2.1)) ∧ Below w.heap.size w w' := by
 have hw := bal (Below.refl w.heap.size w) (svO s)
 have bq := Bk.new w (svO s)
 generalize hW : w.alloc (svO s) = W at hw bq
 replace hm := hm.later hw
 have z0 := bq.cell 0
 have z1 := bq.cell 1
 have z2 := bq.cell 2
 have z3 := bq.cell 3
 have z4 := bq.cell 4
 have z5 := bq.cell 5
 have z6 := bq.cell 6
 have z7 := bq.cell 7
 have z8 := bq.cell 8
 have z9 := bq.cell 9
 have z10 := bq.cell 10
 have z11 := bq.cell 11
 have z12 := bq.cell 12
 simp only [List.getElem?_toArray,List.getElem?_cons_zero,List.getElem?_cons_succ] at z0 z1 z2 z3 z4 z5 z6 z7 z8 z9 z10 z11 z12
 have HF : Hid (formP m s.inn.2.1 = true) := hid (by unfold formP; simp [hk])
 obtain ⟨k0,-,-,-,-,-,-,hwh,-⟩ := hm
 obtain ⟨l1,l2,l3⟩ := hwh.lens
 obtain ⟨sk,stb,snm,sco,sta,sva,sit,sjn,son,⟨wh0,wh1,wh2⟩,sod,sds,⟨in0,in1,in2⟩⟩ := s
 dsimp only [stV,svO] at *
 obtain rfl : sk = 10 := by rw [k0,hk]
 generalize formP m in1 = T at *
 clear hwh l1 k0 hB bq hk
 have HT : Hid (T = true) := hid (by rw [HF.out])
 clear HF
 go_enter Tryz.func34,Tryz.ntmps34
 go_upto_region 1 with fail
 go_wp2
 go_ret
 exact ⟨ret_bool HT.out.symm,by first | exact hw | exact hw.drew | exact below_drewN hw _ | exact hw.drew.drew⟩
set_option maxRecDepth 100000 in
set_option maxHeartbeats 4000000 in
theorem lists_11 {m : Sq} (hB : SqB m) {w : World} {s : Sv} (hm : IsQ w m s) (hk : m.kind = 11) : Calls Tryz.prog 34 #[stV s] w fun en w' => en = .returned (.bool (formP m s.inn.2.1)) ∧ Below w.heap.size w w' := by
 have hw := bal (Below.refl w.heap.size w) (svO s)
 have bq := Bk.new w (svO s)
 generalize hW : w.alloc (svO s) = W at hw bq
 replace hm := hm.later hw
 have z0 := bq.cell 0
 have z1 := bq.cell 1
 have z2 := bq.cell 2
 have z3 := bq.cell 3
 have z4 := bq.cell 4
 have z5 := bq.cell 5
 have z6 := bq.cell 6
 have z7 := bq.cell 7
 have z8 := bq.cell 8
 have z9 := bq.cell 9
 have z10 := bq.cell 10
 have z11 := bq.cell 11
 have z12 := bq.cell 12
 simp only [List.getElem?_toArray,List.getElem?_cons_zero,List.getElem?_cons_succ] at z0 z1 z2 z3 z4 z5 z6 z7 z8 z9 z10 z11 z12
 have HF : Hid (formP m s.inn.2.1 = true) := hid (by unfold formP; simp [hk])
 obtain ⟨k0,-,-,-,-,-,-,hwh,-⟩ := hm
 obtain ⟨l1,l2,l3⟩ := hwh.lens
 obtain ⟨sk,stb,snm,sco,sta,sva,sit,sjn,son,⟨wh0,wh1,wh2⟩,sod,sds,⟨in0,in1,in2⟩⟩ := s
 dsimp only [stV,svO] at *
 obtain rfl : sk = 11 := by rw [k0,hk]
 generalize formP m in1 = T at *
 clear hwh l1 k0 hB bq hk
 have HT : Hid (T = true) := hid (by rw [HF.out])
 clear HF
 go_enter Tryz.func34,Tryz.ntmps34
 go_upto_region 1 with fail
 go_wp2
 go_ret
 exact ⟨ret_bool HT.out.symm,by first | exact hw | exact hw.drew | exact below_drewN hw _ | exact hw.drew.drew⟩
set_option maxRecDepth 100000 in
set_option maxHeartbeats 4000000 in
theorem lists_12 {m : Sq} (hB : SqB m) {w : World} {s : Sv} (hm : IsQ w m s) (hk : m.kind = 12) : Calls Tryz.prog 34 #[stV s] w fun en w' => en = .returned (.bool (formP m s.inn.2.1)) ∧ Below w.heap.size w w' := by
 have hw := bal (Below.refl w.heap.size w) (svO s)
 have bq := Bk.new w (svO s)
 generalize hW : w.alloc (svO s) = W at hw bq
 replace hm := hm.later hw
 have z0 := bq.cell 0
 have z1 := bq.cell 1
 have z2 := bq.cell 2
 have z3 := bq.cell 3
 have z4 := bq.cell 4
 have z5 := bq.cell 5
 have z6 := bq.cell 6
 have z7 := bq.cell 7
 have z8 := bq.cell 8
 have z9 := bq.cell 9
 have z10 := bq.cell 10
 have z11 := bq.cell 11
 have z12 := bq.cell 12
 simp only [List.getElem?_toArray,List.getElem?_cons_zero,List.getElem?_cons_succ] at z0 z1 z2 z3 z4 z5 z6 z7 z8 z9 z10 z11 z12
 have HF : Hid (formP m s.inn.2.1 = true) := hid (by unfold formP; simp [hk])
 obtain ⟨k0,-,-,-,-,-,-,hwh,-⟩ := hm
 obtain ⟨l1,l2,l3⟩ := hwh.lens
 obtain ⟨sk,stb,snm,sco,sta,sva,sit,sjn,son,⟨wh0,wh1,wh2⟩,sod,sds,⟨in0,in1,in2⟩⟩ := s
 dsimp only [stV,svO] at *
 obtain rfl : sk = 12 := by rw [k0,hk]
 generalize formP m in1 = T at *
 clear hwh l1 k0 hB bq hk
 have HT : Hid (T = true) := hid (by rw [HF.out])
 clear HF
 go_enter Tryz.func34,Tryz.ntmps34
 go_upto_region 1 with fail
 go_wp2
 go_ret
 exact ⟨ret_bool HT.out.symm,by first | exact hw | exact hw.drew | exact below_drewN hw _ | exact hw.drew.drew⟩
set_option maxRecDepth 100000 in
set_option maxHeartbeats 4000000 in
theorem lists_13 {m : Sq} (hB : SqB m) {w : World} {s : Sv} (hm : IsQ w m s) (hk : m.kind = 13) : Calls Tryz.prog 34 #[stV s] w fun en w' => en = .returned (.bool (formP m s.inn.2.1)) ∧ Below w.heap.size w w' := by
 have hw := bal (Below.refl w.heap.size w) (svO s)
 have bq := Bk.new w (svO s)
 generalize hW : w.alloc (svO s) = W at hw bq
 replace hm := hm.later hw
 have z0 := bq.cell 0
 have z1 := bq.cell 1
 have z2 := bq.cell 2
 have z3 := bq.cell 3
 have z4 := bq.cell 4
 have z5 := bq.cell 5
 have z6 := bq.cell 6
 have z7 := bq.cell 7
 have z8 := bq.cell 8
 have z9 := bq.cell 9
 have z10 := bq.cell 10
 have z11 := bq.cell 11
 have z12 := bq.cell 12
 simp only [List.getElem?_toArray,List.getElem?_cons_zero,List.getElem?_cons_succ] at z0 z1 z2 z3 z4 z5 z6 z7 z8 z9 z10 z11 z12
 have HF : Hid (formP m s.inn.2.1 = true) := hid (by unfold formP; simp [hk])
 obtain ⟨k0,-,-,-,-,-,-,hwh,-⟩ := hm
 obtain ⟨l1,l2,l3⟩ := hwh.lens
 obtain ⟨sk,stb,snm,sco,sta,sva,sit,sjn,son,⟨wh0,wh1,wh2⟩,sod,sds,⟨in0,in1,in2⟩⟩ := s
 dsimp only [stV,svO] at *
 obtain rfl : sk = 13 := by rw [k0,hk]
 generalize formP m in1 = T at *
 clear hwh l1 k0 hB bq hk
 have HT : Hid (T = true) := hid (by rw [HF.out])
 clear HF
 go_enter Tryz.func34,Tryz.ntmps34
 go_upto_region 1 with fail
 go_wp2
 go_ret
 exact ⟨ret_bool HT.out.symm,by first | exact hw | exact hw.drew | exact below_drewN hw _ | exact hw.drew.drew⟩

set_option maxRecDepth 100000 in
set_option maxHeartbeats 4000000 in
theorem lists_7 {m : Sq} (hB : SqB m) {w : World} {s : Sv} (hm : IsQ w m s) (hk : m.kind = 7) : Calls Tryz.prog 34 #[stV s] w fun en w' => en = .returned (.bool (formP m s.inn.2.1)) ∧ Below w.heap.size w w' := by
 have hw := bal (Below.refl w.heap.size w) (svO s)
 have bq := Bk.new w (svO s)
 generalize hW : w.alloc (svO s) = W at hw bq
 replace hm := hm.later hw
 have z0 := bq.cell 0
 have z1 := bq.cell 1
 have z2 := bq.cell 2
 have z3 := bq.cell 3
 have z4 := bq.cell 4
 have z5 := bq.cell 5
 have z6 := bq.cell 6
 have z7 := bq.cell 7
 have z8 := bq.cell 8
 have z9 := bq.cell 9
 have z10 := bq.cell 10
 have z11 := bq.cell 11
 have z12 := bq.cell 12
 simp only [List.getElem?_toArray,List.getElem?_cons_zero,List.getElem?_cons_succ] at z0 z1 z2 z3 z4 z5 z6 z7 z8 z9 z10 z11 z12
 have HF : Hid (formP m s.inn.2.1 = (decide (m.values.length = 1) && decide (m.wh.length ≤ 1))) := hid (by unfold formP; simp [hk])
 obtain ⟨k0,-,-,-,hva,-,-,hwh,-⟩ := hm
 obtain ⟨l1,l2,l3⟩ := hwh.lens
 obtain ⟨r1,r2,r3⟩ := hva.lens
 obtain ⟨sk,stb,snm,sco,sta,⟨va0,va1,va2⟩,sit,sjn,son,⟨wh0,wh1,wh2⟩,sod,sds,sinn⟩ := s
 dsimp only [stV,svO] at *
 rw [l1,r1] at HF
 obtain rfl : sk = 7 := by rw [k0,hk]
 generalize formP m sinn.2.1 = T at *
 clear hwh hva l1 r1 k0 hB bq hk
 by_cases h1 : va1 = 1
 ·subst h1
  by_cases h2 : wh1 ≤ 1
  ·have g2 : (wh1 : Int) ≤ 1 := by omega
   have HT : Hid (T = true) := hid (by rw [HF.out]; simp [h2])
   clear HF
   go_enter Tryz.func34,Tryz.ntmps34
   go_upto_region 1 with fail
   go_wp2
   go_ret
   exact ⟨ret_bool HT.out.symm,by first | exact hw | exact hw.drew | exact below_drewN hw _ | exact hw.drew.drew⟩
  ·have g2 : ¬ (wh1 : Int) ≤ 1 := by omega
   have q2 : decide ((wh1 : Int) ≤ 1) = false := by simpa using g2
   have HT : Hid (T = false) := hid (by rw [HF.out]; simp [h2])
   clear HF
   go_enter Tryz.func34,Tryz.ntmps34
   go_upto_region 1 with fail
   go_wp2
   go_ret
   exact ⟨ret_bool HT.out.symm,by first | exact hw | exact hw.drew | exact below_drewN hw _ | exact hw.drew.drew⟩
 ·have g1 : ¬ (va1 : Int) = 1 := by omega
  have q1 : decide ((va1 : Int) = 1) = false := by simpa using g1
  have HT : Hid (T = false) := hid (by rw [HF.out]; simp [h1])
  clear HF
  go_enter Tryz.func34,Tryz.ntmps34
  go_upto_region 1 with fail
  go_wp2
  go_ret
  exact ⟨ret_bool HT.out.symm,by first | exact hw | exact hw.drew | exact below_drewN hw _ | exact hw.drew.drew⟩

set_option maxRecDepth 100000 in
set_option maxHeartbeats 4000000 in
theorem lists_6 {m : Sq} (hB : SqB m) {w : World} {s : Sv} (hm : IsQ w m s) (hk : m.kind = 6) : Calls Tryz.prog 34 #[stV s] w fun en w' => en = .returned (.bool (formP m s.inn.2.1)) ∧ Below w.heap.size w w' := by
 have hw := bal (Below.refl w.heap.size w) (svO s)
 have bq := Bk.new w (svO s)
 generalize hW : w.alloc (svO s) = W at hw bq
 replace hm := hm.later hw
 have z0 := bq.cell 0
 have z1 := bq.cell 1
 have z2 := bq.cell 2
 have z3 := bq.cell 3
 have z4 := bq.cell 4
 have z5 := bq.cell 5
 have z6 := bq.cell 6
 have z7 := bq.cell 7
 have z8 := bq.cell 8
 have z9 := bq.cell 9
 have z10 := bq.cell 10
 have z11 := bq.cell 11
 have z12 := bq.cell 12
 simp only [List.getElem?_toArray,List.getElem?_cons_zero,List.getElem?_cons_succ] at z0 z1 z2 z3 z4 z5 z6 z7 z8 z9 z10 z11 z12
 have HA : Hid (∀ w',Below W.heap.size W w' → _) := hid fun w' hb => rcolumns_any (hm.later hb).on
 have HC : Hid (∀ w',Below W.heap.size W w' → _) := hid fun w' hb => rcolumns_any (hm.later hb).od
 have HF : Hid (formP m s.inn.2.1 = (formOnP m && decide (m.wh.length ≤ 1) && decide (m.order.length ≤ 1) && m.order.all colP1)) := hid (by unfold formP; simp [hk])
 have HOn : Hid (formOnP m = (decide (m.on.length = if m.join = ⟨#[]⟩ then 0 else 2) && m.on.all colP1)) := hid (by
  unfold formOnP
  by_cases hj : m.join = ⟨#[]⟩
  ·rw [if_pos hj,if_pos hj]
   by_cases h0 : m.on.length = 0
   ·rw [List.length_eq_zero_iff] at h0; rw [h0]; rfl
   ·simp [h0]
  ·rw [if_neg hj,if_neg hj])
 obtain ⟨k0,-,-,jn,-,-,hon,hwh,hod⟩ := hm
 obtain ⟨l1,l2,l3⟩ := hwh.lens
 obtain ⟨r1,r2,r3⟩ := hod.lens
 obtain ⟨n1,n2,n3⟩ := hon.lens
 obtain ⟨sk,stb,snm,sco,sta,sva,sit,sjn,⟨on0,on1,on2⟩,⟨wh0,wh1,wh2⟩,⟨od0,od1,od2⟩,sds,sinn⟩ := s
 dsimp only [stV,svO] at *
 rw [l1,r1] at HF
 rw [n1,← jn] at HOn
 obtain rfl : sk = 6 := by rw [k0,hk]
 generalize formP m sinn.2.1 = T at *
 generalize m.order.all colP1 = A at *
 generalize m.on.all colP1 = C at *
 generalize formOnP m = O at *
 have es := empty_str sjn
 clear hwh hod hon l1 r1 n1 k0 hB bq hk jn
 by_cases hj : sjn = ⟨#[]⟩
 ·have hb : sjn.toList.isEmpty = true := by rw [es]; simpa using hj
  clear es
  by_cases h0 : on1 = 0
  ·have g0 : (on1 : Int) = 0 := by omega
   by_cases h1 : wh1 ≤ 1
   ·have g1 : (wh1 : Int) ≤ 1 := by omega
    by_cases h2 : od1 ≤ 1
    ·have g2 : (od1 : Int) ≤ 1 := by omega
     have HT : Hid (T = (C && A)) := hid (by rw [HF.out,HOn.out]; simp [h0,h1,h2,hj])
     subst h0
     have HA1 : Hid _ := hid (HA.out W (Below.refl _ _))
     clear HF HOn hj
     go_enter Tryz.func34,Tryz.ntmps34
     go_upto_region 1 with fail
     go_wp2_with fail
     refine Calls.mono HA1.out ?_
     rintro e w4 ⟨rfl,hb4⟩
     have y10 := cell_later hb4 z10
     have HC1 : Hid _ := hid (HC.out w4 hb4)
     have hB4 := Below.on hw hb4
     clear HA HC HA1 z0 z1 z2 z3 z4 z5 z6 z7 z8 z9 z10 z11 z12
     cases C with
     | false =>
      go_wp2
      go_ret
      exact ⟨ret_bool (by rw [HT.out]; rfl),hB4⟩
     | true =>
      go_wp2_with fail
      refine Calls.mono HC1.out ?_
      rintro e w5 ⟨rfl,hb5⟩
      clear HC1
      go_wp2
      go_ret
      exact ⟨ret_bool (by rw [HT.out]; rfl),Below.on hB4 hb5⟩
    ·skip
     have g2 : ¬ (od1 : Int) ≤ 1 := by omega
     have q2 : decide ((od1 : Int) ≤ 1) = false := by simpa using g2
     have HT : Hid (T = false) := hid (by rw [HF.out,HOn.out]; simp [h2,hj])
     subst h0
     clear HF HOn HA HC hj
     go_enter Tryz.func34,Tryz.ntmps34
     go_upto_region 1 with fail
     go_wp2
     go_ret
     exact ⟨ret_bool HT.out.symm,by first | exact hw | exact hw.drew | exact below_drewN hw _ | exact hw.drew.drew⟩
   ·skip
    have g1 : ¬ (wh1 : Int) ≤ 1 := by omega
    have q1 : decide ((wh1 : Int) ≤ 1) = false := by simpa using g1
    have HT : Hid (T = false) := hid (by rw [HF.out,HOn.out]; simp [h1,hj])
    subst h0
    clear HF HOn HA HC hj
    go_enter Tryz.func34,Tryz.ntmps34
    go_upto_region 1 with fail
    go_wp2
    go_ret
    exact ⟨ret_bool HT.out.symm,by first | exact hw | exact hw.drew | exact below_drewN hw _ | exact hw.drew.drew⟩
  ·skip
   have g0 : ¬ (on1 : Int) = 0 := by omega
   have q0 : decide ((on1 : Int) = 0) = false := by simpa using g0
   have q0' : ((on1 : Int) == 0) = false := by simpa using g0
   have HT : Hid (T = false) := hid (by rw [HF.out,HOn.out]; simp [h0,hj])
   clear HF HOn HA HC hj
   go_enter Tryz.func34,Tryz.ntmps34
   go_upto_region 1 with fail
   go_wp2
   go_ret
   exact ⟨ret_bool HT.out.symm,by first | exact hw | exact hw.drew | exact below_drewN hw _ | exact hw.drew.drew⟩
 ·have hb : sjn.toList.isEmpty = false := by rw [es]; simpa using hj
  clear es
  by_cases h0 : on1 = 2
  ·have g0 : (on1 : Int) = 2 := by omega
   by_cases h1 : wh1 ≤ 1
   ·have g1 : (wh1 : Int) ≤ 1 := by omega
    by_cases h2 : od1 ≤ 1
    ·have g2 : (od1 : Int) ≤ 1 := by omega
     have HT : Hid (T = (C && A)) := hid (by rw [HF.out,HOn.out]; simp [h0,h1,h2,hj])
     subst h0
     have HA1 : Hid _ := hid (HA.out W (Below.refl _ _))
     clear HF HOn hj
     go_enter Tryz.func34,Tryz.ntmps34
     go_upto_region 1 with fail
     go_wp2_with fail
     refine Calls.mono HA1.out ?_
     rintro e w4 ⟨rfl,hb4⟩
     have y10 := cell_later hb4 z10
     have HC1 : Hid _ := hid (HC.out w4 hb4)
     have hB4 := Below.on hw hb4
     clear HA HC HA1 z0 z1 z2 z3 z4 z5 z6 z7 z8 z9 z10 z11 z12
     cases C with
     | false =>
      go_wp2
      go_ret
      exact ⟨ret_bool (by rw [HT.out]; rfl),hB4⟩
     | true =>
      go_wp2_with fail
      refine Calls.mono HC1.out ?_
      rintro e w5 ⟨rfl,hb5⟩
      clear HC1
      go_wp2
      go_ret
      exact ⟨ret_bool (by rw [HT.out]; rfl),Below.on hB4 hb5⟩
    ·skip
     have g2 : ¬ (od1 : Int) ≤ 1 := by omega
     have q2 : decide ((od1 : Int) ≤ 1) = false := by simpa using g2
     have HT : Hid (T = false) := hid (by rw [HF.out,HOn.out]; simp [h2,hj])
     subst h0
     clear HF HOn HA HC hj
     go_enter Tryz.func34,Tryz.ntmps34
     go_upto_region 1 with fail
     go_wp2
     go_ret
     exact ⟨ret_bool HT.out.symm,by first | exact hw | exact hw.drew | exact below_drewN hw _ | exact hw.drew.drew⟩
   ·skip
    have g1 : ¬ (wh1 : Int) ≤ 1 := by omega
    have q1 : decide ((wh1 : Int) ≤ 1) = false := by simpa using g1
    have HT : Hid (T = false) := hid (by rw [HF.out,HOn.out]; simp [h1,hj])
    subst h0
    clear HF HOn HA HC hj
    go_enter Tryz.func34,Tryz.ntmps34
    go_upto_region 1 with fail
    go_wp2
    go_ret
    exact ⟨ret_bool HT.out.symm,by first | exact hw | exact hw.drew | exact below_drewN hw _ | exact hw.drew.drew⟩
  ·skip
   have g0 : ¬ (on1 : Int) = 2 := by omega
   have q0 : decide ((on1 : Int) = 2) = false := by simpa using g0
   have q0' : ((on1 : Int) == 2) = false := by simpa using g0
   have HT : Hid (T = false) := hid (by rw [HF.out,HOn.out]; simp [h0,hj])
   clear HF HOn HA HC hj
   go_enter Tryz.func34,Tryz.ntmps34
   go_upto_region 1 with fail
   go_wp2
   go_ret
   exact ⟨ret_bool HT.out.symm,by first | exact hw | exact hw.drew | exact below_drewN hw _ | exact hw.drew.drew⟩

end Go.Proofs.YtljmlacnfnmjbaaGreat
