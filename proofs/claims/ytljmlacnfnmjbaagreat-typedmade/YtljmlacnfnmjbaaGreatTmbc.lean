import Derived.Test.YtljmlacnfnmjbaaGreatTmay
namespace Go.Proofs.YtljmlacnfnmjbaaGreat
open Go.RowKit
set_option linter.unusedVariables false
set_option linter.unusedSimpArgs false

set_option maxRecDepth 100000 in
set_option maxHeartbeats 4000000 in
theorem formed_3 {m : Sq} (hB : SqB m) {w : World} {s : Sv} (hm : IsQ w m s) (hk : m.kind = 3) (hi : s.inn.2.1 ≤ 9223372036854775807) : Calls Tryz.prog 28 #[stV s] w fun en w' => en = .returned (.bool (formP m s.inn.2.1)) ∧ Below w.heap.size w w' := by
 have hw := bal (Below.refl w.heap.size w) (svO s)
 have bq := Bk.new w (svO s)
 generalize hW : w.alloc (svO s) = W at hw bq
 replace hm := hm.later hw
 have z0 := bq.cell 0
 have z1 := bq.cell 1
 have z2 := bq.cell 2
 have z3 := bq.cell 3
 have z4 := bq.cell 4
 have z5 := bq.cell 5
 have z6 := bq.cell 6
 have z7 := bq.cell 7
 have z8 := bq.cell 8
 have z9 := bq.cell 9
 have z10 := bq.cell 10
 have z11 := bq.cell 11
 have z12 := bq.cell 12
 simp only [List.getElem?_toArray,List.getElem?_cons_zero,List.getElem?_cons_succ] at z0 z1 z2 z3 z4 z5 z6 z7 z8 z9 z10 z11 z12
 have HF : Hid (formP m s.inn.2.1 = decide (s.inn.2.1 = 1)) := hid (by unfold formP; simp [hk])
 obtain ⟨k0,-,-,-,-,-,-,hwh,-⟩ := hm
 obtain ⟨l1,l2,l3⟩ := hwh.lens
 obtain ⟨sk,stb,snm,sco,sta,sva,sit,sjn,son,⟨wh0,wh1,wh2⟩,sod,sds,⟨in0,in1,in2⟩⟩ := s
 dsimp only [stV,svO] at *
 obtain rfl : sk = 3 := by rw [k0,hk]
 generalize formP m in1 = T at *
 clear hwh l1 k0 hB bq hk
 by_cases hc : in1 = 1
 ·skip
  subst hc
  have HT : Hid (T = true) := hid (by rw [HF.out]; simp)
  clear HF
  go_enter Tryz.func28,Tryz.ntmps28
  go_upto_region 1 with fail
  go_wp2
  go_ret
  exact ⟨ret_bool HT.out.symm,hw⟩
 ·skip
  have g1 : ¬ (in1 : Int) = 1 := by omega
  have q1 : decide ((in1 : Int) = 1) = false := by simpa using g1
  have HT : Hid (T = false) := hid (by rw [HF.out]; simp [hc])
  clear HF
  go_enter Tryz.func28,Tryz.ntmps28
  go_upto_region 1 with fail
  go_wp2
  go_ret
  exact ⟨ret_bool (by rw [HT.out]; simpa using g1),hw⟩
set_option maxRecDepth 100000 in
set_option maxHeartbeats 4000000 in
theorem formed_4 {m : Sq} (hB : SqB m) {w : World} {s : Sv} (hm : IsQ w m s) (hk : m.kind = 4) (hi : s.inn.2.1 ≤ 9223372036854775807) : Calls Tryz.prog 28 #[stV s] w fun en w' => en = .returned (.bool (formP m s.inn.2.1)) ∧ Below w.heap.size w w' := by
 have hw := bal (Below.refl w.heap.size w) (svO s)
 have bq := Bk.new w (svO s)
 generalize hW : w.alloc (svO s) = W at hw bq
 replace hm := hm.later hw
 have z0 := bq.cell 0
 have z1 := bq.cell 1
 have z2 := bq.cell 2
 have z3 := bq.cell 3
 have z4 := bq.cell 4
 have z5 := bq.cell 5
 have z6 := bq.cell 6
 have z7 := bq.cell 7
 have z8 := bq.cell 8
 have z9 := bq.cell 9
 have z10 := bq.cell 10
 have z11 := bq.cell 11
 have z12 := bq.cell 12
 simp only [List.getElem?_toArray,List.getElem?_cons_zero,List.getElem?_cons_succ] at z0 z1 z2 z3 z4 z5 z6 z7 z8 z9 z10 z11 z12
 have HF : Hid (formP m s.inn.2.1 = decide (s.inn.2.1 = 1)) := hid (by unfold formP; simp [hk])
 obtain ⟨k0,-,-,-,-,-,-,hwh,-⟩ := hm
 obtain ⟨l1,l2,l3⟩ := hwh.lens
 obtain ⟨sk,stb,snm,sco,sta,sva,sit,sjn,son,⟨wh0,wh1,wh2⟩,sod,sds,⟨in0,in1,in2⟩⟩ := s
 dsimp only [stV,svO] at *
 obtain rfl : sk = 4 := by rw [k0,hk]
 generalize formP m in1 = T at *
 clear hwh l1 k0 hB bq hk
 by_cases hc : in1 = 1
 ·skip
  subst hc
  have HT : Hid (T = true) := hid (by rw [HF.out]; simp)
  clear HF
  go_enter Tryz.func28,Tryz.ntmps28
  go_upto_region 1 with fail
  go_wp2
  go_ret
  exact ⟨ret_bool HT.out.symm,hw⟩
 ·skip
  have g1 : ¬ (in1 : Int) = 1 := by omega
  have q1 : decide ((in1 : Int) = 1) = false := by simpa using g1
  have HT : Hid (T = false) := hid (by rw [HF.out]; simp [hc])
  clear HF
  go_enter Tryz.func28,Tryz.ntmps28
  go_upto_region 1 with fail
  go_wp2
  go_ret
  exact ⟨ret_bool (by rw [HT.out]; simpa using g1),hw⟩
set_option maxRecDepth 100000 in
set_option maxHeartbeats 4000000 in
theorem formed_8 {m : Sq} (hB : SqB m) {w : World} {s : Sv} (hm : IsQ w m s) (hk : m.kind = 8) : Calls Tryz.prog 28 #[stV s] w fun en w' => en = .returned (.bool (formP m s.inn.2.1)) ∧ Below w.heap.size w w' := by
 have hw := bal (Below.refl w.heap.size w) (svO s)
 have bq := Bk.new w (svO s)
 generalize hW : w.alloc (svO s) = W at hw bq
 replace hm := hm.later hw
 have z0 := bq.cell 0
 have z1 := bq.cell 1
 have z2 := bq.cell 2
 have z3 := bq.cell 3
 have z4 := bq.cell 4
 have z5 := bq.cell 5
 have z6 := bq.cell 6
 have z7 := bq.cell 7
 have z8 := bq.cell 8
 have z9 := bq.cell 9
 have z10 := bq.cell 10
 have z11 := bq.cell 11
 have z12 := bq.cell 12
 simp only [List.getElem?_toArray,List.getElem?_cons_zero,List.getElem?_cons_succ] at z0 z1 z2 z3 z4 z5 z6 z7 z8 z9 z10 z11 z12
 have HF : Hid (formP m s.inn.2.1 = decide (m.wh.length ≤ 1)) := hid (by unfold formP; simp [hk])
 obtain ⟨k0,-,-,-,-,-,-,hwh,-⟩ := hm
 obtain ⟨l1,l2,l3⟩ := hwh.lens
 obtain ⟨sk,stb,snm,sco,sta,sva,sit,sjn,son,⟨wh0,wh1,wh2⟩,sod,sds,⟨in0,in1,in2⟩⟩ := s
 dsimp only [stV,svO] at *
 rw [l1] at HF
 obtain rfl : sk = 8 := by rw [k0,hk]
 generalize formP m in1 = T at *
 clear hwh l1 k0 hB bq hk
 by_cases hc : wh1 ≤ 1
 ·skip
  have g1 : (wh1 : Int) ≤ 1 := by omega
  have HT : Hid (T = true) := hid (by rw [HF.out]; simp [hc])
  clear HF
  go_enter Tryz.func28,Tryz.ntmps28
  go_upto_region 1 with fail
  go_wp2
  go_ret
  exact ⟨ret_bool HT.out.symm,hw⟩
 ·skip
  have g1 : ¬ (wh1 : Int) ≤ 1 := by omega
  have q1 : decide ((wh1 : Int) ≤ 1) = false := by simpa using g1
  have HT : Hid (T = false) := hid (by rw [HF.out]; simp [hc])
  clear HF
  go_enter Tryz.func28,Tryz.ntmps28
  go_upto_region 1 with fail
  go_wp2
  go_ret
  exact ⟨ret_bool HT.out.symm,hw⟩
set_option maxRecDepth 100000 in
set_option maxHeartbeats 4000000 in
theorem formed_1 {m : Sq} (hB : SqB m) {w : World} {s : Sv} (hm : IsQ w m s) (hk : m.kind = 1) : Calls Tryz.prog 28 #[stV s] w fun en w' => en = .returned (.bool (formP m s.inn.2.1)) ∧ Below w.heap.size w w' := by
 have hw := bal (Below.refl w.heap.size w) (svO s)
 have bq := Bk.new w (svO s)
 generalize hW : w.alloc (svO s) = W at hw bq
 replace hm := hm.later hw
 have z0 := bq.cell 0
 have z1 := bq.cell 1
 have z2 := bq.cell 2
 have z3 := bq.cell 3
 have z4 := bq.cell 4
 have z5 := bq.cell 5
 have z6 := bq.cell 6
 have z7 := bq.cell 7
 have z8 := bq.cell 8
 have z9 := bq.cell 9
 have z10 := bq.cell 10
 have z11 := bq.cell 11
 have z12 := bq.cell 12
 simp only [List.getElem?_toArray,List.getElem?_cons_zero,List.getElem?_cons_succ] at z0 z1 z2 z3 z4 z5 z6 z7 z8 z9 z10 z11 z12
 have HF : Hid (formP m s.inn.2.1 = true) := hid (by unfold formP; simp [hk])
 obtain ⟨k0,-,-,-,-,-,-,hwh,-⟩ := hm
 obtain ⟨l1,l2,l3⟩ := hwh.lens
 obtain ⟨sk,stb,snm,sco,sta,sva,sit,sjn,son,⟨wh0,wh1,wh2⟩,sod,sds,⟨in0,in1,in2⟩⟩ := s
 dsimp only [stV,svO] at *
 obtain rfl : sk = 1 := by rw [k0,hk]
 generalize formP m in1 = T at *
 clear hwh l1 k0 hB bq hk
 have HT : Hid (T = true) := hid (by rw [HF.out])
 clear HF
 go_enter Tryz.func28,Tryz.ntmps28
 go_upto_region 1 with fail
 go_wp2
 go_ret
 exact ⟨ret_bool HT.out.symm,hw⟩
set_option maxRecDepth 100000 in
set_option maxHeartbeats 4000000 in
theorem formed_2 {m : Sq} (hB : SqB m) {w : World} {s : Sv} (hm : IsQ w m s) (hk : m.kind = 2) : Calls Tryz.prog 28 #[stV s] w fun en w' => en = .returned (.bool (formP m s.inn.2.1)) ∧ Below w.heap.size w w' := by
 have hw := bal (Below.refl w.heap.size w) (svO s)
 have bq := Bk.new w (svO s)
 generalize hW : w.alloc (svO s) = W at hw bq
 replace hm := hm.later hw
 have z0 := bq.cell 0
 have z1 := bq.cell 1
 have z2 := bq.cell 2
 have z3 := bq.cell 3
 have z4 := bq.cell 4
 have z5 := bq.cell 5
 have z6 := bq.cell 6
 have z7 := bq.cell 7
 have z8 := bq.cell 8
 have z9 := bq.cell 9
 have z10 := bq.cell 10
 have z11 := bq.cell 11
 have z12 := bq.cell 12
 simp only [List.getElem?_toArray,List.getElem?_cons_zero,List.getElem?_cons_succ] at z0 z1 z2 z3 z4 z5 z6 z7 z8 z9 z10 z11 z12
 have HF : Hid (formP m s.inn.2.1 = true) := hid (by unfold formP; simp [hk])
 obtain ⟨k0,-,-,-,-,-,-,hwh,-⟩ := hm
 obtain ⟨l1,l2,l3⟩ := hwh.lens
 obtain ⟨sk,stb,snm,sco,sta,sva,sit,sjn,son,⟨wh0,wh1,wh2⟩,sod,sds,⟨in0,in1,in2⟩⟩ := s
 dsimp only [stV,svO] at *
 obtain rfl : sk = 2 := by rw [k0,hk]
 generalize formP m in1 = T at *
 clear hwh l1 k0 hB bq hk
 have HT : Hid (T = true) := hid (by rw [HF.out])
 clear HF
 go_enter Tryz.func28,Tryz.ntmps28
 go_upto_region 1 with fail
 go_wp2
 go_ret
 exact ⟨ret_bool HT.out.symm,hw⟩
set_option maxRecDepth 100000 in
set_option maxHeartbeats 4000000 in
theorem formed_5 {m : Sq} (hB : SqB m) {w : World} {s : Sv} (hm : IsQ w m s) (hk : m.kind = 5) : Calls Tryz.prog 28 #[stV s] w fun en w' => en = .returned (.bool (formP m s.inn.2.1)) ∧ Below w.heap.size w w' := by
 have hw := bal (Below.refl w.heap.size w) (svO s)
 have bq := Bk.new w (svO s)
 generalize hW : w.alloc (svO s) = W at hw bq
 replace hm := hm.later hw
 have z0 := bq.cell 0
 have z1 := bq.cell 1
 have z2 := bq.cell 2
 have z3 := bq.cell 3
 have z4 := bq.cell 4
 have z5 := bq.cell 5
 have z6 := bq.cell 6
 have z7 := bq.cell 7
 have z8 := bq.cell 8
 have z9 := bq.cell 9
 have z10 := bq.cell 10
 have z11 := bq.cell 11
 have z12 := bq.cell 12
 simp only [List.getElem?_toArray,List.getElem?_cons_zero,List.getElem?_cons_succ] at z0 z1 z2 z3 z4 z5 z6 z7 z8 z9 z10 z11 z12
 have HF : Hid (formP m s.inn.2.1 = true) := hid (by unfold formP; simp [hk])
 obtain ⟨k0,-,-,-,-,-,-,hwh,-⟩ := hm
 obtain ⟨l1,l2,l3⟩ := hwh.lens
 obtain ⟨sk,stb,snm,sco,sta,sva,sit,sjn,son,⟨wh0,wh1,wh2⟩,sod,sds,⟨in0,in1,in2⟩⟩ := s
 dsimp only [stV,svO] at *
 obtain rfl : sk = 5 := by rw [k0,hk]
 generalize formP m in1 = T at *
 clear hwh l1 k0 hB bq hk
 have HT : Hid (T = true) := hid (by rw [HF.out])
 clear HF
 go_enter Tryz.func28,Tryz.ntmps28
 go_upto_region 1 with fail
 go_wp2
 go_ret
 exact ⟨ret_bool HT.out.symm,hw⟩
set_option maxRecDepth 100000 in
set_option maxHeartbeats 4000000 in
theorem formed_9 {m : Sq} (hB : SqB m) {w : World} {s : Sv} (hm : IsQ w m s) (hk : m.kind = 9) : Calls Tryz.prog 28 #[stV s] w fun en w' => en = .returned (.bool (formP m s.inn.2.1)) ∧ Below w.heap.size w w' := by
 have hw := bal (Below.refl w.heap.size w) (svO s)
 have bq := Bk.new w (svO s)
 generalize hW : w.alloc (svO s) = W at hw bq
 replace hm := hm.later hw
 have z0 := bq.cell 0
 have z1 := bq.cell 1
 have z2 := bq.cell 2
 have z3 := bq.cell 3
 have z4 := bq.cell 4
 have z5 := bq.cell 5
 have z6 := bq.cell 6
 have z7 := bq.cell 7
 have z8 := bq.cell 8
 have z9 := bq.cell 9
 have z10 := bq.cell 10
 have z11 := bq.cell 11
 have z12 := bq.cell 12
 simp only [List.getElem?_toArray,List.getElem?_cons_zero,List.getElem?_cons_succ] at z0 z1 z2 z3 z4 z5 z6 z7 z8 z9 z10 z11 z12
 have HF : Hid (formP m s.inn.2.1 = true) := hid (by unfold formP; simp [hk])
 obtain ⟨k0,-,-,-,-,-,-,hwh,-⟩ := hm
 obtain ⟨l1,l2,l3⟩ := hwh.lens
 obtain ⟨sk,stb,snm,sco,sta,sva,sit,sjn,son,⟨wh0,wh1,wh2⟩,sod,sds,⟨in0,in1,in2⟩⟩ := s
 dsimp only [stV,svO] at *
 obtain rfl : sk = 9 := by rw [k0,hk]
 generalize formP m in1 = T at *
 clear hwh l1 k0 hB bq hk
 have HT : Hid (T = true) := hid (by rw [HF.out])
 clear HF
 go_enter Tryz.func28,Tryz.ntmps28
 go_upto_region 1 with fail
 go_wp2
 go_ret
 exact ⟨ret_bool HT.out.symm,hw⟩
set_option maxRecDepth 100000 in
set_option maxHeartbeats 4000000 in
theorem formed_10 {m : Sq} (hB : SqB m) {w : World} {s : Sv} (hm : IsQ w m s) (hk : m.kind = 10) : Calls Tryz.prog 28 #[stV s] w fun en w' => en = .returned (.bool (formP m s.inn.2.1)) ∧ Below w.heap.size w w' := by
 have hw := bal (Below.refl w.heap.size w) (svO s)
 have bq := Bk.new w (svO s)
 generalize hW : w.alloc (svO s) = W at hw bq
 replace hm := hm.later hw
 have z0 := bq.cell 0
 have z1 := bq.cell 1
 have z2 := bq.cell 2
 have z3 := bq.cell 3
 have z4 := bq.cell 4
 have z5 := bq.cell 5
 have z6 := bq.cell 6
 have z7 := bq.cell 7
 have z8 := bq.cell 8
 have z9 := bq.cell 9
 have z10 := bq.cell 10
 have z11 := bq.cell 11
 have z12 := bq.cell 12
 simp only [List.getElem?_toArray,List.getElem?_cons_zero,List.getElem?_cons_succ] at z0 z1 z2 z3 z4 z5 z6 z7 z8 z9 z10 z11 z12
 have HF : Hid (formP m s.inn.2.1 = true) := hid (by unfold formP; simp [hk])
 obtain ⟨k0,-,-,-,-,-,-,hwh,-⟩ := hm
 obtain ⟨l1,l2,l3⟩ := hwh.lens
 obtain ⟨sk,stb,snm,sco,sta,sva,sit,sjn,son,⟨wh0,wh1,wh2⟩,sod,sds,⟨in0,in1,in2⟩⟩ := s
 dsimp only [stV,svO] at *
 obtain rfl : sk = 10 := by rw [k0,hk]
 generalize formP m in1 = T at *
 clear hwh l1 k0 hB bq hk
 have HT : Hid (T = true) := hid (by rw [HF.out])
 clear HF
 go_enter Tryz.func28,Tryz.ntmps28
 go_upto_region 1 with fail
 go_wp2
 go_ret
 exact ⟨ret_bool HT.out.symm,hw⟩
set_option maxRecDepth 100000 in
set_option maxHeartbeats 4000000 in
theorem formed_11 {m : Sq} (hB : SqB m) {w : World} {s : Sv} (hm : IsQ w m s) (hk : m.kind = 11) : Calls Tryz.prog 28 #[stV s] w fun en w' => en = .returned (.bool (formP m s.inn.2.1)) ∧ Below w.heap.size w w' := by
 have hw := bal (Below.refl w.heap.size w) (svO s)
 have bq := Bk.new w (svO s)
 generalize hW : w.alloc (svO s) = W at hw bq
 replace hm := hm.later hw
 have z0 := bq.cell 0
 have z1 := bq.cell 1
 have z2 := bq.cell 2
 have z3 := bq.cell 3
 have z4 := bq.cell 4
 have z5 := bq.cell 5
 have z6 := bq.cell 6
 have z7 := bq.cell 7
 have z8 := bq.cell 8
 have z9 := bq.cell 9
 have z10 := bq.cell 10
 have z11 := bq.cell 11
 have z12 := bq.cell 12
 simp only [List.getElem?_toArray,List.getElem?_cons_zero,List.getElem?_cons_succ] at z0 z1 z2 z3 z4 z5 z6 z7 z8 z9 z10 z11 z12
 have HF : Hid (formP m s.inn.2.1 = true) := hid (by unfold formP; simp [hk])
 obtain ⟨k0,-,-,-,-,-,-,hwh,-⟩ := hm
 obtain ⟨l1,l2,l3⟩ := hwh.lens
 obtain ⟨sk,stb,snm,sco,sta,sva,sit,sjn,son,⟨wh0,wh1,wh2⟩,sod,sds,⟨in0,in1,in2⟩⟩ := s
 dsimp only [stV,svO] at *
 obtain rfl : sk = 11 := by rw [k0,hk]
 generalize formP m in1 = T at *
 clear hwh l1 k0 hB bq hk
 have HT : Hid (T = true) := hid (by rw [HF.out])
 clear HF
 go_enter Tryz.func28,Tryz.ntmps28
 go_upto_region 1 with fail
 go_wp2
 go_ret
 exact ⟨ret_bool HT.out.symm,hw⟩
set_option maxRecDepth 100000 in
set_option maxHeartbeats 4000000 in
theorem formed_12 {m : Sq} (hB : SqB m) {w : World} {s : Sv} (hm : IsQ w m s) (hk : m.kind = 12) : Calls Tryz.prog 28 #[stV s] w fun en w' => en = .returned (.bool (formP m s.inn.2.1)) ∧ Below w.heap.size w w' := by
 have hw := bal (Below.refl w.heap.size w) (svO s)
 have bq := Bk.new w (svO s)
 generalize hW : w.alloc (svO s) = W at hw bq
 replace hm := hm.later hw
 have z0 := bq.cell 0
 have z1 := bq.cell 1
 have z2 := bq.cell 2
 have z3 := bq.cell 3
 have z4 := bq.cell 4
 have z5 := bq.cell 5
 have z6 := bq.cell 6
 have z7 := bq.cell 7
 have z8 := bq.cell 8
 have z9 := bq.cell 9
 have z10 := bq.cell 10
 have z11 := bq.cell 11
 have z12 := bq.cell 12
 simp only [List.getElem?_toArray,List.getElem?_cons_zero,List.getElem?_cons_succ] at z0 z1 z2 z3 z4 z5 z6 z7 z8 z9 z10 z11 z12
 have HF : Hid (formP m s.inn.2.1 = true) := hid (by unfold formP; simp [hk])
 obtain ⟨k0,-,-,-,-,-,-,hwh,-⟩ := hm
 obtain ⟨l1,l2,l3⟩ := hwh.lens
 obtain ⟨sk,stb,snm,sco,sta,sva,sit,sjn,son,⟨wh0,wh1,wh2⟩,sod,sds,⟨in0,in1,in2⟩⟩ := s
 dsimp only [stV,svO] at *
 obtain rfl : sk = 12 := by rw [k0,hk]
 generalize formP m in1 = T at *
 clear hwh l1 k0 hB bq hk
 have HT : Hid (T = true) := hid (by rw [HF.out])
 clear HF
 go_enter Tryz.func28,Tryz.ntmps28
 go_upto_region 1 with fail
 go_wp2
 go_ret
 exact ⟨ret_bool HT.out.symm,hw⟩
set_option maxRecDepth 100000 in
set_option maxHeartbeats 4000000 in
theorem formed_13 {m : Sq} (hB : SqB m) {w : World} {s : Sv} (hm : IsQ w m s) (hk : m.kind = 13) : Calls Tryz.prog 28 #[stV s] w fun en w' => en = .returned (.bool (formP m s.inn.2.1)) ∧ Below w.heap.size w w' := by
 have hw := bal (Below.refl w.heap.size w) (svO s)
 have bq := Bk.new w (svO s)
 generalize hW : w.alloc (svO s) = W at hw bq
 replace hm := hm.later hw
 have z0 := bq.cell 0
 have z1 := bq.cell 1
 have z2 := bq.cell 2
 have z3 := bq.cell 3
 have z4 := bq.cell 4
 have z5 := bq.cell 5
 have z6 := bq.cell 6
 have z7 := bq.cell 7
 have z8 := bq.cell 8
 have z9 := bq.cell 9
 have z10 := bq.cell 10
 have z11 := bq.cell 11
 have z12 := bq.cell 12
 simp only [List.getElem?_toArray,List.getElem?_cons_zero,List.getElem?_cons_succ] at z0 z1 z2 z3 z4 z5 z6 z7 z8 z9 z10 z11 z12
 have HF : Hid (formP m s.inn.2.1 = true) := hid (by unfold formP; simp [hk])
 obtain ⟨k0,-,-,-,-,-,-,hwh,-⟩ := hm
 obtain ⟨l1,l2,l3⟩ := hwh.lens
 obtain ⟨sk,stb,snm,sco,sta,sva,sit,sjn,son,⟨wh0,wh1,wh2⟩,sod,sds,⟨in0,in1,in2⟩⟩ := s
 dsimp only [stV,svO] at *
 obtain rfl : sk = 13 := by rw [k0,hk]
 generalize formP m in1 = T at *
 clear hwh l1 k0 hB bq hk
 have HT : Hid (T = true) := hid (by rw [HF.out])
 clear HF
 go_enter Tryz.func28,Tryz.ntmps28
 go_upto_region 1 with fail
 go_wp2
 go_ret
 exact ⟨ret_bool HT.out.symm,hw⟩

end Go.Proofs.YtljmlacnfnmjbaaGreat
namespace Go.Proofs.YtljmlacnfnmjbaaGreat
open Go.RowKit
set_option linter.unusedVariables false
set_option linter.unusedSimpArgs false

def delP (T : List Tbl) (m : Sq) : Int := if overE T [m.table] ≠ 0 then overE T [m.table] else whP (overC T [m.table]) m.wh
set_option maxRecDepth 100000 in
set_option maxHeartbeats 4000000 in
theorem mayDelete_any {T : List Tbl} {m : Sq} (hB : SqB m) {w : World} {ta : Option Addr} {tn tc : Nat} {vb : Option Addr} {vm vd : Nat} (hT : IsT w T ta tn tc) {s : Sv} (hm : IsQ w m s) :
  Calls Tryz.prog 32 #[.agg #[.slice ta tn tc,.slice vb vm vd],stV s] w fun en w' => en = .returned (.int .i64 (delP T m)) ∧ Below w.heap.size w w' := by
 have hw := bal (bal (Below.refl w.heap.size w) (.cells #[.slice ta tn tc,.slice vb vm vd] 38)) (svO s)
 have bs := (Bk.new w (.cells #[.slice ta tn tc,.slice vb vm vd] 38)).later (bal (Below.refl _ _) (svO s))
 have bq := Bk.new (w.alloc (.cells #[.slice ta tn tc,.slice vb vm vd] 38)) (svO s)
 rw [World.size_alloc] at bq
 generalize hW : (w.alloc (.cells #[.slice ta tn tc,.slice vb vm vd] 38)).alloc (svO s) = W at hw bs bq
 replace hT := hT.later hw
 replace hm := hm.later hw
 have y0 := bs.cell 0
 have y1 := bs.cell 1
 have z0 := bq.cell 0
 have z1 := bq.cell 1
 have z2 := bq.cell 2
 have z3 := bq.cell 3
 have z4 := bq.cell 4
 have z5 := bq.cell 5
 have z6 := bq.cell 6
 have z7 := bq.cell 7
 have z8 := bq.cell 8
 have z9 := bq.cell 9
 have z10 := bq.cell 10
 have z11 := bq.cell 11
 have z12 := bq.cell 12
 simp only [List.getElem?_toArray,List.getElem?_cons_zero,List.getElem?_cons_succ] at y0 y1 z0 z1 z2 z3 z4 z5 z6 z7 z8 z9 z10 z11 z12
 have hC5 : (overC T [m.table]).length ≤ 500 := overC_one hT.bd (by simp)
 have hw2 := bal (Below.refl W.heap.size W) (.cells #[.string m.table] 9)
 have HO : Hid _ := hid (overT_any (l := [m.table]) (by simp) (vb := vb) (vm := vm) (vd := vd) (hT.later hw2) (row1_str W.heap.size (cell_new W #[.string m.table] 9 (0,0) 0)))
 have HF : Hid (delP T m = if overE T [m.table] ≠ 0 then overE T [m.table] else whP (overC T [m.table]) m.wh) := hid rfl
 have ktb := hm.tb
 rw [ktb] at z1
 generalize delP T m = R at *
 generalize overE T [m.table] = E at *
 generalize overC T [m.table] = C at *
 have H3 : Hid (∀ (a : Option Addr) (n c : Nat) w',Below W.heap.size W w' → RowIs eClm (fun _ => True) w' (.slice a n c) C → _) := hid fun a n c w' hb hr => where_any hC5 hB.wh hr (hm.later hb).wh
 have l9 := hm.wh.lens
 clear hT bs bq hm hB
 obtain ⟨sk,stb,snm,sco,sta,sva,sit,sjn,son,⟨wh0,wh1,wh2⟩,sod,sds,sinn⟩ := s
 dsimp only [stV,svO] at *
 subst ktb
 generalize whP C m.wh = e3 at *
 generalize m.table = tb at *
 go_enter Tryz.func32,Tryz.ntmps32
 go_upto_region 1 with fail
 go_wp2_with fail
 refine Calls.mono HO.out ?_
 rintro e w4 ⟨a4,n4,c4,rfl,hb4,hr4⟩
 have HR4 : Hid _ := hid hr4
 have v9 := cell_later (Below.on hw2 hb4) z9
 clear HO hr4 z0 z1 z2 z3 z4 z5 z6 z7 z8 z9 z10 z11 z12 y0 y1
 by_cases he : E = 0
 ·subst he
  have hRe : e3 = R := by rw [HF.out,if_neg (by simp)]
  have hr := HR4.out (by first | rfl | trivial)
  have G3 : Hid _ := hid (H3.out a4 n4 c4 w4 (Below.on hw2 hb4) hr)
  clear H3 HF HR4
  go_wp2_with fail
  refine Calls.mono G3.out ?_
  rintro e w5 ⟨rfl,hb5⟩
  clear G3
  go_wp2
  go_ret
  exact ⟨rfl,Below.on hw (Below.on hw2 (Below.on hb4 hb5))⟩
 ·obtain rfl : R = E := by rw [HF.out,if_pos he]
  have ge : decide (R = 0) = false := by simpa using he
  have gn : (R != 0) = true := by simpa using he
  clear H3 HF HR4
  go_wp2
  go_ret
  exact ⟨rfl,Below.on hw (Below.on hw2 hb4)⟩

end Go.Proofs.YtljmlacnfnmjbaaGreat
