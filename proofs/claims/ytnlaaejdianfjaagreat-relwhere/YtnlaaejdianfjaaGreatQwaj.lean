import Derived.Test.YtnlaaejdianfjaaGreatQwai
import Derived.Test.YtnlaaejdianfjaaGreatQwad
import Derived.Test.YtnlaaejdianfjaaGreatQwae
import Derived.Test.YtnlaaejdianfjaaGreatQwac
import Derived.Deep.RegionHeld3
import Derived.Test.YtnlaaejdianfjaaGreatQwak
namespace Go.Proofs.YtnlaaejdianfjaaGreat
open Go.RowKit
set_option linter.unusedVariables false
set_option linter.unusedSimpArgs false

/-- A value whose number fits and whose text is not too long. -/
def Gd (v : Vt) : Prop := Fits v.2.1 ∧ v.2.2.size ≤ 500
theorem gd_z : Gd vZ := ⟨fits0, by decide⟩
theorem gd_tr (b : Bool) : Gd (trV b) := ⟨trV_fits b, by cases b <;> decide⟩
theorem gd_num (z : Int) : Gd (1, nV z, ⟨#[]⟩) := ⟨nV_fits z, Nat.zero_le 500⟩
def numR (op a b : Int) : Int := if op = 6 then a - b else if op = 7 then a * b else a + b
def numE (z : Int) : Vt × Int := if nE z ≠ 0 then (vZ, nE z) else ((1, nV z, ⟨#[]⟩), 0)
def refVt (a b : Vt) : Int := refC a.1 a.2.1 (nums a.2.2) b.1 b.2.1 (nums b.2.2)
/-- What the document makes of two values. -/
def rTwo (op : Int) (a b : Vt) : Vt × Int := if 14 ≤ op then (trV (decide (b.2.1 = 1)), 0) else if 8 ≤ op then (trV (standsP op (refVt a b)), 0) else numE (numR op a.2.1 b.2.1)
theorem rTwo_gd (op : Int) (a b : Vt) : Gd (rTwo op a b).1 := by
  unfold rTwo
  split
  · exact gd_tr _
  split
  · exact gd_tr _
  unfold numE
  split
  · exact gd_z
  · exact gd_num _

set_option maxRecDepth 100000 in
set_option maxHeartbeats 4000000 in
theorem refTwo_any {op : Int} (h5 : 5 ≤ op) (h15 : op ≤ 15) {a b : Vt} (ga : Gd a) (gb : Gd b) (w : World) : Calls Tryz.prog 74 #[.int .i64 op, vV a, vV b] w fun e w' => e = .returned (.tuple #[vV (rTwo op a b).1, .int .i64 (rTwo op a b).2]) ∧ Below w.heap.size w w' := by
  obtain ⟨a0, a1, a2⟩ := a
  obtain ⟨b0, b1, b2⟩ := b
  have hw := bal (bal (bal (Below.refl w.heap.size w) (.cells #[.int .i64 a0, .int .i64 a1, .string a2] 44)) (.cells #[.int .i64 b0, .int .i64 b1, .string b2] 44)) zV
  have hz := Bv.new ((w.alloc (.cells #[.int .i64 a0, .int .i64 a1, .string a2] 44)).alloc (.cells #[.int .i64 b0, .int .i64 b1, .string b2] 44))
  rw [World.size_alloc, World.size_alloc] at hz
  have bA : Bk (((w.alloc (.cells #[.int .i64 a0, .int .i64 a1, .string a2] 44)).alloc (.cells #[.int .i64 b0, .int .i64 b1, .string b2] 44)).alloc zV) w.heap.size (.cells #[.int .i64 a0, .int .i64 a1, .string a2] 44) := ((Bk.new w _).later (bal (Below.refl _ _) _)).later (bal (Below.refl _ _) _)
  have bB : Bk (((w.alloc (.cells #[.int .i64 a0, .int .i64 a1, .string a2] 44)).alloc (.cells #[.int .i64 b0, .int .i64 b1, .string b2] 44)).alloc zV) (w.heap.size + 1) (.cells #[.int .i64 b0, .int .i64 b1, .string b2] 44) := by
    have := (Bk.new (w.alloc (.cells #[.int .i64 a0, .int .i64 a1, .string a2] 44)) (.cells #[.int .i64 b0, .int .i64 b1, .string b2] 44)).later (bal (Below.refl _ _) zV)
    rwa [World.size_alloc] at this
  generalize hW : ((w.alloc (.cells #[.int .i64 a0, .int .i64 a1, .string a2] 44)).alloc (.cells #[.int .i64 b0, .int .i64 b1, .string b2] 44)).alloc zV = W at hw hz bA bB
  have x0 := bA.cell 0
  have x1 := bA.cell 1
  have x2 := bA.cell 2
  have y0 := bB.cell 0
  have y1 := bB.cell 1
  have y2 := bB.cell 2
  simp only [List.getElem?_toArray, List.getElem?_cons_zero, List.getElem?_cons_succ] at x0 x1 x2 y0 y1 y2
  clear bA bB
  by_cases h14 : 14 ≤ op
  · rw [show rTwo op (a0, a1, a2) (b0, b1, b2) = (trV (decide (b1 = 1)), 0) from if_pos h14]
    have g14 : decide (14 ≤ op) = true := by simpa using h14
    have HT : Hid _ := hid (truthR_any (decide (b1 = 1)))
    obtain ⟨D, hD⟩ : ∃ D, decide (b1 = 1) = D := ⟨_, rfl⟩
    have hD2 : (b1 == 1) = D := by rw [← hD]; rfl
    rw [hD] at HT ⊢
    clear ga gb
    go_enter Tryz.func74, Tryz.ntmps74
    go_wp2_with fail
    refine Calls.mono (HT.out _) ?_
    rintro e w6 ⟨rfl, hb6⟩
    have hB := Below.on hw hb6
    have hz6 := hz.later hb6
    obtain ⟨c0, c1, c2⟩ := hz6.cells
    obtain ⟨f0, f1, f2⟩ := hz6.free
    have hl := hz6.lt
    clear HT hz hz6 hb6 hw hW x0 x1 x2 y0 y1 y2 hD hD2
    go_wp2
    exact bodyPost_ret (v := .tuple #[vV (trV D), .int .i64 0]) (by simp [results, Tryz.results74, go_sem, c0, c1, c2]) rfl ⟨rfl, below3 hB (by omega) _ _ _⟩
  have g14 : decide (14 ≤ op) = false := by simpa using h14
  by_cases h8 : 8 ≤ op
  · rw [show rTwo op (a0, a1, a2) (b0, b1, b2) = (trV (standsP op (refVt (a0, a1, a2) (b0, b1, b2))), 0) from by unfold rTwo; rw [if_neg h14, if_pos h8]]
    have g8 : decide (8 ≤ op) = true := by simpa using h8
    generalize hC : refVt (a0, a1, a2) (b0, b1, b2) = C
    have HC : Hid _ := hid (show ∀ w', Calls Tryz.prog 19 #[vV (a0, a1, a2), vV (b0, b1, b2)] w' fun e w'' => e = .returned (.int .i64 C) ∧ Below w'.heap.size w' w'' from fun w' => hC ▸ refCompare_any a0 a1 a2 b0 b1 b2 (Nat.le_trans ga.2 (by decide)) (Nat.le_trans gb.2 (by decide)) w')
    have HT : Hid _ := hid (truthR_any (standsP op C))
    clear ga gb hC
    have hop : op = 8 ∨ op = 9 ∨ op = 10 ∨ op = 11 ∨ op = 12 ∨ op = 13 := by omega
    obtain ⟨S, hS⟩ : ∃ S, standsP op C = S := ⟨_, rfl⟩
    rw [hS] at HT ⊢
    rcases hop with rfl | rfl | rfl | rfl | rfl | rfl
    · have hS2 : (decide (C = 0)) = S := hS
      have hS3 : (C == 0) = S := by rw [← hS2]; rfl
      clear h5 h15 h14 g14 h8 g8 hS
      go_enter Tryz.func74, Tryz.ntmps74
      go_wp2_with fail
      refine Calls.mono (HC.out _) ?_
      rintro e w4 ⟨rfl, hb4⟩
      have hB4 := Below.on hw hb4
      have hz4 := hz.later hb4
      clear HC hz hb4 hw hW x0 x1 x2 y0 y1 y2
      go_wp2_with fail
      (try rw [hS2])
      (try rw [hS3])
      refine Calls.mono (HT.out _) ?_
      rintro e w6 ⟨rfl, hb6⟩
      have hB := Below.on (bal hB4 _) hb6
      have hz6 := (hz4.later (bal (Below.refl _ _) _)).later hb6
      obtain ⟨c0, c1, c2⟩ := hz6.cells
      obtain ⟨f0, f1, f2⟩ := hz6.free
      have hl := hz6.lt
      clear HT hz4 hz6 hB4 hb6 hS2 hS3
      go_wp2
      exact bodyPost_ret (v := .tuple #[vV (trV S), .int .i64 0]) (by simp [results, Tryz.results74, go_sem, c0, c1, c2]) rfl ⟨rfl, below3 hB (by omega) _ _ _⟩
    · have hS2 : (!decide (C = 0)) = S := hS
      have hS3 : (C != 0) = S := by rw [← hS2]; rw [Bool.eq_iff_iff]; simp
      clear h5 h15 h14 g14 h8 g8 hS
      go_enter Tryz.func74, Tryz.ntmps74
      go_wp2_with fail
      refine Calls.mono (HC.out _) ?_
      rintro e w4 ⟨rfl, hb4⟩
      have hB4 := Below.on hw hb4
      have hz4 := hz.later hb4
      clear HC hz hb4 hw hW x0 x1 x2 y0 y1 y2
      go_wp2_with fail
      (try rw [hS2])
      (try rw [hS3])
      refine Calls.mono (HT.out _) ?_
      rintro e w6 ⟨rfl, hb6⟩
      have hB := Below.on (bal hB4 _) hb6
      have hz6 := (hz4.later (bal (Below.refl _ _) _)).later hb6
      obtain ⟨c0, c1, c2⟩ := hz6.cells
      obtain ⟨f0, f1, f2⟩ := hz6.free
      have hl := hz6.lt
      clear HT hz4 hz6 hB4 hb6 hS2 hS3
      go_wp2
      exact bodyPost_ret (v := .tuple #[vV (trV S), .int .i64 0]) (by simp [results, Tryz.results74, go_sem, c0, c1, c2]) rfl ⟨rfl, below3 hB (by omega) _ _ _⟩
    · have hS2 : (decide (C < 0)) = S := hS
      have hS3 : (decide (C < 0)) = S := by rw [← hS2]
      clear h5 h15 h14 g14 h8 g8 hS
      go_enter Tryz.func74, Tryz.ntmps74
      go_wp2_with fail
      refine Calls.mono (HC.out _) ?_
      rintro e w4 ⟨rfl, hb4⟩
      have hB4 := Below.on hw hb4
      have hz4 := hz.later hb4
      clear HC hz hb4 hw hW x0 x1 x2 y0 y1 y2
      go_wp2_with fail
      (try rw [hS2])
      (try rw [hS3])
      refine Calls.mono (HT.out _) ?_
      rintro e w6 ⟨rfl, hb6⟩
      have hB := Below.on (bal hB4 _) hb6
      have hz6 := (hz4.later (bal (Below.refl _ _) _)).later hb6
      obtain ⟨c0, c1, c2⟩ := hz6.cells
      obtain ⟨f0, f1, f2⟩ := hz6.free
      have hl := hz6.lt
      clear HT hz4 hz6 hB4 hb6 hS2 hS3
      go_wp2
      exact bodyPost_ret (v := .tuple #[vV (trV S), .int .i64 0]) (by simp [results, Tryz.results74, go_sem, c0, c1, c2]) rfl ⟨rfl, below3 hB (by omega) _ _ _⟩
    · have hS2 : (decide (C ≤ 0)) = S := hS
      have hS3 : (decide (C ≤ 0)) = S := by rw [← hS2]
      clear h5 h15 h14 g14 h8 g8 hS
      go_enter Tryz.func74, Tryz.ntmps74
      go_wp2_with fail
      refine Calls.mono (HC.out _) ?_
      rintro e w4 ⟨rfl, hb4⟩
      have hB4 := Below.on hw hb4
      have hz4 := hz.later hb4
      clear HC hz hb4 hw hW x0 x1 x2 y0 y1 y2
      go_wp2_with fail
      (try rw [hS2])
      (try rw [hS3])
      refine Calls.mono (HT.out _) ?_
      rintro e w6 ⟨rfl, hb6⟩
      have hB := Below.on (bal hB4 _) hb6
      have hz6 := (hz4.later (bal (Below.refl _ _) _)).later hb6
      obtain ⟨c0, c1, c2⟩ := hz6.cells
      obtain ⟨f0, f1, f2⟩ := hz6.free
      have hl := hz6.lt
      clear HT hz4 hz6 hB4 hb6 hS2 hS3
      go_wp2
      exact bodyPost_ret (v := .tuple #[vV (trV S), .int .i64 0]) (by simp [results, Tryz.results74, go_sem, c0, c1, c2]) rfl ⟨rfl, below3 hB (by omega) _ _ _⟩
    · have hS2 : (decide (0 < C)) = S := hS
      have hS3 : (decide (0 < C)) = S := by rw [← hS2]
      clear h5 h15 h14 g14 h8 g8 hS
      go_enter Tryz.func74, Tryz.ntmps74
      go_wp2_with fail
      refine Calls.mono (HC.out _) ?_
      rintro e w4 ⟨rfl, hb4⟩
      have hB4 := Below.on hw hb4
      have hz4 := hz.later hb4
      clear HC hz hb4 hw hW x0 x1 x2 y0 y1 y2
      go_wp2_with fail
      (try rw [hS2])
      (try rw [hS3])
      refine Calls.mono (HT.out _) ?_
      rintro e w6 ⟨rfl, hb6⟩
      have hB := Below.on (bal hB4 _) hb6
      have hz6 := (hz4.later (bal (Below.refl _ _) _)).later hb6
      obtain ⟨c0, c1, c2⟩ := hz6.cells
      obtain ⟨f0, f1, f2⟩ := hz6.free
      have hl := hz6.lt
      clear HT hz4 hz6 hB4 hb6 hS2 hS3
      go_wp2
      exact bodyPost_ret (v := .tuple #[vV (trV S), .int .i64 0]) (by simp [results, Tryz.results74, go_sem, c0, c1, c2]) rfl ⟨rfl, below3 hB (by omega) _ _ _⟩
    · have hS2 : (decide (0 ≤ C)) = S := hS
      have hS3 : (decide (0 ≤ C)) = S := by rw [← hS2]
      clear h5 h15 h14 g14 h8 g8 hS
      go_enter Tryz.func74, Tryz.ntmps74
      go_wp2_with fail
      refine Calls.mono (HC.out _) ?_
      rintro e w4 ⟨rfl, hb4⟩
      have hB4 := Below.on hw hb4
      have hz4 := hz.later hb4
      clear HC hz hb4 hw hW x0 x1 x2 y0 y1 y2
      go_wp2_with fail
      (try rw [hS2])
      (try rw [hS3])
      refine Calls.mono (HT.out _) ?_
      rintro e w6 ⟨rfl, hb6⟩
      have hB := Below.on (bal hB4 _) hb6
      have hz6 := (hz4.later (bal (Below.refl _ _) _)).later hb6
      obtain ⟨c0, c1, c2⟩ := hz6.cells
      obtain ⟨f0, f1, f2⟩ := hz6.free
      have hl := hz6.lt
      clear HT hz4 hz6 hB4 hb6 hS2 hS3
      go_wp2
      exact bodyPost_ret (v := .tuple #[vV (trV S), .int .i64 0]) (by simp [results, Tryz.results74, go_sem, c0, c1, c2]) rfl ⟨rfl, below3 hB (by omega) _ _ _⟩
  have g8 : decide (8 ≤ op) = false := by simpa using h8
  have HA : Hid _ := hid (refAdd_any a1 b1 ga.1 gb.1)
  have HS : Hid _ := hid (refSub_any a1 b1 ga.1 gb.1)
  have HM : Hid _ := hid (refMul_any a1 b1 ga.1 gb.1)
  rw [show rTwo op (a0, a1, a2) (b0, b1, b2) = numE (numR op a1 b1) from by unfold rTwo; rw [if_neg h14, if_neg h8]]
  clear ga gb
  obtain ⟨G, hG⟩ : ∃ G, numE (numR op a1 b1) = G := ⟨_, rfl⟩
  rw [hG]
  have HG1 : Hid (∀ z, numR op a1 b1 = z → nE z ≠ 0 → G = (vZ, nE z)) := hid fun z hz h => by rw [← hG, hz, numE, if_pos h]
  have HG0 : Hid (∀ z, numR op a1 b1 = z → nE z = 0 → G = ((1, nV z, ⟨#[]⟩), 0)) := hid fun z hz h => by rw [← hG, hz, numE, if_neg (by simpa using h)]
  clear hG
  have hop : op = 5 ∨ op = 6 ∨ op = 7 := by omega
  rcases hop with rfl | rfl | rfl
  · obtain ⟨z, hzz⟩ : ∃ z, a1 + b1 = z := ⟨_, rfl⟩
    replace HG1 : Hid _ := hid (HG1.out z hzz)
    replace HG0 : Hid _ := hid (HG0.out z hzz)
    rw [hzz] at HA
    rw [nA_eq] at HA
    clear HS HM hzz h5 h15
    generalize nV z = z1 at *
    generalize nE z = z2 at *
    go_enter Tryz.func74, Tryz.ntmps74
    go_wp2_with fail
    refine Calls.mono (HA.out _) ?_
    rintro e w4 ⟨rfl, rfl⟩
    clear HA
    obtain ⟨c0, c1, c2⟩ := hz.cells
    obtain ⟨f0, f1, f2⟩ := hz.free
    have hl := hz.lt
    by_cases hE : z2 = 0
    · have hG := HG0.out hE
      subst hE
      clear HG0 HG1 hz
      go_wp2
      exact bodyPost_ret (v := .tuple #[vV (1, z1, ⟨#[]⟩), .int .i64 0]) (by simp [results, Tryz.results74, go_sem, c0, c1, c2]) rfl ⟨by rw [hG], below3 hw (by omega) _ _ _⟩
    · have hG := HG1.out hE
      have ge : decide (z2 = 0) = false := by simpa using hE
      have gn : (z2 != 0) = true := by simpa using hE
      clear HG0 HG1 hz
      go_wp2
      exact bodyPost_ret (v := .tuple #[vV vZ, .int .i64 z2]) (by simp [results, Tryz.results74, go_sem, c0, c1, c2]) rfl ⟨by rw [hG], below3 hw (by omega) _ _ _⟩
  · obtain ⟨z, hzz⟩ : ∃ z, a1 - b1 = z := ⟨_, rfl⟩
    replace HG1 : Hid _ := hid (HG1.out z hzz)
    replace HG0 : Hid _ := hid (HG0.out z hzz)
    rw [hzz] at HS
    rw [nA_eq] at HA HS
    clear HM hzz h5 h15
    generalize nV z = z1 at *
    generalize nE z = z2 at *
    generalize nV (a1 + b1) = u1 at *
    generalize nE (a1 + b1) = u2 at *
    go_enter Tryz.func74, Tryz.ntmps74
    go_wp2_with fail
    refine Calls.mono (HA.out _) ?_
    rintro e w4 ⟨rfl, rfl⟩
    clear HA
    go_wp2_with fail
    refine Calls.mono (HS.out _) ?_
    rintro e w5 ⟨rfl, rfl⟩
    clear HS
    obtain ⟨c0, c1, c2⟩ := hz.cells
    obtain ⟨f0, f1, f2⟩ := hz.free
    have hl := hz.lt
    by_cases hE : z2 = 0
    · have hG := HG0.out hE
      subst hE
      clear HG0 HG1 hz
      go_wp2
      exact bodyPost_ret (v := .tuple #[vV (1, z1, ⟨#[]⟩), .int .i64 0]) (by simp [results, Tryz.results74, go_sem, c0, c1, c2]) rfl ⟨by rw [hG], below3 hw (by omega) _ _ _⟩
    · have hG := HG1.out hE
      have ge : decide (z2 = 0) = false := by simpa using hE
      have gn : (z2 != 0) = true := by simpa using hE
      clear HG0 HG1 hz
      go_wp2
      exact bodyPost_ret (v := .tuple #[vV vZ, .int .i64 z2]) (by simp [results, Tryz.results74, go_sem, c0, c1, c2]) rfl ⟨by rw [hG], below3 hw (by omega) _ _ _⟩
  · obtain ⟨z, hzz⟩ : ∃ z, a1 * b1 = z := ⟨_, rfl⟩
    replace HG1 : Hid _ := hid (HG1.out z hzz)
    replace HG0 : Hid _ := hid (HG0.out z hzz)
    rw [hzz] at HM
    rw [nA_eq] at HA HM
    clear HS hzz h5 h15
    generalize nV z = z1 at *
    generalize nE z = z2 at *
    generalize nV (a1 + b1) = u1 at *
    generalize nE (a1 + b1) = u2 at *
    go_enter Tryz.func74, Tryz.ntmps74
    go_wp2_with fail
    refine Calls.mono (HA.out _) ?_
    rintro e w4 ⟨rfl, rfl⟩
    clear HA
    go_wp2_with fail
    refine Calls.mono (HM.out _) ?_
    rintro e w5 ⟨rfl, rfl⟩
    clear HM
    obtain ⟨c0, c1, c2⟩ := hz.cells
    obtain ⟨f0, f1, f2⟩ := hz.free
    have hl := hz.lt
    by_cases hE : z2 = 0
    · have hG := HG0.out hE
      subst hE
      clear HG0 HG1 hz
      go_wp2
      exact bodyPost_ret (v := .tuple #[vV (1, z1, ⟨#[]⟩), .int .i64 0]) (by simp [results, Tryz.results74, go_sem, c0, c1, c2]) rfl ⟨by rw [hG], below3 hw (by omega) _ _ _⟩
    · have hG := HG1.out hE
      have ge : decide (z2 = 0) = false := by simpa using hE
      have gn : (z2 != 0) = true := by simpa using hE
      clear HG0 HG1 hz
      go_wp2
      exact bodyPost_ret (v := .tuple #[vV vZ, .int .i64 z2]) (by simp [results, Tryz.results74, go_sem, c0, c1, c2]) rfl ⟨by rw [hG], below3 hw (by omega) _ _ _⟩

end Go.Proofs.YtnlaaejdianfjaaGreat
namespace Go.Proofs.YtnlaaejdianfjaaGreat
open Go.RowKit
set_option linter.unusedVariables false
set_option linter.unusedSimpArgs false

end Go.Proofs.YtnlaaejdianfjaaGreat
namespace Go.Proofs.YtnlaaejdianfjaaGreat
open Go.RowKit
set_option linter.unusedVariables false
set_option linter.unusedSimpArgs false

end Go.Proofs.YtnlaaejdianfjaaGreat
namespace Go.Proofs.YtnlaaejdianfjaaGreat
open Go.RowKit
set_option linter.unusedVariables false
set_option linter.unusedSimpArgs false

end Go.Proofs.YtnlaaejdianfjaaGreat
namespace Go.Proofs.YtnlaaejdianfjaaGreat
open Go.RowKit
set_option linter.unusedVariables false
set_option linter.unusedSimpArgs false

end Go.Proofs.YtnlaaejdianfjaaGreat
namespace Go.Proofs.YtnlaaejdianfjaaGreat
open Go.RowKit
set_option linter.unusedVariables false
set_option linter.unusedSimpArgs false

end Go.Proofs.YtnlaaejdianfjaaGreat
namespace Go.Proofs.YtnlaaejdianfjaaGreat
open Go.RowKit
set_option linter.unusedVariables false
set_option linter.unusedSimpArgs false

end Go.Proofs.YtnlaaejdianfjaaGreat
namespace Go.Proofs.YtnlaaejdianfjaaGreat
open Go.RowKit
set_option linter.unusedVariables false
set_option linter.unusedSimpArgs false

end Go.Proofs.YtnlaaejdianfjaaGreat
namespace Go.Proofs.YtnlaaejdianfjaaGreat
open Go.RowKit
set_option linter.unusedVariables false
set_option linter.unusedSimpArgs false

end Go.Proofs.YtnlaaejdianfjaaGreat
namespace Go.Proofs.YtnlaaejdianfjaaGreat
open Go.RowKit
set_option linter.unusedVariables false
set_option linter.unusedSimpArgs false

end Go.Proofs.YtnlaaejdianfjaaGreat
namespace Go.Proofs.YtnlaaejdianfjaaGreat
open Go.RowKit
set_option linter.unusedVariables false
set_option linter.unusedSimpArgs false

theorem empty_str (t : ByteArray) : t.toList.isEmpty = decide (t = ⟨#[]⟩) := by
  have h := same_str t ⟨#[]⟩
  rw [← h, ByteArray.toList_eq, ByteArray.toList_eq]
  cases t.data.toList <;> rfl
end Go.Proofs.YtnlaaejdianfjaaGreat
namespace Go.Proofs.YtnlaaejdianfjaaGreat
open Go.RowKit
set_option linter.unusedVariables false
set_option linter.unusedSimpArgs false

theorem clm_one (S : List Cl3) (tb nm : ByteArray) : ((S.filter (clmIs tb nm)).length = 1 ∧ ∃ c, S.filter (clmIs tb nm) = [c] ∧ clmK S tb nm = (c.2.2, 0)) ∨ ((S.filter (clmIs tb nm)).length ≠ 1 ∧ clmK S tb nm = (0, 10)) := by
  unfold clmK
  match S.filter (clmIs tb nm) with
  | [] => exact .inr ⟨by simp, rfl⟩
  | [c] => exact .inl ⟨rfl, c, rfl, rfl⟩
  | a :: b :: r => exact .inr ⟨by simp, rfl⟩
end Go.Proofs.YtnlaaejdianfjaaGreat
namespace Go.Proofs.YtnlaaejdianfjaaGreat
open Go.RowKit
set_option linter.unusedVariables false
set_option linter.unusedSimpArgs false

theorem kdT_none {S : List Cl3} {x : Pg × Tg} (h : wayA x.1.1 = none) : kdT S x = (0, 1) := by unfold kdT kd1; rw [h]
theorem kds_len (S : List Cl3) (f : Tg) : (kds S f).length = (toL f).length := by rw [kds_map, List.length_map]
theorem kdT_len {S : List Cl3} {x : Pg × Tg} {v : Int × List Int × Int} (h : wayA x.1.1 = some v) (hn : ((toL x.2).length : Int) ≠ v.1) : kdT S x = (0, 1) := by
  unfold kdT kd1; rw [h]
  show (if ((kds S x.2).length : Int) ≠ v.1 then _ else _) = _
  rw [if_pos (by rw [kds_len]; exact hn)]
theorem kdT_lit {S : List Cl3} {x : Pg × Tg} {v : Int × List Int × Int} (h : wayA x.1.1 = some v) (hn : ((toL x.2).length : Int) = v.1) (h1 : x.1.1 = 1) : kdT S x = (x.1.2.1, 0) := by
  unfold kdT kd1; rw [h]
  show (if ((kds S x.2).length : Int) ≠ v.1 then _ else _) = _
  rw [if_neg (by rw [kds_len]; simpa using hn), if_pos h1]
theorem kdT_col {S : List Cl3} {x : Pg × Tg} {v : Int × List Int × Int} (h : wayA x.1.1 = some v) (hn : ((toL x.2).length : Int) = v.1) (h1 : x.1.1 ≠ 1) (h2 : x.1.1 = 2) : kdT S x = clmK S x.1.2.2.2.2.1 x.1.2.2.2.2.2 := by
  unfold kdT kd1; rw [h]
  show (if ((kds S x.2).length : Int) ≠ v.1 then _ else _) = _
  rw [if_neg (by rw [kds_len]; simpa using hn), if_neg h1, if_pos h2]
theorem kds_snd (S : List Cl3) (f : Tg) : (kds S f).map (·.2) = (toL f).map fun x => (kdT S x).2 := by rw [kds_map, List.map_map]; rfl
theorem kds_fst (S : List Cl3) (f : Tg) : (kds S f).map (·.1) = (toL f).map fun x => (kdT S x).1 := by rw [kds_map, List.map_map]; rfl
theorem kdT_err {S : List Cl3} {x : Pg × Tg} {v : Int × List Int × Int} (h : wayA x.1.1 = some v) (hn : ((toL x.2).length : Int) = v.1) (h1 : x.1.1 ≠ 1) (h2 : x.1.1 ≠ 2) (he : erL ((toL x.2).map fun x => (kdT S x).2) ≠ 0) : kdT S x = (0, erL ((toL x.2).map fun x => (kdT S x).2)) := by
  rw [kdT, kd1, h]
  show (if ((kds S x.2).length : Int) ≠ v.1 then _ else _) = _
  rw [if_neg (by rw [kds_len]; simpa using hn), if_neg h1, if_neg h2, kds_snd, if_pos he]
theorem kdT_ok {S : List Cl3} {x : Pg × Tg} {v : Int × List Int × Int} (h : wayA x.1.1 = some v) (hn : ((toL x.2).length : Int) = v.1) (h1 : x.1.1 ≠ 1) (h2 : x.1.1 ≠ 2) (he : erL ((toL x.2).map fun x => (kdT S x).2) = 0) : kdT S x = if takesP v.2.1 ((toL x.2).map fun x => (kdT S x).1) then (v.2.2, 0) else (0, 11) := by
  rw [kdT, kd1, h]
  show (if ((kds S x.2).length : Int) ≠ v.1 then _ else _) = _
  rw [if_neg (by rw [kds_len]; simpa using hn), if_neg h1, if_neg h2, kds_snd, if_neg (by simpa using he), kds_fst]

end Go.Proofs.YtnlaaejdianfjaaGreat
namespace Go.Proofs.YtnlaaejdianfjaaGreat
open Go.RowKit
set_option linter.unusedVariables false
set_option linter.unusedSimpArgs false

end Go.Proofs.YtnlaaejdianfjaaGreat
namespace Go.Proofs.YtnlaaejdianfjaaGreat
open Go.RowKit
set_option linter.unusedVariables false
set_option linter.unusedSimpArgs false

end Go.Proofs.YtnlaaejdianfjaaGreat
namespace Go.Proofs.YtnlaaejdianfjaaGreat
open Go.RowKit
set_option linter.unusedVariables false
set_option linter.unusedSimpArgs false

end Go.Proofs.YtnlaaejdianfjaaGreat
namespace Go.Proofs.YtnlaaejdianfjaaGreat
open Go.RowKit
set_option linter.unusedVariables false

theorem new1 (w : World) (a : Value) (ty : TypeId) : ∀ j (hj : j < [a].length), (w.alloc (.cells #[a] ty)).cell? ⟨w.heap.size, j, none⟩ = some [a][j] := by
  intro j hj
  have hj' : j < 1 := hj
  match j, hj' with
  | 0, _ => exact cell_new w _ _ _ 0
end Go.Proofs.YtnlaaejdianfjaaGreat
namespace Go.Proofs.YtnlaaejdianfjaaGreat
open Go.RowKit
set_option linter.unusedVariables false

/-- A table: its name, its columns. -/
abbrev Tab := ByteArray × List Co
/-- A row of three columns that was just made. -/
theorem cols_new (w : World) (a1 b1 a2 b2 a3 b3 : ByteArray) (k1 k2 k3 : Int) {Q : Nat → Prop} {w' : World} (hb : Below (w.heap.size + 1) (w.alloc (.cells #[.string a1, .int .i64 k1, .string b1, .string a2, .int .i64 k2, .string b2, .string a3, .int .i64 k3, .string b3] 70)) w') (hq : Q w.heap.size) :
    RowIs eCol Q w' (.slice (some ⟨w.heap.size, 0, none⟩) 3 3) [(a1, k1, b1), (a2, k2, b2), (a3, k3, b3)] := by
  have hc : ∀ j, j < 9 → w'.cell? ⟨w.heap.size, j, none⟩ = (#[.string a1, .int .i64 k1, .string b1, .string a2, .int .i64 k2, .string b2, .string a3, .int .i64 k3, .string b3] : Array Value)[j]? := fun j hj =>
    (World.cell?_of_block (a := ⟨w.heap.size, j, none⟩) (hb.block _ (by simp))).trans (cell_new w _ _ _ j)
  refine ⟨_, 3, 3, rfl, rfl, Nat.le_refl _, by omega, fun _ => ⟨w.heap.size, 0, rfl, hq, fun i hi => ?_⟩⟩
  have hi' : i < 3 := hi
  match i, hi' with
  | 0, _ => exact ⟨[.string a1, .int .i64 k1, .string b1], rfl, rfl, fun j hj => by
      have hj' : j < 3 := hj
      match j, hj' with
      | 0, _ => exact hc 0 (by decide)
      | 1, _ => exact hc 1 (by decide)
      | 2, _ => exact hc 2 (by decide)⟩
  | 1, _ => exact ⟨[.string a2, .int .i64 k2, .string b2], rfl, rfl, fun j hj => by
      have hj' : j < 3 := hj
      match j, hj' with
      | 0, _ => exact hc 3 (by decide)
      | 1, _ => exact hc 4 (by decide)
      | 2, _ => exact hc 5 (by decide)⟩
  | 2, _ => exact ⟨[.string a3, .int .i64 k3, .string b3], rfl, rfl, fun j hj => by
      have hj' : j < 3 := hj
      match j, hj' with
      | 0, _ => exact hc 6 (by decide)
      | 1, _ => exact hc 7 (by decide)
      | 2, _ => exact hc 8 (by decide)⟩

end Go.Proofs.YtnlaaejdianfjaaGreat
