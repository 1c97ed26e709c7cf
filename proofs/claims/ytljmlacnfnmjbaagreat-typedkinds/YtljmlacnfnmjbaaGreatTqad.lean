import Derived.Test.YtljmlacnfnmjbaaGreatTqab
namespace Go.Proofs.YtljmlacnfnmjbaaGreat
open Go.RowKit
set_option linter.unusedVariables false
set_option linter.unusedSimpArgs false

set_option maxRecDepth 100000 in
set_option maxHeartbeats 4000000 in
theorem foldCmCms {l : List (Cl3)} (hlen : l.length ≤ 500) {Q : Nat → Prop} {w : World} {ao : Option Addr} {n c : Nat} (h : RowIs eClm Q w (.slice ao n c) l) {N : Nat} {caps : Array Value} (hcf : ∀ args w', (callFunc N args).run Tryz.prog w' = .ok (.enter N args) w') (er : Nat → Int) (I : Nat → World → Option Addr → Nat → Nat → Prop)
    (hI : ∀ i w' a m d, I i w' a m d → Below w.heap.size w w') (hA : ∀ i w' a m d o, I i w' a m d → I i (w'.alloc o) a m d) {a0 : Option Addr} {m0 d0 : Nat} (h0 : I 0 w a0 m0 d0)
    (hs : ∀ i (hi : i < l.length) (w' : World) (a : Option Addr) (m d : Nat) (cs : List Value), I i w' a m d → eClm.E Q w' l[i] cs → Calls Tryz.prog N (#[.slice a m d, .agg cs.toArray] ++ caps) w' fun en w'' => ∃ a2 m2 d2, en = .returned (.tuple #[.slice a2 m2 d2, .int .i64 (er i)]) ∧ Below w.heap.size w w'' ∧ (er i = 0 → I (i + 1) w'' a2 m2 d2)) :
    Calls Tryz.prog 102 #[.slice ao n c, .slice a0 m0 d0, .func (.func N) #[] caps] w fun en w' => ∃ a2 m2 d2, en = .returned (.tuple #[.slice a2 m2 d2, .int .i64 (erO er l.length)]) ∧ Below w.heap.size w w' ∧ (erO er l.length = 0 → I l.length w' a2 m2 d2) := by
  have HR : Hid (∀ w', Below w.heap.size w w' → RowIs eClm Q w' (.slice ao n c) l) := hid fun w' hb => h.keep (by decide) fun b _ hl => hb.block b hl
  have HS : Hid (∀ i (hi : i < l.length) (w' : World) (a : Option Addr) (m d : Nat) (cs : List Value), I i w' a m d → eClm.E Q w' l[i] cs → _) := hid hs
  have HI : Hid (∀ i w' a m d, I i w' a m d → Below w.heap.size w w') := hid hI
  have HA : Hid (∀ i w' a m d o, I i w' a m d → I i (w'.alloc o) a m d) := hid hA
  have H0 : Hid (I 0 w a0 m0 d0) := hid h0
  obtain ⟨ao', n', c', e', hn, hnc, hc, _⟩ := h
  cases e'
  subst hn
  clear hs hI hA h0
  go_enter Tryz.func102, Tryz.ntmps102
  go_wp2
  go_loopw [1, 14] (fun v1 v14 wr => ∃ k : Nat, ∃ a m d, k ≤ l.length ∧ v14 = .int .i64 k ∧ v1 = .slice a m d ∧ Hid (I k wr a m d) ∧ Hid (erO er k = 0)) (fun _ i _ => l.length - (intOf i).toNat)
  case atStart => exact ⟨0, _, _, _, Nat.zero_le _, rfl, rfl, H0, hid rfl⟩
  case round =>
    obtain ⟨k, a, m, d, hk, rfl, rfl, HK, HE⟩ := hrel
    by_cases hlt : k < l.length
    · have hB := HI.out _ _ _ _ _ HK.out
      obtain ⟨_, _, _, e', _, _, _, hx⟩ := HR.out wr hB
      cases e'
      obtain ⟨b, o, rfl, hq, hi⟩ := hx (by omega)
      obtain ⟨cs, hEx, h2, h3⟩ := hi k hlt
      obtain ⟨x, hxl⟩ : ∃ x, l[k] = x := ⟨_, rfl⟩
      rw [hxl] at hEx
      have hEx' := hEx
      obtain rfl := hEx'
      have c0 : wr.cell? ⟨b, o + k * 3, none⟩ = some (.string x.1) := by exact h3 0 (show 0 < 3 by decide)
      have c1 : wr.cell? ⟨b, o + k * 3 + 1, none⟩ = some (.string x.2.1) := by exact h3 1 (show 1 < 3 by decide)
      have c2 : wr.cell? ⟨b, o + k * 3 + 2, none⟩ = some (.int .i64 x.2.2) := by exact h3 2 (show 2 < 3 by decide)
      have hkm : (k : Int) < (l.length : Int) := by omega
      have hk5 : k ≤ 500 := by omega
      clear h2 h3 hi hx
      have HX := HS.out k hlt (wr.alloc (.cells #[.string x.1, .string x.2.1, .int .i64 x.2.2] 100)) a m d [.string x.1, .string x.2.1, .int .i64 x.2.2] (HA.out _ _ _ _ _ _ HK.out) (by rw [hxl]; exact eClm.keep (fun b _ hl => (bal (Below.refl _ _) _).block b hl) hEx)
      have bx := Bk.new wr (.cells #[.string x.1, .string x.2.1, .int .i64 x.2.2] 100)
      clear hEx hxl
      go_upto_region 4 with fail
      generalize wr.alloc (.cells #[.string x.1, .string x.2.1, .int .i64 x.2.2] 100) = W at *
      have d0 := bx.cell 0
      have d1 := bx.cell 1
      have d2 := bx.cell 2
      simp only [List.getElem?_toArray, List.getElem?_cons_zero, List.getElem?_cons_succ] at d0 d1 d2
      clear bx c0 c1 c2
      obtain ⟨z, hz⟩ : ∃ z, er k = z := ⟨_, rfl⟩
      rw [hz] at HX
      have HZ : Hid (er k = z) := hid hz
      replace HX : Hid _ := hid HX
      clear hz
      go_wp2_with fail
      refine Calls.mono HX.out ?_
      rintro e w4 ⟨a2, m2, d2, rfl, hb4, hi4⟩
      have HI4 : Hid _ := hid hi4
      clear HX hi4
      by_cases h0 : z = 0
      · subst h0
        have HE2 : Hid (erO er (k + 1) = 0) := hid (by rw [erO_succ, if_pos HE.out, HZ.out])
        go_wp2
        go_roundw
        case rel => exact ⟨k + 1, a2, m2, d2, hlt, by go_num, rfl, hid (HI4.out (by first | rfl | trivial)), HE2⟩
        case measure => simp only [intOf]; omega
      · have HE2 : Hid (erO er l.length = z) := hid (by rw [erO_stop hlt HE.out (by rw [HZ.out]; exact h0), HZ.out])
        have h0' : (z != 0) = true := by simpa using h0
        have h0d : decide (z = 0) = false := by simpa using h0
        go_wp2
        refine bodyPost_ret (v := .tuple #[.slice none 0 0, .int .i64 z]) (by simp [results, Tryz.results102]) rfl ⟨none, 0, 0, by rw [HE2.out], hb4, fun h => absurd (HE2.out.symm.trans h) h0⟩
    · obtain rfl : k = l.length := by omega
      have hB := HI.out _ _ _ _ _ HK.out
      go_wp2
      refine bodyPost_ret (v := .tuple #[.slice a m d, .int .i64 0]) (by simp [results, Tryz.results102]) rfl ⟨a, m, d, by rw [HE.out], hB, fun _ => HK.out⟩

set_option maxRecDepth 100000 in
set_option maxHeartbeats 4000000 in
theorem foldInInts {l : List (Int)} (hlen : l.length ≤ 500) {Q : Nat → Prop} {w : World} {ao : Option Addr} {n c : Nat} (h : RowIs eInt Q w (.slice ao n c) l) {N : Nat} {caps : Array Value} (hcf : ∀ args w', (callFunc N args).run Tryz.prog w' = .ok (.enter N args) w') (er : Nat → Int) (I : Nat → World → Option Addr → Nat → Nat → Prop)
    (hI : ∀ i w' a m d, I i w' a m d → Below w.heap.size w w') (hA : ∀ i w' a m d o, I i w' a m d → I i (w'.alloc o) a m d) {a0 : Option Addr} {m0 d0 : Nat} (h0 : I 0 w a0 m0 d0)
    (hs : ∀ i (hi : i < l.length) (w' : World) (a : Option Addr) (m d : Nat), I i w' a m d → Calls Tryz.prog N (#[.slice a m d, .int .i64 l[i]] ++ caps) w' fun en w'' => ∃ a2 m2 d2, en = .returned (.tuple #[.slice a2 m2 d2, .int .i64 (er i)]) ∧ Below w.heap.size w w'' ∧ (er i = 0 → I (i + 1) w'' a2 m2 d2)) :
    Calls Tryz.prog 123 #[.slice ao n c, .slice a0 m0 d0, .func (.func N) #[] caps] w fun en w' => ∃ a2 m2 d2, en = .returned (.tuple #[.slice a2 m2 d2, .int .i64 (erO er l.length)]) ∧ Below w.heap.size w w' ∧ (erO er l.length = 0 → I l.length w' a2 m2 d2) := by
  have HR : Hid (∀ w', Below w.heap.size w w' → RowIs eInt Q w' (.slice ao n c) l) := hid fun w' hb => h.keep (by decide) fun b _ hl => hb.block b hl
  have HS : Hid (∀ i (hi : i < l.length) (w' : World) (a : Option Addr) (m d : Nat), I i w' a m d → _) := hid hs
  have HI : Hid (∀ i w' a m d, I i w' a m d → Below w.heap.size w w') := hid hI
  have HA : Hid (∀ i w' a m d o, I i w' a m d → I i (w'.alloc o) a m d) := hid hA
  have H0 : Hid (I 0 w a0 m0 d0) := hid h0
  obtain ⟨ao', n', c', e', hn, hnc, hc, _⟩ := h
  cases e'
  subst hn
  clear hs hI hA h0
  go_enter Tryz.func123, Tryz.ntmps123
  go_wp2
  go_loopw [1, 14] (fun v1 v14 wr => ∃ k : Nat, ∃ a m d, k ≤ l.length ∧ v14 = .int .i64 k ∧ v1 = .slice a m d ∧ Hid (I k wr a m d) ∧ Hid (erO er k = 0)) (fun _ i _ => l.length - (intOf i).toNat)
  case atStart => exact ⟨0, _, _, _, Nat.zero_le _, rfl, rfl, H0, hid rfl⟩
  case round =>
    obtain ⟨k, a, m, d, hk, rfl, rfl, HK, HE⟩ := hrel
    by_cases hlt : k < l.length
    · have hB := HI.out _ _ _ _ _ HK.out
      obtain ⟨_, _, _, e', _, _, _, hx⟩ := HR.out wr hB
      cases e'
      obtain ⟨b, o, rfl, hq, hi⟩ := hx (by omega)
      obtain ⟨cs, hEx, h2, h3⟩ := hi k hlt
      obtain ⟨x, hxl⟩ : ∃ x, l[k] = x := ⟨_, rfl⟩
      rw [hxl] at hEx
      have hEx' := hEx
      obtain rfl := hEx'
      have c0 : wr.cell? ⟨b, o + k, none⟩ = some (.int .i64 x) := by have := h3 0 (show 0 < 1 by decide); simpa [eInt] using this
      have hkm : (k : Int) < (l.length : Int) := by omega
      have hk5 : k ≤ 500 := by omega
      clear h2 h3 hi hx
      have HX := HS.out k hlt wr a m d HK.out
      rw [hxl] at HX
      clear hEx hxl
      obtain ⟨z, hz⟩ : ∃ z, er k = z := ⟨_, rfl⟩
      rw [hz] at HX
      have HZ : Hid (er k = z) := hid hz
      replace HX : Hid _ := hid HX
      clear hz
      go_wp2_with fail
      refine Calls.mono HX.out ?_
      rintro e w4 ⟨a2, m2, d2, rfl, hb4, hi4⟩
      have HI4 : Hid _ := hid hi4
      clear HX hi4
      by_cases h0 : z = 0
      · subst h0
        have HE2 : Hid (erO er (k + 1) = 0) := hid (by rw [erO_succ, if_pos HE.out, HZ.out])
        go_wp2
        go_roundw
        case rel => exact ⟨k + 1, a2, m2, d2, hlt, by go_num, rfl, hid (HI4.out (by first | rfl | trivial)), HE2⟩
        case measure => simp only [intOf]; omega
      · have HE2 : Hid (erO er l.length = z) := hid (by rw [erO_stop hlt HE.out (by rw [HZ.out]; exact h0), HZ.out])
        have h0' : (z != 0) = true := by simpa using h0
        have h0d : decide (z = 0) = false := by simpa using h0
        go_wp2
        refine bodyPost_ret (v := .tuple #[.slice none 0 0, .int .i64 z]) (by simp [results, Tryz.results123]) rfl ⟨none, 0, 0, by rw [HE2.out], hb4, fun h => absurd (HE2.out.symm.trans h) h0⟩
    · obtain rfl : k = l.length := by omega
      have hB := HI.out _ _ _ _ _ HK.out
      go_wp2
      refine bodyPost_ret (v := .tuple #[.slice a m d, .int .i64 0]) (by simp [results, Tryz.results123]) rfl ⟨a, m, d, by rw [HE.out], hB, fun _ => HK.out⟩

set_option maxRecDepth 100000 in
set_option maxHeartbeats 4000000 in
theorem foldExExs {l : List (Pg × Tg)} (hlen : l.length ≤ 500) {Q : Nat → Prop} {w : World} {ao : Option Addr} {n c : Nat} (h : RowIs eG Q w (.slice ao n c) l) {N : Nat} {caps : Array Value} (hcf : ∀ args w', (callFunc N args).run Tryz.prog w' = .ok (.enter N args) w') (er : Nat → Int) (I : Nat → World → Option Addr → Nat → Nat → Prop)
    (hI : ∀ i w' a m d, I i w' a m d → Below w.heap.size w w') (hA : ∀ i w' a m d o, I i w' a m d → I i (w'.alloc o) a m d) {a0 : Option Addr} {m0 d0 : Nat} (h0 : I 0 w a0 m0 d0)
    (hs : ∀ i (hi : i < l.length) (w' : World) (a : Option Addr) (m d : Nat) (cs : List Value), I i w' a m d → eG.E Q w' l[i] cs → Calls Tryz.prog N (#[.slice a m d, .agg cs.toArray] ++ caps) w' fun en w'' => ∃ a2 m2 d2, en = .returned (.tuple #[.slice a2 m2 d2, .int .i64 (er i)]) ∧ Below w.heap.size w w'' ∧ (er i = 0 → I (i + 1) w'' a2 m2 d2)) :
    Calls Tryz.prog 107 #[.slice ao n c, .slice a0 m0 d0, .func (.func N) #[] caps] w fun en w' => ∃ a2 m2 d2, en = .returned (.tuple #[.slice a2 m2 d2, .int .i64 (erO er l.length)]) ∧ Below w.heap.size w w' ∧ (erO er l.length = 0 → I l.length w' a2 m2 d2) := by
  have HR : Hid (∀ w', Below w.heap.size w w' → RowIs eG Q w' (.slice ao n c) l) := hid fun w' hb => h.keep (by decide) fun b _ hl => hb.block b hl
  have HS : Hid (∀ i (hi : i < l.length) (w' : World) (a : Option Addr) (m d : Nat) (cs : List Value), I i w' a m d → eG.E Q w' l[i] cs → _) := hid hs
  have HI : Hid (∀ i w' a m d, I i w' a m d → Below w.heap.size w w') := hid hI
  have HA : Hid (∀ i w' a m d o, I i w' a m d → I i (w'.alloc o) a m d) := hid hA
  have H0 : Hid (I 0 w a0 m0 d0) := hid h0
  obtain ⟨ao', n', c', e', hn, hnc, hc, _⟩ := h
  cases e'
  subst hn
  clear hs hI hA h0
  go_enter Tryz.func107, Tryz.ntmps107
  go_wp2
  go_loopw [1, 14] (fun v1 v14 wr => ∃ k : Nat, ∃ a m d, k ≤ l.length ∧ v14 = .int .i64 k ∧ v1 = .slice a m d ∧ Hid (I k wr a m d) ∧ Hid (erO er k = 0)) (fun _ i _ => l.length - (intOf i).toNat)
  case atStart => exact ⟨0, _, _, _, Nat.zero_le _, rfl, rfl, H0, hid rfl⟩
  case round =>
    obtain ⟨k, a, m, d, hk, rfl, rfl, HK, HE⟩ := hrel
    by_cases hlt : k < l.length
    · have hB := HI.out _ _ _ _ _ HK.out
      obtain ⟨_, _, _, e', _, _, _, hx⟩ := HR.out wr hB
      cases e'
      obtain ⟨b, o, rfl, hq, hi⟩ := hx (by omega)
      obtain ⟨cs, hEx, h2, h3⟩ := hi k hlt
      obtain ⟨x, hxl⟩ : ∃ x, l[k] = x := ⟨_, rfl⟩
      rw [hxl] at hEx
      have hEx' := hEx
      obtain ⟨ea, en, ec, rfl, -⟩ := hEx'
      have c0 : wr.cell? ⟨b, o + k * 7, none⟩ = some (.int .i64 x.1.1) := by exact h3 0 (show 0 < 7 by decide)
      have c1 : wr.cell? ⟨b, o + k * 7 + 1, none⟩ = some (.int .i64 x.1.2.1) := by exact h3 1 (show 1 < 7 by decide)
      have c2 : wr.cell? ⟨b, o + k * 7 + 2, none⟩ = some (.int .i64 x.1.2.2.1) := by exact h3 2 (show 2 < 7 by decide)
      have c3 : wr.cell? ⟨b, o + k * 7 + 3, none⟩ = some (.string x.1.2.2.2.1) := by exact h3 3 (show 3 < 7 by decide)
      have c4 : wr.cell? ⟨b, o + k * 7 + 4, none⟩ = some (.string x.1.2.2.2.2.1) := by exact h3 4 (show 4 < 7 by decide)
      have c5 : wr.cell? ⟨b, o + k * 7 + 5, none⟩ = some (.string x.1.2.2.2.2.2) := by exact h3 5 (show 5 < 7 by decide)
      have c6 : wr.cell? ⟨b, o + k * 7 + 6, none⟩ = some (.slice ea en ec) := by exact h3 6 (show 6 < 7 by decide)
      have hkm : (k : Int) < (l.length : Int) := by omega
      have hk5 : k ≤ 500 := by omega
      clear h2 h3 hi hx
      have HX := HS.out k hlt (wr.alloc (.cells #[.int .i64 x.1.1, .int .i64 x.1.2.1, .int .i64 x.1.2.2.1, .string x.1.2.2.2.1, .string x.1.2.2.2.2.1, .string x.1.2.2.2.2.2, .slice ea en ec] 28)) a m d [.int .i64 x.1.1, .int .i64 x.1.2.1, .int .i64 x.1.2.2.1, .string x.1.2.2.2.1, .string x.1.2.2.2.2.1, .string x.1.2.2.2.2.2, .slice ea en ec] (HA.out _ _ _ _ _ _ HK.out) (by rw [hxl]; exact eG.keep (fun b _ hl => (bal (Below.refl _ _) _).block b hl) hEx)
      have bx := Bk.new wr (.cells #[.int .i64 x.1.1, .int .i64 x.1.2.1, .int .i64 x.1.2.2.1, .string x.1.2.2.2.1, .string x.1.2.2.2.2.1, .string x.1.2.2.2.2.2, .slice ea en ec] 28)
      clear hEx hxl
      go_upto_region 4 with fail
      generalize wr.alloc (.cells #[.int .i64 x.1.1, .int .i64 x.1.2.1, .int .i64 x.1.2.2.1, .string x.1.2.2.2.1, .string x.1.2.2.2.2.1, .string x.1.2.2.2.2.2, .slice ea en ec] 28) = W at *
      have d0 := bx.cell 0
      have d1 := bx.cell 1
      have d2 := bx.cell 2
      have d3 := bx.cell 3
      have d4 := bx.cell 4
      have d5 := bx.cell 5
      have d6 := bx.cell 6
      simp only [List.getElem?_toArray, List.getElem?_cons_zero, List.getElem?_cons_succ] at d0 d1 d2 d3 d4 d5 d6
      clear bx c0 c1 c2 c3 c4 c5 c6
      obtain ⟨z, hz⟩ : ∃ z, er k = z := ⟨_, rfl⟩
      rw [hz] at HX
      have HZ : Hid (er k = z) := hid hz
      replace HX : Hid _ := hid HX
      clear hz
      go_wp2_with fail
      refine Calls.mono HX.out ?_
      rintro e w4 ⟨a2, m2, d2, rfl, hb4, hi4⟩
      have HI4 : Hid _ := hid hi4
      clear HX hi4
      by_cases h0 : z = 0
      · subst h0
        have HE2 : Hid (erO er (k + 1) = 0) := hid (by rw [erO_succ, if_pos HE.out, HZ.out])
        go_wp2
        go_roundw
        case rel => exact ⟨k + 1, a2, m2, d2, hlt, by go_num, rfl, hid (HI4.out (by first | rfl | trivial)), HE2⟩
        case measure => simp only [intOf]; omega
      · have HE2 : Hid (erO er l.length = z) := hid (by rw [erO_stop hlt HE.out (by rw [HZ.out]; exact h0), HZ.out])
        have h0' : (z != 0) = true := by simpa using h0
        have h0d : decide (z = 0) = false := by simpa using h0
        go_wp2
        refine bodyPost_ret (v := .tuple #[.slice none 0 0, .int .i64 z]) (by simp [results, Tryz.results107]) rfl ⟨none, 0, 0, by rw [HE2.out], hb4, fun h => absurd (HE2.out.symm.trans h) h0⟩
    · obtain rfl : k = l.length := by omega
      have hB := HI.out _ _ _ _ _ HK.out
      go_wp2
      refine bodyPost_ret (v := .tuple #[.slice a m d, .int .i64 0]) (by simp [results, Tryz.results107]) rfl ⟨a, m, d, by rw [HE.out], hB, fun _ => HK.out⟩

set_option maxRecDepth 100000 in
set_option maxHeartbeats 4000000 in
theorem foldItIts {l : List (It)} (hlen : l.length ≤ 500) {Q : Nat → Prop} {w : World} {ao : Option Addr} {n c : Nat} (h : RowIs eItem Q w (.slice ao n c) l) {N : Nat} {caps : Array Value} (hcf : ∀ args w', (callFunc N args).run Tryz.prog w' = .ok (.enter N args) w') (er : Nat → Int) (I : Nat → World → Option Addr → Nat → Nat → Prop)
    (hI : ∀ i w' a m d, I i w' a m d → Below w.heap.size w w') (hA : ∀ i w' a m d o, I i w' a m d → I i (w'.alloc o) a m d) {a0 : Option Addr} {m0 d0 : Nat} (h0 : I 0 w a0 m0 d0)
    (hs : ∀ i (hi : i < l.length) (w' : World) (a : Option Addr) (m d : Nat) (cs : List Value), I i w' a m d → eItem.E Q w' l[i] cs → Calls Tryz.prog N (#[.slice a m d, .agg cs.toArray] ++ caps) w' fun en w'' => ∃ a2 m2 d2, en = .returned (.tuple #[.slice a2 m2 d2, .int .i64 (er i)]) ∧ Below w.heap.size w w'' ∧ (er i = 0 → I (i + 1) w'' a2 m2 d2)) :
    Calls Tryz.prog 114 #[.slice ao n c, .slice a0 m0 d0, .func (.func N) #[] caps] w fun en w' => ∃ a2 m2 d2, en = .returned (.tuple #[.slice a2 m2 d2, .int .i64 (erO er l.length)]) ∧ Below w.heap.size w w' ∧ (erO er l.length = 0 → I l.length w' a2 m2 d2) := by
  have HR : Hid (∀ w', Below w.heap.size w w' → RowIs eItem Q w' (.slice ao n c) l) := hid fun w' hb => h.keep (by decide) fun b _ hl => hb.block b hl
  have HS : Hid (∀ i (hi : i < l.length) (w' : World) (a : Option Addr) (m d : Nat) (cs : List Value), I i w' a m d → eItem.E Q w' l[i] cs → _) := hid hs
  have HI : Hid (∀ i w' a m d, I i w' a m d → Below w.heap.size w w') := hid hI
  have HA : Hid (∀ i w' a m d o, I i w' a m d → I i (w'.alloc o) a m d) := hid hA
  have H0 : Hid (I 0 w a0 m0 d0) := hid h0
  obtain ⟨ao', n', c', e', hn, hnc, hc, _⟩ := h
  cases e'
  subst hn
  clear hs hI hA h0
  go_enter Tryz.func114, Tryz.ntmps114
  go_wp2
  go_loopw [1, 14] (fun v1 v14 wr => ∃ k : Nat, ∃ a m d, k ≤ l.length ∧ v14 = .int .i64 k ∧ v1 = .slice a m d ∧ Hid (I k wr a m d) ∧ Hid (erO er k = 0)) (fun _ i _ => l.length - (intOf i).toNat)
  case atStart => exact ⟨0, _, _, _, Nat.zero_le _, rfl, rfl, H0, hid rfl⟩
  case round =>
    obtain ⟨k, a, m, d, hk, rfl, rfl, HK, HE⟩ := hrel
    by_cases hlt : k < l.length
    · have hB := HI.out _ _ _ _ _ HK.out
      obtain ⟨_, _, _, e', _, _, _, hx⟩ := HR.out wr hB
      cases e'
      obtain ⟨b, o, rfl, hq, hi⟩ := hx (by omega)
      obtain ⟨cs, hEx, h2, h3⟩ := hi k hlt
      obtain ⟨x, hxl⟩ : ∃ x, l[k] = x := ⟨_, rfl⟩
      rw [hxl] at hEx
      have hEx' := hEx
      obtain rfl := hEx'
      have c0 : wr.cell? ⟨b, o + k * 3, none⟩ = some (.int .i64 x.1) := by exact h3 0 (show 0 < 3 by decide)
      have c1 : wr.cell? ⟨b, o + k * 3 + 1, none⟩ = some (.string x.2.1) := by exact h3 1 (show 1 < 3 by decide)
      have c2 : wr.cell? ⟨b, o + k * 3 + 2, none⟩ = some (.string x.2.2) := by exact h3 2 (show 2 < 3 by decide)
      have hkm : (k : Int) < (l.length : Int) := by omega
      have hk5 : k ≤ 500 := by omega
      clear h2 h3 hi hx
      have HX := HS.out k hlt (wr.alloc (.cells #[.int .i64 x.1, .string x.2.1, .string x.2.2] 66)) a m d [.int .i64 x.1, .string x.2.1, .string x.2.2] (HA.out _ _ _ _ _ _ HK.out) (by rw [hxl]; exact eItem.keep (fun b _ hl => (bal (Below.refl _ _) _).block b hl) hEx)
      have bx := Bk.new wr (.cells #[.int .i64 x.1, .string x.2.1, .string x.2.2] 66)
      clear hEx hxl
      go_upto_region 4 with fail
      generalize wr.alloc (.cells #[.int .i64 x.1, .string x.2.1, .string x.2.2] 66) = W at *
      have d0 := bx.cell 0
      have d1 := bx.cell 1
      have d2 := bx.cell 2
      simp only [List.getElem?_toArray, List.getElem?_cons_zero, List.getElem?_cons_succ] at d0 d1 d2
      clear bx c0 c1 c2
      obtain ⟨z, hz⟩ : ∃ z, er k = z := ⟨_, rfl⟩
      rw [hz] at HX
      have HZ : Hid (er k = z) := hid hz
      replace HX : Hid _ := hid HX
      clear hz
      go_wp2_with fail
      refine Calls.mono HX.out ?_
      rintro e w4 ⟨a2, m2, d2, rfl, hb4, hi4⟩
      have HI4 : Hid _ := hid hi4
      clear HX hi4
      by_cases h0 : z = 0
      · subst h0
        have HE2 : Hid (erO er (k + 1) = 0) := hid (by rw [erO_succ, if_pos HE.out, HZ.out])
        go_wp2
        go_roundw
        case rel => exact ⟨k + 1, a2, m2, d2, hlt, by go_num, rfl, hid (HI4.out (by first | rfl | trivial)), HE2⟩
        case measure => simp only [intOf]; omega
      · have HE2 : Hid (erO er l.length = z) := hid (by rw [erO_stop hlt HE.out (by rw [HZ.out]; exact h0), HZ.out])
        have h0' : (z != 0) = true := by simpa using h0
        have h0d : decide (z = 0) = false := by simpa using h0
        go_wp2
        refine bodyPost_ret (v := .tuple #[.slice none 0 0, .int .i64 z]) (by simp [results, Tryz.results114]) rfl ⟨none, 0, 0, by rw [HE2.out], hb4, fun h => absurd (HE2.out.symm.trans h) h0⟩
    · obtain rfl : k = l.length := by omega
      have hB := HI.out _ _ _ _ _ HK.out
      go_wp2
      refine bodyPost_ret (v := .tuple #[.slice a m d, .int .i64 0]) (by simp [results, Tryz.results114]) rfl ⟨a, m, d, by rw [HE.out], hB, fun _ => HK.out⟩

end Go.Proofs.YtljmlacnfnmjbaaGreat
namespace Go.Proofs.YtljmlacnfnmjbaaGreat
open Go.RowKit
set_option linter.unusedVariables false
set_option linter.unusedSimpArgs false

set_option maxRecDepth 100000 in
set_option maxHeartbeats 4000000 in
theorem foldExU {l : List (Pg × Tg)} (hlen : l.length ≤ 500) {Q : Nat → Prop} {w : World} {ao : Option Addr} {n c : Nat} (h : RowIs eG Q w (.slice ao n c) l) {N : Nat} {caps : Array Value} (hcf : ∀ args w', (callFunc N args).run Tryz.prog w' = .ok (.enter N args) w') (er : Nat → Int) (I : Nat → World → Prop)
    (hI : ∀ i w', I i w' → Below w.heap.size w w') (hA : ∀ i w' o, I i w' → I i (w'.alloc o)) (h0 : I 0 w)
    (hs : ∀ i (hi : i < l.length) (w' : World) (cs : List Value), I i w' → eG.E Q w' l[i] cs → Calls Tryz.prog N (#[.agg #[], .agg cs.toArray] ++ caps) w' fun en w'' => en = .returned (.tuple #[.agg #[], .int .i64 (er i)]) ∧ Below w.heap.size w w'' ∧ (er i = 0 → I (i + 1) w'')) :
    Calls Tryz.prog 116 #[.slice ao n c, .agg #[], .func (.func N) #[] caps] w fun en w' => en = .returned (.tuple #[.agg #[], .int .i64 (erO er l.length)]) ∧ Below w.heap.size w w' ∧ (erO er l.length = 0 → I l.length w') := by
  have HR : Hid (∀ w', Below w.heap.size w w' → RowIs eG Q w' (.slice ao n c) l) := hid fun w' hb => h.keep (by decide) fun b _ hl => hb.block b hl
  have HS : Hid (∀ i (hi : i < l.length) (w' : World) (cs : List Value), I i w' → eG.E Q w' l[i] cs → _) := hid hs
  have HI : Hid (∀ i w', I i w' → Below w.heap.size w w') := hid hI
  have HA : Hid (∀ i w' o, I i w' → I i (w'.alloc o)) := hid hA
  have H0 : Hid (I 0 w) := hid h0
  obtain ⟨ao', n', c', e', hn, hnc, hc, _⟩ := h
  cases e'
  subst hn
  clear hs hI hA h0
  go_enter Tryz.func116, Tryz.ntmps116
  go_wp2
  go_loopw [14] (fun v14 wr => ∃ k : Nat, k ≤ l.length ∧ v14 = .int .i64 k ∧ Hid (I k wr) ∧ Hid (erO er k = 0)) (fun i _ => l.length - (intOf i).toNat)
  case atStart => exact ⟨0, Nat.zero_le _, rfl, hid (HA.out _ _ _ (HA.out _ _ _ H0.out)), hid rfl⟩
  case round =>
    obtain ⟨k, hk, rfl, HK, HE⟩ := hrel
    by_cases hlt : k < l.length
    · have hB := HI.out _ _ HK.out
      obtain ⟨_, _, _, e', _, _, _, hx⟩ := HR.out wr hB
      cases e'
      obtain ⟨b, o, rfl, hq, hi⟩ := hx (by omega)
      obtain ⟨cs, hEx, h2, h3⟩ := hi k hlt
      obtain ⟨x, hxl⟩ : ∃ x, l[k] = x := ⟨_, rfl⟩
      rw [hxl] at hEx
      have hEx' := hEx
      obtain ⟨ea, en, ec, rfl, -⟩ := hEx'
      have c0 : wr.cell? ⟨b, o + k * 7, none⟩ = some (.int .i64 x.1.1) := by exact h3 0 (show 0 < 7 by decide)
      have c1 : wr.cell? ⟨b, o + k * 7 + 1, none⟩ = some (.int .i64 x.1.2.1) := by exact h3 1 (show 1 < 7 by decide)
      have c2 : wr.cell? ⟨b, o + k * 7 + 2, none⟩ = some (.int .i64 x.1.2.2.1) := by exact h3 2 (show 2 < 7 by decide)
      have c3 : wr.cell? ⟨b, o + k * 7 + 3, none⟩ = some (.string x.1.2.2.2.1) := by exact h3 3 (show 3 < 7 by decide)
      have c4 : wr.cell? ⟨b, o + k * 7 + 4, none⟩ = some (.string x.1.2.2.2.2.1) := by exact h3 4 (show 4 < 7 by decide)
      have c5 : wr.cell? ⟨b, o + k * 7 + 5, none⟩ = some (.string x.1.2.2.2.2.2) := by exact h3 5 (show 5 < 7 by decide)
      have c6 : wr.cell? ⟨b, o + k * 7 + 6, none⟩ = some (.slice ea en ec) := by exact h3 6 (show 6 < 7 by decide)
      have hkm : (k : Int) < (l.length : Int) := by omega
      have hk5 : k ≤ 500 := by omega
      clear h2 h3 hi hx
      have HX := HS.out k hlt (wr.alloc (.cells #[.int .i64 x.1.1, .int .i64 x.1.2.1, .int .i64 x.1.2.2.1, .string x.1.2.2.2.1, .string x.1.2.2.2.2.1, .string x.1.2.2.2.2.2, .slice ea en ec] 28)) [.int .i64 x.1.1, .int .i64 x.1.2.1, .int .i64 x.1.2.2.1, .string x.1.2.2.2.1, .string x.1.2.2.2.2.1, .string x.1.2.2.2.2.2, .slice ea en ec] (HA.out _ _ _ HK.out) (by rw [hxl]; exact eG.keep (fun b _ hl => (bal (Below.refl _ _) _).block b hl) hEx)
      have bx := Bk.new wr (.cells #[.int .i64 x.1.1, .int .i64 x.1.2.1, .int .i64 x.1.2.2.1, .string x.1.2.2.2.1, .string x.1.2.2.2.2.1, .string x.1.2.2.2.2.2, .slice ea en ec] 28)
      clear hEx hxl
      go_upto_region 4 with fail
      generalize wr.alloc (.cells #[.int .i64 x.1.1, .int .i64 x.1.2.1, .int .i64 x.1.2.2.1, .string x.1.2.2.2.1, .string x.1.2.2.2.2.1, .string x.1.2.2.2.2.2, .slice ea en ec] 28) = W at *
      have d0 := bx.cell 0
      have d1 := bx.cell 1
      have d2 := bx.cell 2
      have d3 := bx.cell 3
      have d4 := bx.cell 4
      have d5 := bx.cell 5
      have d6 := bx.cell 6
      simp only [List.getElem?_toArray, List.getElem?_cons_zero, List.getElem?_cons_succ] at d0 d1 d2 d3 d4 d5 d6
      clear bx c0 c1 c2 c3 c4 c5 c6
      obtain ⟨z, hz⟩ : ∃ z, er k = z := ⟨_, rfl⟩
      rw [hz] at HX
      have HZ : Hid (er k = z) := hid hz
      replace HX : Hid _ := hid HX
      clear hz
      go_wp2_with fail
      refine Calls.mono HX.out ?_
      rintro e w4 ⟨rfl, hb4, hi4⟩
      have HI4 : Hid _ := hid hi4
      clear HX hi4
      by_cases h0 : z = 0
      · subst h0
        have HE2 : Hid (erO er (k + 1) = 0) := hid (by rw [erO_succ, if_pos HE.out, HZ.out])
        go_wp2
        go_roundw
        case rel => exact ⟨k + 1, hlt, by go_num, hid (HI4.out (by first | rfl | trivial)), HE2⟩
        case measure => simp only [intOf]; omega
      · have HE2 : Hid (erO er l.length = z) := hid (by rw [erO_stop hlt HE.out (by rw [HZ.out]; exact h0), HZ.out])
        have h0' : (z != 0) = true := by simpa using h0
        have h0d : decide (z = 0) = false := by simpa using h0
        go_wp2
        refine bodyPost_ret (v := .tuple #[.agg #[], .int .i64 z]) (by simp [results, Tryz.results116, go_sem]) rfl ⟨by rw [HE2.out], bal hb4 _, fun h => absurd (HE2.out.symm.trans h) h0⟩
    · obtain rfl : k = l.length := by omega
      have hB := HI.out _ _ HK.out
      go_wp2
      refine bodyPost_ret (v := .tuple #[.agg #[], .int .i64 0]) (by simp [results, Tryz.results116, go_sem]) rfl ⟨by rw [HE.out], hB, fun _ => HK.out⟩

set_option maxRecDepth 100000 in
set_option maxHeartbeats 4000000 in
theorem foldItU {l : List (It)} (hlen : l.length ≤ 500) {Q : Nat → Prop} {w : World} {ao : Option Addr} {n c : Nat} (h : RowIs eItem Q w (.slice ao n c) l) {N : Nat} {caps : Array Value} (hcf : ∀ args w', (callFunc N args).run Tryz.prog w' = .ok (.enter N args) w') (er : Nat → Int) (I : Nat → World → Prop)
    (hI : ∀ i w', I i w' → Below w.heap.size w w') (hA : ∀ i w' o, I i w' → I i (w'.alloc o)) (h0 : I 0 w)
    (hs : ∀ i (hi : i < l.length) (w' : World) (cs : List Value), I i w' → eItem.E Q w' l[i] cs → Calls Tryz.prog N (#[.agg #[], .agg cs.toArray] ++ caps) w' fun en w'' => en = .returned (.tuple #[.agg #[], .int .i64 (er i)]) ∧ Below w.heap.size w w'' ∧ (er i = 0 → I (i + 1) w'')) :
    Calls Tryz.prog 112 #[.slice ao n c, .agg #[], .func (.func N) #[] caps] w fun en w' => en = .returned (.tuple #[.agg #[], .int .i64 (erO er l.length)]) ∧ Below w.heap.size w w' ∧ (erO er l.length = 0 → I l.length w') := by
  have HR : Hid (∀ w', Below w.heap.size w w' → RowIs eItem Q w' (.slice ao n c) l) := hid fun w' hb => h.keep (by decide) fun b _ hl => hb.block b hl
  have HS : Hid (∀ i (hi : i < l.length) (w' : World) (cs : List Value), I i w' → eItem.E Q w' l[i] cs → _) := hid hs
  have HI : Hid (∀ i w', I i w' → Below w.heap.size w w') := hid hI
  have HA : Hid (∀ i w' o, I i w' → I i (w'.alloc o)) := hid hA
  have H0 : Hid (I 0 w) := hid h0
  obtain ⟨ao', n', c', e', hn, hnc, hc, _⟩ := h
  cases e'
  subst hn
  clear hs hI hA h0
  go_enter Tryz.func112, Tryz.ntmps112
  go_wp2
  go_loopw [14] (fun v14 wr => ∃ k : Nat, k ≤ l.length ∧ v14 = .int .i64 k ∧ Hid (I k wr) ∧ Hid (erO er k = 0)) (fun i _ => l.length - (intOf i).toNat)
  case atStart => exact ⟨0, Nat.zero_le _, rfl, hid (HA.out _ _ _ (HA.out _ _ _ H0.out)), hid rfl⟩
  case round =>
    obtain ⟨k, hk, rfl, HK, HE⟩ := hrel
    by_cases hlt : k < l.length
    · have hB := HI.out _ _ HK.out
      obtain ⟨_, _, _, e', _, _, _, hx⟩ := HR.out wr hB
      cases e'
      obtain ⟨b, o, rfl, hq, hi⟩ := hx (by omega)
      obtain ⟨cs, hEx, h2, h3⟩ := hi k hlt
      obtain ⟨x, hxl⟩ : ∃ x, l[k] = x := ⟨_, rfl⟩
      rw [hxl] at hEx
      have hEx' := hEx
      obtain rfl := hEx'
      have c0 : wr.cell? ⟨b, o + k * 3, none⟩ = some (.int .i64 x.1) := by exact h3 0 (show 0 < 3 by decide)
      have c1 : wr.cell? ⟨b, o + k * 3 + 1, none⟩ = some (.string x.2.1) := by exact h3 1 (show 1 < 3 by decide)
      have c2 : wr.cell? ⟨b, o + k * 3 + 2, none⟩ = some (.string x.2.2) := by exact h3 2 (show 2 < 3 by decide)
      have hkm : (k : Int) < (l.length : Int) := by omega
      have hk5 : k ≤ 500 := by omega
      clear h2 h3 hi hx
      have HX := HS.out k hlt (wr.alloc (.cells #[.int .i64 x.1, .string x.2.1, .string x.2.2] 66)) [.int .i64 x.1, .string x.2.1, .string x.2.2] (HA.out _ _ _ HK.out) (by rw [hxl]; exact eItem.keep (fun b _ hl => (bal (Below.refl _ _) _).block b hl) hEx)
      have bx := Bk.new wr (.cells #[.int .i64 x.1, .string x.2.1, .string x.2.2] 66)
      clear hEx hxl
      go_upto_region 4 with fail
      generalize wr.alloc (.cells #[.int .i64 x.1, .string x.2.1, .string x.2.2] 66) = W at *
      have d0 := bx.cell 0
      have d1 := bx.cell 1
      have d2 := bx.cell 2
      simp only [List.getElem?_toArray, List.getElem?_cons_zero, List.getElem?_cons_succ] at d0 d1 d2
      clear bx c0 c1 c2
      obtain ⟨z, hz⟩ : ∃ z, er k = z := ⟨_, rfl⟩
      rw [hz] at HX
      have HZ : Hid (er k = z) := hid hz
      replace HX : Hid _ := hid HX
      clear hz
      go_wp2_with fail
      refine Calls.mono HX.out ?_
      rintro e w4 ⟨rfl, hb4, hi4⟩
      have HI4 : Hid _ := hid hi4
      clear HX hi4
      by_cases h0 : z = 0
      · subst h0
        have HE2 : Hid (erO er (k + 1) = 0) := hid (by rw [erO_succ, if_pos HE.out, HZ.out])
        go_wp2
        go_roundw
        case rel => exact ⟨k + 1, hlt, by go_num, hid (HI4.out (by first | rfl | trivial)), HE2⟩
        case measure => simp only [intOf]; omega
      · have HE2 : Hid (erO er l.length = z) := hid (by rw [erO_stop hlt HE.out (by rw [HZ.out]; exact h0), HZ.out])
        have h0' : (z != 0) = true := by simpa using h0
        have h0d : decide (z = 0) = false := by simpa using h0
        go_wp2
        refine bodyPost_ret (v := .tuple #[.agg #[], .int .i64 z]) (by simp [results, Tryz.results112, go_sem]) rfl ⟨by rw [HE2.out], bal hb4 _, fun h => absurd (HE2.out.symm.trans h) h0⟩
    · obtain rfl : k = l.length := by omega
      have hB := HI.out _ _ HK.out
      go_wp2
      refine bodyPost_ret (v := .tuple #[.agg #[], .int .i64 0]) (by simp [results, Tryz.results112, go_sem]) rfl ⟨by rw [HE.out], hB, fun _ => HK.out⟩

end Go.Proofs.YtljmlacnfnmjbaaGreat
namespace Go.Proofs.YtljmlacnfnmjbaaGreat
open Go.RowKit
set_option linter.unusedVariables false
set_option linter.unusedSimpArgs false

theorem Tryz.infoZCol : (Tryz.prog.info? 84).map (fun i => (i.zero, i.size, i.bytes)) = some (some (.agg #[.string ⟨#[]⟩, .int .i64 0, .string ⟨#[]⟩]), 3, 40) := by kernel_rfl
set_option maxRecDepth 100000 in
set_option maxHeartbeats 4000000 in
theorem copiesCol_own {l : List Co} (hcp : ∀ x ∈ l, Cp eCol 127 x) (hlen : l.length ≤ 500) {Q : Nat → Prop} {w : World} {ao : Option Addr} {n c : Nat} (h : RowIs eCol Q w (.slice ao n c) l) :
    Calls Tryz.prog 126 #[.slice ao n c, .func (.func 127) #[] #[]] w (TeO eCol 84 w l) := by
  have HC : Hid (∀ x ∈ l, Cp eCol 127 x) := hid hcp
  have HR : Hid (∀ w', Below w.heap.size w w' → RowIs eCol Q w' (.slice ao n c) l) := hid fun w' hb => h.keep (by decide) fun b _ hl => hb.block b hl
  obtain ⟨ao', n', c', e', hn, hnc, hc, _⟩ := h
  cases e'
  subst hn
  clear hcp
  go_enter Tryz.func126, Tryz.ntmps126
  go_wp2
  go_loopw [5, 10] (fun v5 v10 wr => ∃ (k : Nat) (css : List (List Value)), k ≤ l.length ∧ v10 = .int .i64 k ∧ Below w.heap.size w wr ∧ OwnR 84 3 w.heap.size wr v5 css ∧ css.length = k ∧ Hid (∀ i (h1 : i < l.length) (h2 : i < css.length), (eCol).E (fun b => w.heap.size ≤ b ∧ some b ≠ v5.ownBlock) wr l[i] css[i])) (fun _ i _ => l.length - (intOf i).toNat)
  case atStart => exact ⟨0, [], Nat.zero_le _, rfl, Below.refl _ _, OwnR.nil _ _ _ _, rfl, hid fun i h1 h2 => by simp at h2⟩
  case round =>
    obtain ⟨k, css, hk, rfl, hB, ho, hcl, HE⟩ := hrel
    by_cases hlt : k < l.length
    · have hcl' : css.length ≤ 500 := by omega
      obtain ⟨_, _, _, e', _, _, _, hx⟩ := HR.out wr hB
      cases e'
      obtain ⟨b, o, rfl, hq, hi⟩ := hx (by omega)
      obtain ⟨cs, hEx, h2, h3⟩ := hi k hlt
      obtain ⟨x, hxl, hxm⟩ : ∃ x, l[k] = x ∧ x ∈ l := ⟨_, rfl, List.getElem_mem hlt⟩
      rw [hxl] at hEx
      have hEx' := hEx
      obtain rfl := hEx'
      have c0 : wr.cell? ⟨b, o + k * 3, none⟩ = some (.string x.1) := h3 0 (show 0 < 3 by decide)
      have c1 : wr.cell? ⟨b, o + k * 3 + 1, none⟩ = some (.int .i64 x.2.1) := h3 1 (show 1 < 3 by decide)
      have c2 : wr.cell? ⟨b, o + k * 3 + 2, none⟩ = some (.string x.2.2) := h3 2 (show 2 < 3 by decide)
      have HX : Hid _ := hid (HC.out x hxm _ _ _ ((eCol).keep (w' := wr.alloc (.cells #[.string x.1, .int .i64 x.2.1, .string x.2.2] 84)) (fun b _ hl => (bal (Below.refl _ wr) _).block b hl) hEx))
      have HXl : Hid _ := hid hxl
      have hsz := hB.size
      have hblk := ho.blk
      have Hcl : Hid _ := hid hcl
      have hkm : (k : Int) < (l.length : Int) := by omega
      clear hEx h2 h3 hi hx hxm hxl hcl
      go_wp2_with fail
      refine Calls.mono HX.out ?_
      rintro e w4 ⟨cs', rfl, hE4, hb4⟩
      have hb4' : Below wr.heap.size wr w4 := Below.on (bal (Below.refl _ wr) _) hb4
      have hB4 : Below w.heap.size w w4 := Below.trans hB (hb4'.mono hsz)
      have hE4' := hE4
      obtain rfl := hE4'
      have ho4 := ho.later hb4'
      have ho5 := ho4.alloc (.cells #[.string x.1, .int .i64 x.2.1, .string x.2.2] 84)
      have hB5 := bal hB4 (.cells #[.string x.1, .int .i64 x.2.1, .string x.2.2] 84)
      have hs4 := hb4'.size
      have HE4 : Hid (∀ i (h1 : i < l.length) (h2 : i < css.length), (eCol).E (fun b => w.heap.size ≤ b ∧ some b ≠ u5.ownBlock) (w4.alloc (.cells #[.string x.1, .int .i64 x.2.1, .string x.2.2] 84)) l[i] css[i]) := hid fun i h1 h2 => (eCol).keep (fun b _ hl => (bal (Below.refl _ w4) _).block b hl) ((eCol).keep (fun b _ hl => hb4'.block b hl) (HE.out i h1 h2))
      have HEn : Hid ((eCol).E (fun b => w.heap.size ≤ b ∧ some b ≠ u5.ownBlock) (w4.alloc (.cells #[.string x.1, .int .i64 x.2.1, .string x.2.2] 84)) x [.string x.1, .int .i64 x.2.1, .string x.2.2]) := hid ((eCol).keep (fun b _ hl => (bal (Below.refl _ w4) _).block b hl) ((eCol).mono (fun b hq _ => ⟨by have hq' : (wr.alloc (.cells #[.string x.1, .int .i64 x.2.1, .string x.2.2] 84)).heap.size ≤ b := hq; rw [World.size_alloc] at hq'; omega, fun hbk => by have := (hblk b hbk.symm).2; have hq' : (wr.alloc (.cells #[.string x.1, .int .i64 x.2.1, .string x.2.2] 84)).heap.size ≤ b := hq; rw [World.size_alloc] at hq'; omega⟩) hE4))
      clear hE4 HE ho ho4 hB4 HX hb4 hb4'
      go_wp2_with (first | (at_builtin; refine wpList_appR Tryz.underlying39 Tryz.infoZCol rfl (by decide) (by decide) rfl (.tmp 14) (.tmp 18) rfl _ css w4.heap.size [.string x.1, .int .i64 x.2.1, .string x.2.2] rfl rfl ho5 rfl (by simp [Value.oneCell']) ?_ (by omega) hB5.size ?_) | fail)
      · intro j hj
        have hj' : j < 3 := hj
        match j, hj' with
        | 0, _ => exact cell_new w4 _ _ _ 0
        | 1, _ => exact cell_new w4 _ _ _ 1
        | 2, _ => exact cell_new w4 _ _ _ 2
      · intro v' w6 hO6 hg6 hown
        have hB6 := Below.grownR hB5 hB5.size hg6 fun k e => (hblk k e).1
        have HN : Hid (∀ i (h1 : i < l.length) (h2 : i < (css ++ [([.string x.1, .int .i64 x.2.1, .string x.2.2] : List Value)]).length), (eCol).E (fun b => w.heap.size ≤ b ∧ some b ≠ v'.ownBlock) w6 l[i] (css ++ [([.string x.1, .int .i64 x.2.1, .string x.2.2] : List Value)])[i]) := hid fun i h1 h2 => by
          by_cases hi : i < css.length
          · rw [List.getElem_append_left hi]
            exact (eCol).grow (HE4.out i h1 hi) hg6 (by simpa using hown)
          · rw [List.length_append, List.length_singleton] at h2
            obtain rfl : i = css.length := by omega
            rw [List.getElem_append_right (Nat.le_refl _)]
            have hx' : l[css.length] = x := by
              have := HXl.out
              have hk' := Hcl.out
              subst hk'
              exact this
            rw [hx']
            simpa using (eCol).grow HEn.out hg6 (by simpa using hown)
        clear HE4 HEn hg6 hown ho5 hB5 hblk
        go_wp2
        go_roundw
        case rel => exact ⟨k + 1, css ++ [([.string x.1, .int .i64 x.2.1, .string x.2.2] : List Value)], hlt, by go_num, hB6, hO6, by rw [List.length_append, List.length_singleton, Hcl.out], HN⟩
        case measure => simp only [intOf]; omega
    · obtain rfl : k = l.length := by omega
      obtain ⟨a5, n5, d5, rfl⟩ := ho.sl
      go_wp2
      go_ret
      exact ⟨_, _, _, css, rfl, ho, hcl, HE.out, hB⟩
theorem copiesCol_any {l : List Co} (hcp : ∀ x ∈ l, Cp eCol 127 x) (hlen : l.length ≤ 500) {Q : Nat → Prop} {w : World} {ao : Option Addr} {n c : Nat} (h : RowIs eCol Q w (.slice ao n c) l) :
    Calls Tryz.prog 126 #[.slice ao n c, .func (.func 127) #[] #[]] w (TeR eCol w l) := (copiesCol_own hcp hlen h).mono fun _ _ h => h.row


end Go.Proofs.YtljmlacnfnmjbaaGreat
