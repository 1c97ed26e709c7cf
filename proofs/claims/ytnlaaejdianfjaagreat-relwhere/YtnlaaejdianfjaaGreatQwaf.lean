import Derived.Test.YtnlaaejdianfjaaGreatQwae
namespace Go.Proofs.YtnlaaejdianfjaaGreat
open Go.RowKit
set_option linter.unusedVariables false
set_option linter.unusedSimpArgs false

set_option maxRecDepth 100000 in
set_option maxHeartbeats 4000000 in
theorem foldVExbo {l : List (Pg × Tg)} (hlen : l.length ≤ 500) {B : Nat} {Q : Nat → Prop} {w : World} (hBs : B ≤ w.heap.size) (hQ : ∀ b, Q b → b < B) {ao : Option Addr} {n c : Nat} (h : RowIs eG Q w (.slice ao n c) l) {N : Nat} {caps : Array Value} (hcf : ∀ args w', (callFunc N args).run Tryz.prog w' = .ok (.enter N args) w') (er : Nat → Int) (I : Nat → World → Bool → Prop)
    (hI : ∀ i w' a, I i w' a → Below B w w') (hA : ∀ i w' a o, I i w' a → I i (w'.alloc o) a) {a0 : Bool} (h0 : I 0 w a0)
    (hs : ∀ i (hi : i < l.length) (w' : World) (a : Bool) (cs : List Value), I i w' a → eG.E Q w' l[i] cs → Calls Tryz.prog N (#[.bool a, .agg cs.toArray] ++ caps) w' fun en w'' => ∃ a2, en = .returned (.tuple #[.bool a2, .int .i64 (er i)]) ∧ Below B w w'' ∧ (er i = 0 → I (i + 1) w'' a2)) :
    Calls Tryz.prog 93 #[.slice ao n c, .bool a0, .func (.func N) #[] caps] w fun en w' => ∃ a2, en = .returned (.tuple #[.bool a2, .int .i64 (erO er l.length)]) ∧ Below B w w' ∧ (erO er l.length = 0 → I l.length w' a2) ∧ (erO er l.length ≠ 0 → a2 = false) := by
  have HR : Hid (∀ w', Below B w w' → RowIs eG Q w' (.slice ao n c) l) := hid fun w' hb => h.keep (by decide) fun b hq _ => hb.block b (hQ b hq)
  have HS : Hid (∀ i (hi : i < l.length) (w' : World) (a : Bool) (cs : List Value), I i w' a → eG.E Q w' l[i] cs → _) := hid hs
  have HI : Hid (∀ i w' a, I i w' a → Below B w w') := hid hI
  have HA : Hid (∀ i w' a o, I i w' a → I i (w'.alloc o) a) := hid hA
  have H0 : Hid (I 0 w a0) := hid h0
  obtain ⟨ao', n', c', e', hn, hnc, hc, _⟩ := h
  cases e'
  subst hn
  clear hs hI hA h0 hQ
  go_enter Tryz.func93, Tryz.ntmps93
  go_wp2
  go_loopw [1, 14] (fun v1 v14 wr => ∃ k : Nat, ∃ a, k ≤ l.length ∧ v14 = .int .i64 k ∧ v1 = .bool a ∧ Hid (I k wr a) ∧ Hid (erO er k = 0)) (fun _ i _ => l.length - (intOf i).toNat)
  case atStart => exact ⟨0, _, Nat.zero_le _, rfl, rfl, H0, hid rfl⟩
  case round =>
    obtain ⟨k, a, hk, rfl, rfl, HK, HE⟩ := hrel
    by_cases hlt : k < l.length
    · have hB := HI.out _ _ _ HK.out
      obtain ⟨_, _, _, e', _, _, _, hx⟩ := HR.out wr hB
      cases e'
      obtain ⟨b, o, rfl, hq, hi⟩ := hx (by omega)
      obtain ⟨cs, hEx, h2, h3⟩ := hi k hlt
      obtain ⟨x, hxl⟩ : ∃ x, l[k] = x := ⟨_, rfl⟩
      rw [hxl] at hEx
      have hEx' := hEx
      obtain ⟨ea, en, ec, rfl, -⟩ := hEx'
      have c0 : wr.cell? ⟨b, o + k * 7, none⟩ = some (.int .i64 x.1.1) := by exact h3 0 (show 0 < 7 by decide)
      have c1 : wr.cell? ⟨b, o + k * 7 + 1, none⟩ = some (.int .i64 x.1.2.1) := by exact h3 1 (show 1 < 7 by decide)
      have c2 : wr.cell? ⟨b, o + k * 7 + 2, none⟩ = some (.int .i64 x.1.2.2.1) := by exact h3 2 (show 2 < 7 by decide)
      have c3 : wr.cell? ⟨b, o + k * 7 + 3, none⟩ = some (.string x.1.2.2.2.1) := by exact h3 3 (show 3 < 7 by decide)
      have c4 : wr.cell? ⟨b, o + k * 7 + 4, none⟩ = some (.string x.1.2.2.2.2.1) := by exact h3 4 (show 4 < 7 by decide)
      have c5 : wr.cell? ⟨b, o + k * 7 + 5, none⟩ = some (.string x.1.2.2.2.2.2) := by exact h3 5 (show 5 < 7 by decide)
      have c6 : wr.cell? ⟨b, o + k * 7 + 6, none⟩ = some (.slice ea en ec) := by exact h3 6 (show 6 < 7 by decide)
      have hkm : (k : Int) < (l.length : Int) := by omega
      have hk5 : k ≤ 500 := by omega
      clear h2 h3 hi hx
      have HX := HS.out k hlt (wr.alloc (.cells #[.int .i64 x.1.1, .int .i64 x.1.2.1, .int .i64 x.1.2.2.1, .string x.1.2.2.2.1, .string x.1.2.2.2.2.1, .string x.1.2.2.2.2.2, .slice ea en ec] 63)) a [.int .i64 x.1.1, .int .i64 x.1.2.1, .int .i64 x.1.2.2.1, .string x.1.2.2.2.1, .string x.1.2.2.2.2.1, .string x.1.2.2.2.2.2, .slice ea en ec] (HA.out _ _ _ _ HK.out) (by rw [hxl]; exact eG.keep (fun b _ hl => (bal (Below.refl _ _) _).block b hl) hEx)
      have bx := Bk.new wr (.cells #[.int .i64 x.1.1, .int .i64 x.1.2.1, .int .i64 x.1.2.2.1, .string x.1.2.2.2.1, .string x.1.2.2.2.2.1, .string x.1.2.2.2.2.2, .slice ea en ec] 63)
      clear hEx hxl
      go_upto_region 4 with fail
      generalize wr.alloc (.cells #[.int .i64 x.1.1, .int .i64 x.1.2.1, .int .i64 x.1.2.2.1, .string x.1.2.2.2.1, .string x.1.2.2.2.2.1, .string x.1.2.2.2.2.2, .slice ea en ec] 63) = W at *
      have d0 := bx.cell 0
      have d1 := bx.cell 1
      have d2 := bx.cell 2
      have d3 := bx.cell 3
      have d4 := bx.cell 4
      have d5 := bx.cell 5
      have d6 := bx.cell 6
      simp only [List.getElem?_toArray, List.getElem?_cons_zero, List.getElem?_cons_succ] at d0 d1 d2 d3 d4 d5 d6
      clear bx c0 c1 c2 c3 c4 c5 c6
      obtain ⟨z, hz⟩ : ∃ z, er k = z := ⟨_, rfl⟩
      rw [hz] at HX
      have HZ : Hid (er k = z) := hid hz
      replace HX : Hid _ := hid HX
      clear hz
      go_wp2_with fail
      refine Calls.mono HX.out ?_
      rintro e w4 ⟨a2, rfl, hb4, hi4⟩
      have HI4 : Hid _ := hid hi4
      clear HX hi4
      by_cases h0 : z = 0
      · subst h0
        have HE2 : Hid (erO er (k + 1) = 0) := hid (by rw [erO_succ, if_pos HE.out, HZ.out])
        go_wp2
        go_roundw
        case rel => exact ⟨k + 1, a2, hlt, by go_num, rfl, hid (HI4.out (by first | rfl | trivial)), HE2⟩
        case measure => simp only [intOf]; omega
      · have HE2 : Hid (erO er l.length = z) := hid (by rw [erO_stop hlt HE.out (by rw [HZ.out]; exact h0), HZ.out])
        have h0' : (z != 0) = true := by simpa using h0
        have h0d : decide (z = 0) = false := by simpa using h0
        go_wp2
        refine bodyPost_ret (v := .tuple #[.bool false, .int .i64 z]) (by simp [results, Tryz.results93]) rfl ⟨false, by rw [HE2.out], hb4, fun h => absurd (HE2.out.symm.trans h) h0, fun _ => rfl⟩
    · obtain rfl : k = l.length := by omega
      have hB := HI.out _ _ _ HK.out
      go_wp2
      refine bodyPost_ret (v := .tuple #[.bool a, .int .i64 0]) (by simp [results, Tryz.results93]) rfl ⟨a, by rw [HE.out], hB, fun _ => HK.out, fun h => absurd HE.out h⟩

set_option maxRecDepth 100000 in
set_option maxHeartbeats 4000000 in
theorem foldVExin {l : List (Pg × Tg)} (hlen : l.length ≤ 500) {B : Nat} {Q : Nat → Prop} {w : World} (hBs : B ≤ w.heap.size) (hQ : ∀ b, Q b → b < B) {ao : Option Addr} {n c : Nat} (h : RowIs eG Q w (.slice ao n c) l) {N : Nat} {caps : Array Value} (hcf : ∀ args w', (callFunc N args).run Tryz.prog w' = .ok (.enter N args) w') (er : Nat → Int) (I : Nat → World → Int → Prop)
    (hI : ∀ i w' a, I i w' a → Below B w w') (hA : ∀ i w' a o, I i w' a → I i (w'.alloc o) a) {a0 : Int} (h0 : I 0 w a0)
    (hs : ∀ i (hi : i < l.length) (w' : World) (a : Int) (cs : List Value), I i w' a → eG.E Q w' l[i] cs → Calls Tryz.prog N (#[.int .i64 a, .agg cs.toArray] ++ caps) w' fun en w'' => ∃ a2, en = .returned (.tuple #[.int .i64 a2, .int .i64 (er i)]) ∧ Below B w w'' ∧ (er i = 0 → I (i + 1) w'' a2)) :
    Calls Tryz.prog 135 #[.slice ao n c, .int .i64 a0, .func (.func N) #[] caps] w fun en w' => ∃ a2, en = .returned (.tuple #[.int .i64 a2, .int .i64 (erO er l.length)]) ∧ Below B w w' ∧ (erO er l.length = 0 → I l.length w' a2) ∧ (erO er l.length ≠ 0 → a2 = 0) := by
  have HR : Hid (∀ w', Below B w w' → RowIs eG Q w' (.slice ao n c) l) := hid fun w' hb => h.keep (by decide) fun b hq _ => hb.block b (hQ b hq)
  have HS : Hid (∀ i (hi : i < l.length) (w' : World) (a : Int) (cs : List Value), I i w' a → eG.E Q w' l[i] cs → _) := hid hs
  have HI : Hid (∀ i w' a, I i w' a → Below B w w') := hid hI
  have HA : Hid (∀ i w' a o, I i w' a → I i (w'.alloc o) a) := hid hA
  have H0 : Hid (I 0 w a0) := hid h0
  obtain ⟨ao', n', c', e', hn, hnc, hc, _⟩ := h
  cases e'
  subst hn
  clear hs hI hA h0 hQ
  go_enter Tryz.func135, Tryz.ntmps135
  go_wp2
  go_loopw [1, 14] (fun v1 v14 wr => ∃ k : Nat, ∃ a, k ≤ l.length ∧ v14 = .int .i64 k ∧ v1 = .int .i64 a ∧ Hid (I k wr a) ∧ Hid (erO er k = 0)) (fun _ i _ => l.length - (intOf i).toNat)
  case atStart => exact ⟨0, _, Nat.zero_le _, rfl, rfl, H0, hid rfl⟩
  case round =>
    obtain ⟨k, a, hk, rfl, rfl, HK, HE⟩ := hrel
    by_cases hlt : k < l.length
    · have hB := HI.out _ _ _ HK.out
      obtain ⟨_, _, _, e', _, _, _, hx⟩ := HR.out wr hB
      cases e'
      obtain ⟨b, o, rfl, hq, hi⟩ := hx (by omega)
      obtain ⟨cs, hEx, h2, h3⟩ := hi k hlt
      obtain ⟨x, hxl⟩ : ∃ x, l[k] = x := ⟨_, rfl⟩
      rw [hxl] at hEx
      have hEx' := hEx
      obtain ⟨ea, en, ec, rfl, -⟩ := hEx'
      have c0 : wr.cell? ⟨b, o + k * 7, none⟩ = some (.int .i64 x.1.1) := by exact h3 0 (show 0 < 7 by decide)
      have c1 : wr.cell? ⟨b, o + k * 7 + 1, none⟩ = some (.int .i64 x.1.2.1) := by exact h3 1 (show 1 < 7 by decide)
      have c2 : wr.cell? ⟨b, o + k * 7 + 2, none⟩ = some (.int .i64 x.1.2.2.1) := by exact h3 2 (show 2 < 7 by decide)
      have c3 : wr.cell? ⟨b, o + k * 7 + 3, none⟩ = some (.string x.1.2.2.2.1) := by exact h3 3 (show 3 < 7 by decide)
      have c4 : wr.cell? ⟨b, o + k * 7 + 4, none⟩ = some (.string x.1.2.2.2.2.1) := by exact h3 4 (show 4 < 7 by decide)
      have c5 : wr.cell? ⟨b, o + k * 7 + 5, none⟩ = some (.string x.1.2.2.2.2.2) := by exact h3 5 (show 5 < 7 by decide)
      have c6 : wr.cell? ⟨b, o + k * 7 + 6, none⟩ = some (.slice ea en ec) := by exact h3 6 (show 6 < 7 by decide)
      have hkm : (k : Int) < (l.length : Int) := by omega
      have hk5 : k ≤ 500 := by omega
      clear h2 h3 hi hx
      have HX := HS.out k hlt (wr.alloc (.cells #[.int .i64 x.1.1, .int .i64 x.1.2.1, .int .i64 x.1.2.2.1, .string x.1.2.2.2.1, .string x.1.2.2.2.2.1, .string x.1.2.2.2.2.2, .slice ea en ec] 63)) a [.int .i64 x.1.1, .int .i64 x.1.2.1, .int .i64 x.1.2.2.1, .string x.1.2.2.2.1, .string x.1.2.2.2.2.1, .string x.1.2.2.2.2.2, .slice ea en ec] (HA.out _ _ _ _ HK.out) (by rw [hxl]; exact eG.keep (fun b _ hl => (bal (Below.refl _ _) _).block b hl) hEx)
      have bx := Bk.new wr (.cells #[.int .i64 x.1.1, .int .i64 x.1.2.1, .int .i64 x.1.2.2.1, .string x.1.2.2.2.1, .string x.1.2.2.2.2.1, .string x.1.2.2.2.2.2, .slice ea en ec] 63)
      clear hEx hxl
      go_upto_region 4 with fail
      generalize wr.alloc (.cells #[.int .i64 x.1.1, .int .i64 x.1.2.1, .int .i64 x.1.2.2.1, .string x.1.2.2.2.1, .string x.1.2.2.2.2.1, .string x.1.2.2.2.2.2, .slice ea en ec] 63) = W at *
      have d0 := bx.cell 0
      have d1 := bx.cell 1
      have d2 := bx.cell 2
      have d3 := bx.cell 3
      have d4 := bx.cell 4
      have d5 := bx.cell 5
      have d6 := bx.cell 6
      simp only [List.getElem?_toArray, List.getElem?_cons_zero, List.getElem?_cons_succ] at d0 d1 d2 d3 d4 d5 d6
      clear bx c0 c1 c2 c3 c4 c5 c6
      obtain ⟨z, hz⟩ : ∃ z, er k = z := ⟨_, rfl⟩
      rw [hz] at HX
      have HZ : Hid (er k = z) := hid hz
      replace HX : Hid _ := hid HX
      clear hz
      go_wp2_with fail
      refine Calls.mono HX.out ?_
      rintro e w4 ⟨a2, rfl, hb4, hi4⟩
      have HI4 : Hid _ := hid hi4
      clear HX hi4
      by_cases h0 : z = 0
      · subst h0
        have HE2 : Hid (erO er (k + 1) = 0) := hid (by rw [erO_succ, if_pos HE.out, HZ.out])
        go_wp2
        go_roundw
        case rel => exact ⟨k + 1, a2, hlt, by go_num, rfl, hid (HI4.out (by first | rfl | trivial)), HE2⟩
        case measure => simp only [intOf]; omega
      · have HE2 : Hid (erO er l.length = z) := hid (by rw [erO_stop hlt HE.out (by rw [HZ.out]; exact h0), HZ.out])
        have h0' : (z != 0) = true := by simpa using h0
        have h0d : decide (z = 0) = false := by simpa using h0
        go_wp2
        refine bodyPost_ret (v := .tuple #[.int .i64 0, .int .i64 z]) (by simp [results, Tryz.results135]) rfl ⟨0, by rw [HE2.out], hb4, fun h => absurd (HE2.out.symm.trans h) h0, fun _ => rfl⟩
    · obtain rfl : k = l.length := by omega
      have hB := HI.out _ _ _ HK.out
      go_wp2
      refine bodyPost_ret (v := .tuple #[.int .i64 a, .int .i64 0]) (by simp [results, Tryz.results135]) rfl ⟨a, by rw [HE.out], hB, fun _ => HK.out, fun h => absurd HE.out h⟩

set_option maxRecDepth 100000 in
set_option maxHeartbeats 4000000 in
theorem foldVExsl {l : List (Pg × Tg)} (hlen : l.length ≤ 500) {B : Nat} {Q : Nat → Prop} {w : World} (hBs : B ≤ w.heap.size) (hQ : ∀ b, Q b → b < B) {ao : Option Addr} {n c : Nat} (h : RowIs eG Q w (.slice ao n c) l) {N : Nat} {caps : Array Value} (hcf : ∀ args w', (callFunc N args).run Tryz.prog w' = .ok (.enter N args) w') (er : Nat → Int) (I : Nat → World → Option Addr → Nat → Nat → Prop)
    (hI : ∀ i w' a m d, I i w' a m d → Below B w w') (hA : ∀ i w' a m d o, I i w' a m d → I i (w'.alloc o) a m d) {a0 : Option Addr} {m0 : Nat} {d0 : Nat} (h0 : I 0 w a0 m0 d0)
    (hs : ∀ i (hi : i < l.length) (w' : World) (a : Option Addr) (m : Nat) (d : Nat) (cs : List Value), I i w' a m d → eG.E Q w' l[i] cs → Calls Tryz.prog N (#[.slice a m d, .agg cs.toArray] ++ caps) w' fun en w'' => ∃ a2 m2 d2, en = .returned (.tuple #[.slice a2 m2 d2, .int .i64 (er i)]) ∧ Below B w w'' ∧ (er i = 0 → I (i + 1) w'' a2 m2 d2)) :
    Calls Tryz.prog 139 #[.slice ao n c, .slice a0 m0 d0, .func (.func N) #[] caps] w fun en w' => ∃ a2 m2 d2, en = .returned (.tuple #[.slice a2 m2 d2, .int .i64 (erO er l.length)]) ∧ Below B w w' ∧ (erO er l.length = 0 → I l.length w' a2 m2 d2) ∧ (erO er l.length ≠ 0 → True) := by
  have HR : Hid (∀ w', Below B w w' → RowIs eG Q w' (.slice ao n c) l) := hid fun w' hb => h.keep (by decide) fun b hq _ => hb.block b (hQ b hq)
  have HS : Hid (∀ i (hi : i < l.length) (w' : World) (a : Option Addr) (m : Nat) (d : Nat) (cs : List Value), I i w' a m d → eG.E Q w' l[i] cs → _) := hid hs
  have HI : Hid (∀ i w' a m d, I i w' a m d → Below B w w') := hid hI
  have HA : Hid (∀ i w' a m d o, I i w' a m d → I i (w'.alloc o) a m d) := hid hA
  have H0 : Hid (I 0 w a0 m0 d0) := hid h0
  obtain ⟨ao', n', c', e', hn, hnc, hc, _⟩ := h
  cases e'
  subst hn
  clear hs hI hA h0 hQ
  go_enter Tryz.func139, Tryz.ntmps139
  go_wp2
  go_loopw [1, 14] (fun v1 v14 wr => ∃ k : Nat, ∃ a m d, k ≤ l.length ∧ v14 = .int .i64 k ∧ v1 = .slice a m d ∧ Hid (I k wr a m d) ∧ Hid (erO er k = 0)) (fun _ i _ => l.length - (intOf i).toNat)
  case atStart => exact ⟨0, _, _, _, Nat.zero_le _, rfl, rfl, H0, hid rfl⟩
  case round =>
    obtain ⟨k, a, m, d, hk, rfl, rfl, HK, HE⟩ := hrel
    by_cases hlt : k < l.length
    · have hB := HI.out _ _ _ _ _ HK.out
      obtain ⟨_, _, _, e', _, _, _, hx⟩ := HR.out wr hB
      cases e'
      obtain ⟨b, o, rfl, hq, hi⟩ := hx (by omega)
      obtain ⟨cs, hEx, h2, h3⟩ := hi k hlt
      obtain ⟨x, hxl⟩ : ∃ x, l[k] = x := ⟨_, rfl⟩
      rw [hxl] at hEx
      have hEx' := hEx
      obtain ⟨ea, en, ec, rfl, -⟩ := hEx'
      have c0 : wr.cell? ⟨b, o + k * 7, none⟩ = some (.int .i64 x.1.1) := by exact h3 0 (show 0 < 7 by decide)
      have c1 : wr.cell? ⟨b, o + k * 7 + 1, none⟩ = some (.int .i64 x.1.2.1) := by exact h3 1 (show 1 < 7 by decide)
      have c2 : wr.cell? ⟨b, o + k * 7 + 2, none⟩ = some (.int .i64 x.1.2.2.1) := by exact h3 2 (show 2 < 7 by decide)
      have c3 : wr.cell? ⟨b, o + k * 7 + 3, none⟩ = some (.string x.1.2.2.2.1) := by exact h3 3 (show 3 < 7 by decide)
      have c4 : wr.cell? ⟨b, o + k * 7 + 4, none⟩ = some (.string x.1.2.2.2.2.1) := by exact h3 4 (show 4 < 7 by decide)
      have c5 : wr.cell? ⟨b, o + k * 7 + 5, none⟩ = some (.string x.1.2.2.2.2.2) := by exact h3 5 (show 5 < 7 by decide)
      have c6 : wr.cell? ⟨b, o + k * 7 + 6, none⟩ = some (.slice ea en ec) := by exact h3 6 (show 6 < 7 by decide)
      have hkm : (k : Int) < (l.length : Int) := by omega
      have hk5 : k ≤ 500 := by omega
      clear h2 h3 hi hx
      have HX := HS.out k hlt (wr.alloc (.cells #[.int .i64 x.1.1, .int .i64 x.1.2.1, .int .i64 x.1.2.2.1, .string x.1.2.2.2.1, .string x.1.2.2.2.2.1, .string x.1.2.2.2.2.2, .slice ea en ec] 63)) a m d [.int .i64 x.1.1, .int .i64 x.1.2.1, .int .i64 x.1.2.2.1, .string x.1.2.2.2.1, .string x.1.2.2.2.2.1, .string x.1.2.2.2.2.2, .slice ea en ec] (HA.out _ _ _ _ _ _ HK.out) (by rw [hxl]; exact eG.keep (fun b _ hl => (bal (Below.refl _ _) _).block b hl) hEx)
      have bx := Bk.new wr (.cells #[.int .i64 x.1.1, .int .i64 x.1.2.1, .int .i64 x.1.2.2.1, .string x.1.2.2.2.1, .string x.1.2.2.2.2.1, .string x.1.2.2.2.2.2, .slice ea en ec] 63)
      clear hEx hxl
      go_upto_region 4 with fail
      generalize wr.alloc (.cells #[.int .i64 x.1.1, .int .i64 x.1.2.1, .int .i64 x.1.2.2.1, .string x.1.2.2.2.1, .string x.1.2.2.2.2.1, .string x.1.2.2.2.2.2, .slice ea en ec] 63) = W at *
      have d0 := bx.cell 0
      have d1 := bx.cell 1
      have d2 := bx.cell 2
      have d3 := bx.cell 3
      have d4 := bx.cell 4
      have d5 := bx.cell 5
      have d6 := bx.cell 6
      simp only [List.getElem?_toArray, List.getElem?_cons_zero, List.getElem?_cons_succ] at d0 d1 d2 d3 d4 d5 d6
      clear bx c0 c1 c2 c3 c4 c5 c6
      obtain ⟨z, hz⟩ : ∃ z, er k = z := ⟨_, rfl⟩
      rw [hz] at HX
      have HZ : Hid (er k = z) := hid hz
      replace HX : Hid _ := hid HX
      clear hz
      go_wp2_with fail
      refine Calls.mono HX.out ?_
      rintro e w4 ⟨a2, m2, d2, rfl, hb4, hi4⟩
      have HI4 : Hid _ := hid hi4
      clear HX hi4
      by_cases h0 : z = 0
      · subst h0
        have HE2 : Hid (erO er (k + 1) = 0) := hid (by rw [erO_succ, if_pos HE.out, HZ.out])
        go_wp2
        go_roundw
        case rel => exact ⟨k + 1, a2, m2, d2, hlt, by go_num, rfl, hid (HI4.out (by first | rfl | trivial)), HE2⟩
        case measure => simp only [intOf]; omega
      · have HE2 : Hid (erO er l.length = z) := hid (by rw [erO_stop hlt HE.out (by rw [HZ.out]; exact h0), HZ.out])
        have h0' : (z != 0) = true := by simpa using h0
        have h0d : decide (z = 0) = false := by simpa using h0
        go_wp2
        refine bodyPost_ret (v := .tuple #[.slice none 0 0, .int .i64 z]) (by simp [results, Tryz.results139]) rfl ⟨none, 0, 0, by rw [HE2.out], hb4, fun h => absurd (HE2.out.symm.trans h) h0, fun _ => trivial⟩
    · obtain rfl : k = l.length := by omega
      have hB := HI.out _ _ _ _ _ HK.out
      go_wp2
      refine bodyPost_ret (v := .tuple #[.slice a m d, .int .i64 0]) (by simp [results, Tryz.results139]) rfl ⟨a, m, d, by rw [HE.out], hB, fun _ => HK.out, fun h => absurd HE.out h⟩

end Go.Proofs.YtnlaaejdianfjaaGreat
namespace Go.Proofs.YtnlaaejdianfjaaGreat
open Go.RowKit
set_option linter.unusedVariables false
set_option linter.unusedSimpArgs false

set_option maxRecDepth 100000 in
set_option maxHeartbeats 4000000 in
theorem foldVVasl {l : List (Vt)} (hlen : l.length ≤ 500) {B : Nat} {Q : Nat → Prop} {w : World} (hBs : B ≤ w.heap.size) (hQ : ∀ b, Q b → b < B) {ao : Option Addr} {n c : Nat} (h : RowIs eVal Q w (.slice ao n c) l) {N : Nat} {caps : Array Value} (hcf : ∀ args w', (callFunc N args).run Tryz.prog w' = .ok (.enter N args) w') (er : Nat → Int) (I : Nat → World → Option Addr → Nat → Nat → Prop)
    (hI : ∀ i w' a m d, I i w' a m d → Below B w w') (hA : ∀ i w' a m d o, I i w' a m d → I i (w'.alloc o) a m d) {a0 : Option Addr} {m0 : Nat} {d0 : Nat} (h0 : I 0 w a0 m0 d0)
    (hs : ∀ i (hi : i < l.length) (w' : World) (a : Option Addr) (m : Nat) (d : Nat) (cs : List Value), I i w' a m d → eVal.E Q w' l[i] cs → Calls Tryz.prog N (#[.slice a m d, .agg cs.toArray] ++ caps) w' fun en w'' => ∃ a2 m2 d2, en = .returned (.tuple #[.slice a2 m2 d2, .int .i64 (er i)]) ∧ Below B w w'' ∧ (er i = 0 → I (i + 1) w'' a2 m2 d2)) :
    Calls Tryz.prog 152 #[.slice ao n c, .slice a0 m0 d0, .func (.func N) #[] caps] w fun en w' => ∃ a2 m2 d2, en = .returned (.tuple #[.slice a2 m2 d2, .int .i64 (erO er l.length)]) ∧ Below B w w' ∧ (erO er l.length = 0 → I l.length w' a2 m2 d2) ∧ (erO er l.length ≠ 0 → True) := by
  have HR : Hid (∀ w', Below B w w' → RowIs eVal Q w' (.slice ao n c) l) := hid fun w' hb => h.keep (by decide) fun b hq _ => hb.block b (hQ b hq)
  have HS : Hid (∀ i (hi : i < l.length) (w' : World) (a : Option Addr) (m : Nat) (d : Nat) (cs : List Value), I i w' a m d → eVal.E Q w' l[i] cs → _) := hid hs
  have HI : Hid (∀ i w' a m d, I i w' a m d → Below B w w') := hid hI
  have HA : Hid (∀ i w' a m d o, I i w' a m d → I i (w'.alloc o) a m d) := hid hA
  have H0 : Hid (I 0 w a0 m0 d0) := hid h0
  obtain ⟨ao', n', c', e', hn, hnc, hc, _⟩ := h
  cases e'
  subst hn
  clear hs hI hA h0 hQ
  go_enter Tryz.func152, Tryz.ntmps152
  go_wp2
  go_loopw [1, 14] (fun v1 v14 wr => ∃ k : Nat, ∃ a m d, k ≤ l.length ∧ v14 = .int .i64 k ∧ v1 = .slice a m d ∧ Hid (I k wr a m d) ∧ Hid (erO er k = 0)) (fun _ i _ => l.length - (intOf i).toNat)
  case atStart => exact ⟨0, _, _, _, Nat.zero_le _, rfl, rfl, H0, hid rfl⟩
  case round =>
    obtain ⟨k, a, m, d, hk, rfl, rfl, HK, HE⟩ := hrel
    by_cases hlt : k < l.length
    · have hB := HI.out _ _ _ _ _ HK.out
      obtain ⟨_, _, _, e', _, _, _, hx⟩ := HR.out wr hB
      cases e'
      obtain ⟨b, o, rfl, hq, hi⟩ := hx (by omega)
      obtain ⟨cs, hEx, h2, h3⟩ := hi k hlt
      obtain ⟨x, hxl⟩ : ∃ x, l[k] = x := ⟨_, rfl⟩
      rw [hxl] at hEx
      have hEx' := hEx
      obtain rfl := hEx'
      have c0 : wr.cell? ⟨b, o + k * 3, none⟩ = some (.int .i64 x.1) := by exact h3 0 (show 0 < 3 by decide)
      have c1 : wr.cell? ⟨b, o + k * 3 + 1, none⟩ = some (.int .i64 x.2.1) := by exact h3 1 (show 1 < 3 by decide)
      have c2 : wr.cell? ⟨b, o + k * 3 + 2, none⟩ = some (.string x.2.2) := by exact h3 2 (show 2 < 3 by decide)
      have hkm : (k : Int) < (l.length : Int) := by omega
      have hk5 : k ≤ 500 := by omega
      clear h2 h3 hi hx
      have HX := HS.out k hlt (wr.alloc (.cells #[.int .i64 x.1, .int .i64 x.2.1, .string x.2.2] 44)) a m d [.int .i64 x.1, .int .i64 x.2.1, .string x.2.2] (HA.out _ _ _ _ _ _ HK.out) (by rw [hxl]; exact eVal.keep (fun b _ hl => (bal (Below.refl _ _) _).block b hl) hEx)
      have bx := Bk.new wr (.cells #[.int .i64 x.1, .int .i64 x.2.1, .string x.2.2] 44)
      clear hEx hxl
      go_upto_region 4 with fail
      generalize wr.alloc (.cells #[.int .i64 x.1, .int .i64 x.2.1, .string x.2.2] 44) = W at *
      have d0 := bx.cell 0
      have d1 := bx.cell 1
      have d2 := bx.cell 2
      simp only [List.getElem?_toArray, List.getElem?_cons_zero, List.getElem?_cons_succ] at d0 d1 d2
      clear bx c0 c1 c2
      obtain ⟨z, hz⟩ : ∃ z, er k = z := ⟨_, rfl⟩
      rw [hz] at HX
      have HZ : Hid (er k = z) := hid hz
      replace HX : Hid _ := hid HX
      clear hz
      go_wp2_with fail
      refine Calls.mono HX.out ?_
      rintro e w4 ⟨a2, m2, d2, rfl, hb4, hi4⟩
      have HI4 : Hid _ := hid hi4
      clear HX hi4
      by_cases h0 : z = 0
      · subst h0
        have HE2 : Hid (erO er (k + 1) = 0) := hid (by rw [erO_succ, if_pos HE.out, HZ.out])
        go_wp2
        go_roundw
        case rel => exact ⟨k + 1, a2, m2, d2, hlt, by go_num, rfl, hid (HI4.out (by first | rfl | trivial)), HE2⟩
        case measure => simp only [intOf]; omega
      · have HE2 : Hid (erO er l.length = z) := hid (by rw [erO_stop hlt HE.out (by rw [HZ.out]; exact h0), HZ.out])
        have h0' : (z != 0) = true := by simpa using h0
        have h0d : decide (z = 0) = false := by simpa using h0
        go_wp2
        refine bodyPost_ret (v := .tuple #[.slice none 0 0, .int .i64 z]) (by simp [results, Tryz.results152]) rfl ⟨none, 0, 0, by rw [HE2.out], hb4, fun h => absurd (HE2.out.symm.trans h) h0, fun _ => trivial⟩
    · obtain rfl : k = l.length := by omega
      have hB := HI.out _ _ _ _ _ HK.out
      go_wp2
      refine bodyPost_ret (v := .tuple #[.slice a m d, .int .i64 0]) (by simp [results, Tryz.results152]) rfl ⟨a, m, d, by rw [HE.out], hB, fun _ => HK.out, fun h => absurd HE.out h⟩

set_option maxRecDepth 100000 in
set_option maxHeartbeats 4000000 in
theorem foldVInin {l : List (Int)} (hlen : l.length ≤ 500) {B : Nat} {Q : Nat → Prop} {w : World} (hBs : B ≤ w.heap.size) (hQ : ∀ b, Q b → b < B) {ao : Option Addr} {n c : Nat} (h : RowIs eInt Q w (.slice ao n c) l) {N : Nat} {caps : Array Value} (hcf : ∀ args w', (callFunc N args).run Tryz.prog w' = .ok (.enter N args) w') (er : Nat → Int) (I : Nat → World → Int → Prop)
    (hI : ∀ i w' a, I i w' a → Below B w w') (hA : ∀ i w' a o, I i w' a → I i (w'.alloc o) a) {a0 : Int} (h0 : I 0 w a0)
    (hs : ∀ i (hi : i < l.length) (w' : World) (a : Int), I i w' a → Calls Tryz.prog N (#[.int .i64 a, .int .i64 l[i]] ++ caps) w' fun en w'' => ∃ a2, en = .returned (.tuple #[.int .i64 a2, .int .i64 (er i)]) ∧ Below B w w'' ∧ (er i = 0 → I (i + 1) w'' a2)) :
    Calls Tryz.prog 161 #[.slice ao n c, .int .i64 a0, .func (.func N) #[] caps] w fun en w' => ∃ a2, en = .returned (.tuple #[.int .i64 a2, .int .i64 (erO er l.length)]) ∧ Below B w w' ∧ (erO er l.length = 0 → I l.length w' a2) ∧ (erO er l.length ≠ 0 → a2 = 0) := by
  have HR : Hid (∀ w', Below B w w' → RowIs eInt Q w' (.slice ao n c) l) := hid fun w' hb => h.keep (by decide) fun b hq _ => hb.block b (hQ b hq)
  have HS : Hid (∀ i (hi : i < l.length) (w' : World) (a : Int), I i w' a → _) := hid hs
  have HI : Hid (∀ i w' a, I i w' a → Below B w w') := hid hI
  have HA : Hid (∀ i w' a o, I i w' a → I i (w'.alloc o) a) := hid hA
  have H0 : Hid (I 0 w a0) := hid h0
  obtain ⟨ao', n', c', e', hn, hnc, hc, _⟩ := h
  cases e'
  subst hn
  clear hs hI hA h0 hQ
  go_enter Tryz.func161, Tryz.ntmps161
  go_wp2
  go_loopw [1, 14] (fun v1 v14 wr => ∃ k : Nat, ∃ a, k ≤ l.length ∧ v14 = .int .i64 k ∧ v1 = .int .i64 a ∧ Hid (I k wr a) ∧ Hid (erO er k = 0)) (fun _ i _ => l.length - (intOf i).toNat)
  case atStart => exact ⟨0, _, Nat.zero_le _, rfl, rfl, H0, hid rfl⟩
  case round =>
    obtain ⟨k, a, hk, rfl, rfl, HK, HE⟩ := hrel
    by_cases hlt : k < l.length
    · have hB := HI.out _ _ _ HK.out
      obtain ⟨_, _, _, e', _, _, _, hx⟩ := HR.out wr hB
      cases e'
      obtain ⟨b, o, rfl, hq, hi⟩ := hx (by omega)
      obtain ⟨cs, hEx, h2, h3⟩ := hi k hlt
      obtain ⟨x, hxl⟩ : ∃ x, l[k] = x := ⟨_, rfl⟩
      rw [hxl] at hEx
      have hEx' := hEx
      obtain rfl := hEx'
      have c0 : wr.cell? ⟨b, o + k, none⟩ = some (.int .i64 x) := by have := h3 0 (show 0 < 1 by decide); simpa [eInt] using this
      have hkm : (k : Int) < (l.length : Int) := by omega
      have hk5 : k ≤ 500 := by omega
      clear h2 h3 hi hx
      have HX := HS.out k hlt wr a HK.out
      rw [hxl] at HX
      clear hEx hxl
      obtain ⟨z, hz⟩ : ∃ z, er k = z := ⟨_, rfl⟩
      rw [hz] at HX
      have HZ : Hid (er k = z) := hid hz
      replace HX : Hid _ := hid HX
      clear hz
      go_wp2_with fail
      refine Calls.mono HX.out ?_
      rintro e w4 ⟨a2, rfl, hb4, hi4⟩
      have HI4 : Hid _ := hid hi4
      clear HX hi4
      by_cases h0 : z = 0
      · subst h0
        have HE2 : Hid (erO er (k + 1) = 0) := hid (by rw [erO_succ, if_pos HE.out, HZ.out])
        go_wp2
        go_roundw
        case rel => exact ⟨k + 1, a2, hlt, by go_num, rfl, hid (HI4.out (by first | rfl | trivial)), HE2⟩
        case measure => simp only [intOf]; omega
      · have HE2 : Hid (erO er l.length = z) := hid (by rw [erO_stop hlt HE.out (by rw [HZ.out]; exact h0), HZ.out])
        have h0' : (z != 0) = true := by simpa using h0
        have h0d : decide (z = 0) = false := by simpa using h0
        go_wp2
        refine bodyPost_ret (v := .tuple #[.int .i64 0, .int .i64 z]) (by simp [results, Tryz.results161]) rfl ⟨0, by rw [HE2.out], hb4, fun h => absurd (HE2.out.symm.trans h) h0, fun _ => rfl⟩
    · obtain rfl : k = l.length := by omega
      have hB := HI.out _ _ _ HK.out
      go_wp2
      refine bodyPost_ret (v := .tuple #[.int .i64 a, .int .i64 0]) (by simp [results, Tryz.results161]) rfl ⟨a, by rw [HE.out], hB, fun _ => HK.out, fun h => absurd HE.out h⟩

end Go.Proofs.YtnlaaejdianfjaaGreat
