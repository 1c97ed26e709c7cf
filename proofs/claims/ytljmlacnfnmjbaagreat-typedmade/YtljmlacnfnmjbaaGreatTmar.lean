import Derived.Test.YtljmlacnfnmjbaaGreatTmap
namespace Go.Proofs.YtljmlacnfnmjbaaGreat
open Go.RowKit
set_option linter.unusedVariables false
set_option linter.unusedSimpArgs false

set_option maxRecDepth 100000 in
set_option maxHeartbeats 4000000 in
theorem foldCmCms {l : List (Cl3)} (hlen : l.length ≤ 500) {Q : Nat → Prop} {w : World} {ao : Option Addr} {n c : Nat} (h : RowIs eClm Q w (.slice ao n c) l) {N : Nat} {caps : Array Value} (hcf : ∀ args w',(callFunc N args).run Tryz.prog w' = .ok (.enter N args) w') (er : Nat → Int) (I : Nat → World → Option Addr → Nat → Nat → Prop)
  (hI : ∀ i w' a m d,I i w' a m d → Below w.heap.size w w') (hA : ∀ i w' a m d o,I i w' a m d → I i (w'.alloc o) a m d) {a0 : Option Addr} {m0 d0 : Nat} (h0 : I 0 w a0 m0 d0)
  (hs : ∀ i (hi : i < l.length) (w' : World) (a : Option Addr) (m d : Nat) (cs : List Value),I i w' a m d → eClm.E Q w' l[i] cs → Calls Tryz.prog N (#[.slice a m d,.agg cs.toArray] ++ caps) w' fun en w'' => ∃ a2 m2 d2,en = .returned (.tuple #[.slice a2 m2 d2,.int .i64 (er i)]) ∧ Below w.heap.size w w'' ∧ (er i = 0 → I (i + 1) w'' a2 m2 d2)) :
  Calls Tryz.prog 102 #[.slice ao n c,.slice a0 m0 d0,.func (.func N) #[] caps] w fun en w' => ∃ a2 m2 d2,en = .returned (.tuple #[.slice a2 m2 d2,.int .i64 (erO er l.length)]) ∧ Below w.heap.size w w' ∧ (erO er l.length = 0 → I l.length w' a2 m2 d2) := by
 have HR : Hid (∀ w',Below w.heap.size w w' → RowIs eClm Q w' (.slice ao n c) l) := hid fun w' hb => h.keep (by decide) fun b _ hl => hb.block b hl
 have HS : Hid (∀ i (hi : i < l.length) (w' : World) (a : Option Addr) (m d : Nat) (cs : List Value),I i w' a m d → eClm.E Q w' l[i] cs → _) := hid hs
 have HI : Hid (∀ i w' a m d,I i w' a m d → Below w.heap.size w w') := hid hI
 have HA : Hid (∀ i w' a m d o,I i w' a m d → I i (w'.alloc o) a m d) := hid hA
 have H0 : Hid (I 0 w a0 m0 d0) := hid h0
 obtain ⟨ao',n',c',e',hn,hnc,hc,_⟩ := h
 cases e'
 subst hn
 clear hs hI hA h0
 go_enter Tryz.func102,Tryz.ntmps102
 go_wp2
 go_loopw [1,14] (fun v1 v14 wr => ∃ k : Nat,∃ a m d,k ≤ l.length ∧ v14 = .int .i64 k ∧ v1 = .slice a m d ∧ Hid (I k wr a m d) ∧ Hid (erO er k = 0)) (fun _ i _ => l.length - (intOf i).toNat)
 case atStart => exact ⟨0,_,_,_,Nat.zero_le _,rfl,rfl,H0,hid rfl⟩
 case round =>
  obtain ⟨k,a,m,d,hk,rfl,rfl,HK,HE⟩ := hrel
  by_cases hlt : k < l.length
  ·have hB := HI.out _ _ _ _ _ HK.out
   obtain ⟨_,_,_,e',_,_,_,hx⟩ := HR.out wr hB
   cases e'
   obtain ⟨b,o,rfl,hq,hi⟩ := hx (by omega)
   obtain ⟨cs,hEx,h2,h3⟩ := hi k hlt
   obtain ⟨x,hxl⟩ : ∃ x,l[k] = x := ⟨_,rfl⟩
   rw [hxl] at hEx
   have hEx' := hEx
   obtain rfl := hEx'
   have c0 : wr.cell? ⟨b,o + k * 3,none⟩ = some (.string x.1) := by exact h3 0 (show 0 < 3 by decide)
   have c1 : wr.cell? ⟨b,o + k * 3 + 1,none⟩ = some (.string x.2.1) := by exact h3 1 (show 1 < 3 by decide)
   have c2 : wr.cell? ⟨b,o + k * 3 + 2,none⟩ = some (.int .i64 x.2.2) := by exact h3 2 (show 2 < 3 by decide)
   have hkm : (k : Int) < (l.length : Int) := by omega
   have hk5 : k ≤ 500 := by omega
   clear h2 h3 hi hx
   have HX := HS.out k hlt (wr.alloc (.cells #[.string x.1,.string x.2.1,.int .i64 x.2.2] 100)) a m d [.string x.1,.string x.2.1,.int .i64 x.2.2] (HA.out _ _ _ _ _ _ HK.out) (by rw [hxl]; exact eClm.keep (fun b _ hl => (bal (Below.refl _ _) _).block b hl) hEx)
   have bx := Bk.new wr (.cells #[.string x.1,.string x.2.1,.int .i64 x.2.2] 100)
   clear hEx hxl
   go_upto_region 4 with fail
   generalize wr.alloc (.cells #[.string x.1,.string x.2.1,.int .i64 x.2.2] 100) = W at *
   have d0 := bx.cell 0
   have d1 := bx.cell 1
   have d2 := bx.cell 2
   simp only [List.getElem?_toArray,List.getElem?_cons_zero,List.getElem?_cons_succ] at d0 d1 d2
   clear bx c0 c1 c2
   obtain ⟨z,hz⟩ : ∃ z,er k = z := ⟨_,rfl⟩
   rw [hz] at HX
   have HZ : Hid (er k = z) := hid hz
   replace HX : Hid _ := hid HX
   clear hz
   go_wp2_with fail
   refine Calls.mono HX.out ?_
   rintro e w4 ⟨a2,m2,d2,rfl,hb4,hi4⟩
   have HI4 : Hid _ := hid hi4
   clear HX hi4
   by_cases h0 : z = 0
   ·subst h0
    have HE2 : Hid (erO er (k + 1) = 0) := hid (by rw [erO_succ,if_pos HE.out,HZ.out])
    go_wp2
    go_roundw
    case rel => exact ⟨k + 1,a2,m2,d2,hlt,by go_num,rfl,hid (HI4.out (by first | rfl | trivial)),HE2⟩
    case measure => simp only [intOf]; omega
   ·have HE2 : Hid (erO er l.length = z) := hid (by rw [erO_stop hlt HE.out (by rw [HZ.out]; exact h0),HZ.out])
    have h0' : (z != 0) = true := by simpa using h0
    have h0d : decide (z = 0) = false := by simpa using h0
    go_wp2
    refine bodyPost_ret (v := .tuple #[.slice none 0 0,.int .i64 z]) (by simp [results,Tryz.results102]) rfl ⟨none,0,0,by rw [HE2.out],hb4,fun h => absurd (HE2.out.symm.trans h) h0⟩
  ·obtain rfl : k = l.length := by omega
   have hB := HI.out _ _ _ _ _ HK.out
   go_wp2
   refine bodyPost_ret (v := .tuple #[.slice a m d,.int .i64 0]) (by simp [results,Tryz.results102]) rfl ⟨a,m,d,by rw [HE.out],hB,fun _ => HK.out⟩

set_option maxRecDepth 100000 in
set_option maxHeartbeats 4000000 in
theorem foldInInts {l : List (Int)} (hlen : l.length ≤ 500) {Q : Nat → Prop} {w : World} {ao : Option Addr} {n c : Nat} (h : RowIs eInt Q w (.slice ao n c) l) {N : Nat} {caps : Array Value} (hcf : ∀ args w',(callFunc N args).run Tryz.prog w' = .ok (.enter N args) w') (er : Nat → Int) (I : Nat → World → Option Addr → Nat → Nat → Prop)
  (hI : ∀ i w' a m d,I i w' a m d → Below w.heap.size w w') (hA : ∀ i w' a m d o,I i w' a m d → I i (w'.alloc o) a m d) {a0 : Option Addr} {m0 d0 : Nat} (h0 : I 0 w a0 m0 d0)
  (hs : ∀ i (hi : i < l.length) (w' : World) (a : Option Addr) (m d : Nat),I i w' a m d → Calls Tryz.prog N (#[.slice a m d,.int .i64 l[i]] ++ caps) w' fun en w'' => ∃ a2 m2 d2,en = .returned (.tuple #[.slice a2 m2 d2,.int .i64 (er i)]) ∧ Below w.heap.size w w'' ∧ (er i = 0 → I (i + 1) w'' a2 m2 d2)) :
  Calls Tryz.prog 123 #[.slice ao n c,.slice a0 m0 d0,.func (.func N) #[] caps] w fun en w' => ∃ a2 m2 d2,en = .returned (.tuple #[.slice a2 m2 d2,.int .i64 (erO er l.length)]) ∧ Below w.heap.size w w' ∧ (erO er l.length = 0 → I l.length w' a2 m2 d2) := by
 have HR : Hid (∀ w',Below w.heap.size w w' → RowIs eInt Q w' (.slice ao n c) l) := hid fun w' hb => h.keep (by decide) fun b _ hl => hb.block b hl
 have HS : Hid (∀ i (hi : i < l.length) (w' : World) (a : Option Addr) (m d : Nat),I i w' a m d → _) := hid hs
 have HI : Hid (∀ i w' a m d,I i w' a m d → Below w.heap.size w w') := hid hI
 have HA : Hid (∀ i w' a m d o,I i w' a m d → I i (w'.alloc o) a m d) := hid hA
 have H0 : Hid (I 0 w a0 m0 d0) := hid h0
 obtain ⟨ao',n',c',e',hn,hnc,hc,_⟩ := h
 cases e'
 subst hn
 clear hs hI hA h0
 go_enter Tryz.func123,Tryz.ntmps123
 go_wp2
 go_loopw [1,14] (fun v1 v14 wr => ∃ k : Nat,∃ a m d,k ≤ l.length ∧ v14 = .int .i64 k ∧ v1 = .slice a m d ∧ Hid (I k wr a m d) ∧ Hid (erO er k = 0)) (fun _ i _ => l.length - (intOf i).toNat)
 case atStart => exact ⟨0,_,_,_,Nat.zero_le _,rfl,rfl,H0,hid rfl⟩
 case round =>
  obtain ⟨k,a,m,d,hk,rfl,rfl,HK,HE⟩ := hrel
  by_cases hlt : k < l.length
  ·have hB := HI.out _ _ _ _ _ HK.out
   obtain ⟨_,_,_,e',_,_,_,hx⟩ := HR.out wr hB
   cases e'
   obtain ⟨b,o,rfl,hq,hi⟩ := hx (by omega)
   obtain ⟨cs,hEx,h2,h3⟩ := hi k hlt
   obtain ⟨x,hxl⟩ : ∃ x,l[k] = x := ⟨_,rfl⟩
   rw [hxl] at hEx
   have hEx' := hEx
   obtain rfl := hEx'
   have c0 : wr.cell? ⟨b,o + k,none⟩ = some (.int .i64 x) := by have := h3 0 (show 0 < 1 by decide); simpa [eInt] using this
   have hkm : (k : Int) < (l.length : Int) := by omega
   have hk5 : k ≤ 500 := by omega
   clear h2 h3 hi hx
   have HX := HS.out k hlt wr a m d HK.out
   rw [hxl] at HX
   clear hEx hxl
   obtain ⟨z,hz⟩ : ∃ z,er k = z := ⟨_,rfl⟩
   rw [hz] at HX
   have HZ : Hid (er k = z) := hid hz
   replace HX : Hid _ := hid HX
   clear hz
   go_wp2_with fail
   refine Calls.mono HX.out ?_
   rintro e w4 ⟨a2,m2,d2,rfl,hb4,hi4⟩
   have HI4 : Hid _ := hid hi4
   clear HX hi4
   by_cases h0 : z = 0
   ·subst h0
    have HE2 : Hid (erO er (k + 1) = 0) := hid (by rw [erO_succ,if_pos HE.out,HZ.out])
    go_wp2
    go_roundw
    case rel => exact ⟨k + 1,a2,m2,d2,hlt,by go_num,rfl,hid (HI4.out (by first | rfl | trivial)),HE2⟩
    case measure => simp only [intOf]; omega
   ·have HE2 : Hid (erO er l.length = z) := hid (by rw [erO_stop hlt HE.out (by rw [HZ.out]; exact h0),HZ.out])
    have h0' : (z != 0) = true := by simpa using h0
    have h0d : decide (z = 0) = false := by simpa using h0
    go_wp2
    refine bodyPost_ret (v := .tuple #[.slice none 0 0,.int .i64 z]) (by simp [results,Tryz.results123]) rfl ⟨none,0,0,by rw [HE2.out],hb4,fun h => absurd (HE2.out.symm.trans h) h0⟩
  ·obtain rfl : k = l.length := by omega
   have hB := HI.out _ _ _ _ _ HK.out
   go_wp2
   refine bodyPost_ret (v := .tuple #[.slice a m d,.int .i64 0]) (by simp [results,Tryz.results123]) rfl ⟨a,m,d,by rw [HE.out],hB,fun _ => HK.out⟩

set_option maxRecDepth 100000 in
set_option maxHeartbeats 4000000 in
theorem foldExExs {l : List (Pg × Tg)} (hlen : l.length ≤ 500) {Q : Nat → Prop} {w : World} {ao : Option Addr} {n c : Nat} (h : RowIs eG Q w (.slice ao n c) l) {N : Nat} {caps : Array Value} (hcf : ∀ args w',(callFunc N args).run Tryz.prog w' = .ok (.enter N args) w') (er : Nat → Int) (I : Nat → World → Option Addr → Nat → Nat → Prop)
  (hI : ∀ i w' a m d,I i w' a m d → Below w.heap.size w w') (hA : ∀ i w' a m d o,I i w' a m d → I i (w'.alloc o) a m d) {a0 : Option Addr} {m0 d0 : Nat} (h0 : I 0 w a0 m0 d0)
  (hs : ∀ i (hi : i < l.length) (w' : World) (a : Option Addr) (m d : Nat) (cs : List Value),I i w' a m d → eG.E Q w' l[i] cs → Calls Tryz.prog N (#[.slice a m d,.agg cs.toArray] ++ caps) w' fun en w'' => ∃ a2 m2 d2,en = .returned (.tuple #[.slice a2 m2 d2,.int .i64 (er i)]) ∧ Below w.heap.size w w'' ∧ (er i = 0 → I (i + 1) w'' a2 m2 d2)) :
  Calls Tryz.prog 107 #[.slice ao n c,.slice a0 m0 d0,.func (.func N) #[] caps] w fun en w' => ∃ a2 m2 d2,en = .returned (.tuple #[.slice a2 m2 d2,.int .i64 (erO er l.length)]) ∧ Below w.heap.size w w' ∧ (erO er l.length = 0 → I l.length w' a2 m2 d2) := by
 have HR : Hid (∀ w',Below w.heap.size w w' → RowIs eG Q w' (.slice ao n c) l) := hid fun w' hb => h.keep (by decide) fun b _ hl => hb.block b hl
 have HS : Hid (∀ i (hi : i < l.length) (w' : World) (a : Option Addr) (m d : Nat) (cs : List Value),I i w' a m d → eG.E Q w' l[i] cs → _) := hid hs
 have HI : Hid (∀ i w' a m d,I i w' a m d → Below w.heap.size w w') := hid hI
 have HA : Hid (∀ i w' a m d o,I i w' a m d → I i (w'.alloc o) a m d) := hid hA
 have H0 : Hid (I 0 w a0 m0 d0) := hid h0
 obtain ⟨ao',n',c',e',hn,hnc,hc,_⟩ := h
 cases e'
 subst hn
 clear hs hI hA h0
 go_enter Tryz.func107,Tryz.ntmps107
 go_wp2
 go_loopw [1,14] (fun v1 v14 wr => ∃ k : Nat,∃ a m d,k ≤ l.length ∧ v14 = .int .i64 k ∧ v1 = .slice a m d ∧ Hid (I k wr a m d) ∧ Hid (erO er k = 0)) (fun _ i _ => l.length - (intOf i).toNat)
 case atStart => exact ⟨0,_,_,_,Nat.zero_le _,rfl,rfl,H0,hid rfl⟩
 case round =>
  obtain ⟨k,a,m,d,hk,rfl,rfl,HK,HE⟩ := hrel
  by_cases hlt : k < l.length
  ·have hB := HI.out _ _ _ _ _ HK.out
   obtain ⟨_,_,_,e',_,_,_,hx⟩ := HR.out wr hB
   cases e'
   obtain ⟨b,o,rfl,hq,hi⟩ := hx (by omega)
   obtain ⟨cs,hEx,h2,h3⟩ := hi k hlt
   obtain ⟨x,hxl⟩ : ∃ x,l[k] = x := ⟨_,rfl⟩
   rw [hxl] at hEx
   have hEx' := hEx
   obtain ⟨ea,en,ec,rfl,-⟩ := hEx'
   have c0 : wr.cell? ⟨b,o + k * 7,none⟩ = some (.int .i64 x.1.1) := by exact h3 0 (show 0 < 7 by decide)
   have c1 : wr.cell? ⟨b,o + k * 7 + 1,none⟩ = some (.int .i64 x.1.2.1) := by exact h3 1 (show 1 < 7 by decide)
   have c2 : wr.cell? ⟨b,o + k * 7 + 2,none⟩ = some (.int .i64 x.1.2.2.1) := by exact h3 2 (show 2 < 7 by decide)
   have c3 : wr.cell? ⟨b,o + k * 7 + 3,none⟩ = some (.string x.1.2.2.2.1) := by exact h3 3 (show 3 < 7 by decide)
   have c4 : wr.cell? ⟨b,o + k * 7 + 4,none⟩ = some (.string x.1.2.2.2.2.1) := by exact h3 4 (show 4 < 7 by decide)
   have c5 : wr.cell? ⟨b,o + k * 7 + 5,none⟩ = some (.string x.1.2.2.2.2.2) := by exact h3 5 (show 5 < 7 by decide)
   have c6 : wr.cell? ⟨b,o + k * 7 + 6,none⟩ = some (.slice ea en ec) := by exact h3 6 (show 6 < 7 by decide)
   have hkm : (k : Int) < (l.length : Int) := by omega
   have hk5 : k ≤ 500 := by omega
   clear h2 h3 hi hx
   have HX := HS.out k hlt (wr.alloc (.cells #[.int .i64 x.1.1,.int .i64 x.1.2.1,.int .i64 x.1.2.2.1,.string x.1.2.2.2.1,.string x.1.2.2.2.2.1,.string x.1.2.2.2.2.2,.slice ea en ec] 28)) a m d [.int .i64 x.1.1,.int .i64 x.1.2.1,.int .i64 x.1.2.2.1,.string x.1.2.2.2.1,.string x.1.2.2.2.2.1,.string x.1.2.2.2.2.2,.slice ea en ec] (HA.out _ _ _ _ _ _ HK.out) (by rw [hxl]; exact eG.keep (fun b _ hl => (bal (Below.refl _ _) _).block b hl) hEx)
   have bx := Bk.new wr (.cells #[.int .i64 x.1.1,.int .i64 x.1.2.1,.int .i64 x.1.2.2.1,.string x.1.2.2.2.1,.string x.1.2.2.2.2.1,.string x.1.2.2.2.2.2,.slice ea en ec] 28)
   clear hEx hxl
   go_upto_region 4 with fail
   generalize wr.alloc (.cells #[.int .i64 x.1.1,.int .i64 x.1.2.1,.int .i64 x.1.2.2.1,.string x.1.2.2.2.1,.string x.1.2.2.2.2.1,.string x.1.2.2.2.2.2,.slice ea en ec] 28) = W at *
   have d0 := bx.cell 0
   have d1 := bx.cell 1
   have d2 := bx.cell 2
   have d3 := bx.cell 3
   have d4 := bx.cell 4
   have d5 := bx.cell 5
   have d6 := bx.cell 6
   simp only [List.getElem?_toArray,List.getElem?_cons_zero,List.getElem?_cons_succ] at d0 d1 d2 d3 d4 d5 d6
   clear bx c0 c1 c2 c3 c4 c5 c6
   obtain ⟨z,hz⟩ : ∃ z,er k = z := ⟨_,rfl⟩
   rw [hz] at HX
   have HZ : Hid (er k = z) := hid hz
   replace HX : Hid _ := hid HX
   clear hz
   go_wp2_with fail
   refine Calls.mono HX.out ?_
   rintro e w4 ⟨a2,m2,d2,rfl,hb4,hi4⟩
   have HI4 : Hid _ := hid hi4
   clear HX hi4
   by_cases h0 : z = 0
   ·subst h0
    have HE2 : Hid (erO er (k + 1) = 0) := hid (by rw [erO_succ,if_pos HE.out,HZ.out])
    go_wp2
    go_roundw
    case rel => exact ⟨k + 1,a2,m2,d2,hlt,by go_num,rfl,hid (HI4.out (by first | rfl | trivial)),HE2⟩
    case measure => simp only [intOf]; omega
   ·have HE2 : Hid (erO er l.length = z) := hid (by rw [erO_stop hlt HE.out (by rw [HZ.out]; exact h0),HZ.out])
    have h0' : (z != 0) = true := by simpa using h0
    have h0d : decide (z = 0) = false := by simpa using h0
    go_wp2
    refine bodyPost_ret (v := .tuple #[.slice none 0 0,.int .i64 z]) (by simp [results,Tryz.results107]) rfl ⟨none,0,0,by rw [HE2.out],hb4,fun h => absurd (HE2.out.symm.trans h) h0⟩
  ·obtain rfl : k = l.length := by omega
   have hB := HI.out _ _ _ _ _ HK.out
   go_wp2
   refine bodyPost_ret (v := .tuple #[.slice a m d,.int .i64 0]) (by simp [results,Tryz.results107]) rfl ⟨a,m,d,by rw [HE.out],hB,fun _ => HK.out⟩

set_option maxRecDepth 100000 in
set_option maxHeartbeats 4000000 in
theorem foldItIts {l : List (It)} (hlen : l.length ≤ 500) {Q : Nat → Prop} {w : World} {ao : Option Addr} {n c : Nat} (h : RowIs eItem Q w (.slice ao n c) l) {N : Nat} {caps : Array Value} (hcf : ∀ args w',(callFunc N args).run Tryz.prog w' = .ok (.enter N args) w') (er : Nat → Int) (I : Nat → World → Option Addr → Nat → Nat → Prop)
  (hI : ∀ i w' a m d,I i w' a m d → Below w.heap.size w w') (hA : ∀ i w' a m d o,I i w' a m d → I i (w'.alloc o) a m d) {a0 : Option Addr} {m0 d0 : Nat} (h0 : I 0 w a0 m0 d0)
  (hs : ∀ i (hi : i < l.length) (w' : World) (a : Option Addr) (m d : Nat) (cs : List Value),I i w' a m d → eItem.E Q w' l[i] cs → Calls Tryz.prog N (#[.slice a m d,.agg cs.toArray] ++ caps) w' fun en w'' => ∃ a2 m2 d2,en = .returned (.tuple #[.slice a2 m2 d2,.int .i64 (er i)]) ∧ Below w.heap.size w w'' ∧ (er i = 0 → I (i + 1) w'' a2 m2 d2)) :
  Calls Tryz.prog 114 #[.slice ao n c,.slice a0 m0 d0,.func (.func N) #[] caps] w fun en w' => ∃ a2 m2 d2,en = .returned (.tuple #[.slice a2 m2 d2,.int .i64 (erO er l.length)]) ∧ Below w.heap.size w w' ∧ (erO er l.length = 0 → I l.length w' a2 m2 d2) := by
 have HR : Hid (∀ w',Below w.heap.size w w' → RowIs eItem Q w' (.slice ao n c) l) := hid fun w' hb => h.keep (by decide) fun b _ hl => hb.block b hl
 have HS : Hid (∀ i (hi : i < l.length) (w' : World) (a : Option Addr) (m d : Nat) (cs : List Value),I i w' a m d → eItem.E Q w' l[i] cs → _) := hid hs
 have HI : Hid (∀ i w' a m d,I i w' a m d → Below w.heap.size w w') := hid hI
 have HA : Hid (∀ i w' a m d o,I i w' a m d → I i (w'.alloc o) a m d) := hid hA
 have H0 : Hid (I 0 w a0 m0 d0) := hid h0
 obtain ⟨ao',n',c',e',hn,hnc,hc,_⟩ := h
 cases e'
 subst hn
 clear hs hI hA h0
 go_enter Tryz.func114,Tryz.ntmps114
 go_wp2
 go_loopw [1,14] (fun v1 v14 wr => ∃ k : Nat,∃ a m d,k ≤ l.length ∧ v14 = .int .i64 k ∧ v1 = .slice a m d ∧ Hid (I k wr a m d) ∧ Hid (erO er k = 0)) (fun _ i _ => l.length - (intOf i).toNat)
 case atStart => exact ⟨0,_,_,_,Nat.zero_le _,rfl,rfl,H0,hid rfl⟩
 case round =>
  obtain ⟨k,a,m,d,hk,rfl,rfl,HK,HE⟩ := hrel
  by_cases hlt : k < l.length
  ·have hB := HI.out _ _ _ _ _ HK.out
   obtain ⟨_,_,_,e',_,_,_,hx⟩ := HR.out wr hB
   cases e'
   obtain ⟨b,o,rfl,hq,hi⟩ := hx (by omega)
   obtain ⟨cs,hEx,h2,h3⟩ := hi k hlt
   obtain ⟨x,hxl⟩ : ∃ x,l[k] = x := ⟨_,rfl⟩
   rw [hxl] at hEx
   have hEx' := hEx
   obtain rfl := hEx'
   have c0 : wr.cell? ⟨b,o + k * 3,none⟩ = some (.int .i64 x.1) := by exact h3 0 (show 0 < 3 by decide)
   have c1 : wr.cell? ⟨b,o + k * 3 + 1,none⟩ = some (.string x.2.1) := by exact h3 1 (show 1 < 3 by decide)
   have c2 : wr.cell? ⟨b,o + k * 3 + 2,none⟩ = some (.string x.2.2) := by exact h3 2 (show 2 < 3 by decide)
   have hkm : (k : Int) < (l.length : Int) := by omega
   have hk5 : k ≤ 500 := by omega
   clear h2 h3 hi hx
   have HX := HS.out k hlt (wr.alloc (.cells #[.int .i64 x.1,.string x.2.1,.string x.2.2] 66)) a m d [.int .i64 x.1,.string x.2.1,.string x.2.2] (HA.out _ _ _ _ _ _ HK.out) (by rw [hxl]; exact eItem.keep (fun b _ hl => (bal (Below.refl _ _) _).block b hl) hEx)
   have bx := Bk.new wr (.cells #[.int .i64 x.1,.string x.2.1,.string x.2.2] 66)
   clear hEx hxl
   go_upto_region 4 with fail
   generalize wr.alloc (.cells #[.int .i64 x.1,.string x.2.1,.string x.2.2] 66) = W at *
   have d0 := bx.cell 0
   have d1 := bx.cell 1
   have d2 := bx.cell 2
   simp only [List.getElem?_toArray,List.getElem?_cons_zero,List.getElem?_cons_succ] at d0 d1 d2
   clear bx c0 c1 c2
   obtain ⟨z,hz⟩ : ∃ z,er k = z := ⟨_,rfl⟩
   rw [hz] at HX
   have HZ : Hid (er k = z) := hid hz
   replace HX : Hid _ := hid HX
   clear hz
   go_wp2_with fail
   refine Calls.mono HX.out ?_
   rintro e w4 ⟨a2,m2,d2,rfl,hb4,hi4⟩
   have HI4 : Hid _ := hid hi4
   clear HX hi4
   by_cases h0 : z = 0
   ·subst h0
    have HE2 : Hid (erO er (k + 1) = 0) := hid (by rw [erO_succ,if_pos HE.out,HZ.out])
    go_wp2
    go_roundw
    case rel => exact ⟨k + 1,a2,m2,d2,hlt,by go_num,rfl,hid (HI4.out (by first | rfl | trivial)),HE2⟩
    case measure => simp only [intOf]; omega
   ·have HE2 : Hid (erO er l.length = z) := hid (by rw [erO_stop hlt HE.out (by rw [HZ.out]; exact h0),HZ.out])
    have h0' : (z != 0) = true := by simpa using h0
    have h0d : decide (z = 0) = false := by simpa using h0
    go_wp2
    refine bodyPost_ret (v := .tuple #[.slice none 0 0,.int .i64 z]) (by simp [results,Tryz.results114]) rfl ⟨none,0,0,by rw [HE2.out],hb4,fun h => absurd (HE2.out.symm.trans h) h0⟩
  ·obtain rfl : k = l.length := by omega
   have hB := HI.out _ _ _ _ _ HK.out
   go_wp2
   refine bodyPost_ret (v := .tuple #[.slice a m d,.int .i64 0]) (by simp [results,Tryz.results114]) rfl ⟨a,m,d,by rw [HE.out],hB,fun _ => HK.out⟩

end Go.Proofs.YtljmlacnfnmjbaaGreat
namespace Go.Proofs.YtljmlacnfnmjbaaGreat
open Go.RowKit
set_option linter.unusedVariables false
set_option linter.unusedSimpArgs false

set_option maxRecDepth 100000 in
set_option maxHeartbeats 4000000 in
theorem foldExCos {l : List (Pg × Tg)} (hlen : l.length ≤ 500) {Q : Nat → Prop} {w : World} {ao : Option Addr} {n c : Nat} (h : RowIs eG Q w (.slice ao n c) l) {N : Nat} {caps : Array Value} (hcf : ∀ args w',(callFunc N args).run Tryz.prog w' = .ok (.enter N args) w') (er : Nat → Int) (I : Nat → World → Option Addr → Nat → Nat → Prop)
  (hI : ∀ i w' a m d,I i w' a m d → Below w.heap.size w w') (hA : ∀ i w' a m d o,I i w' a m d → I i (w'.alloc o) a m d) {a0 : Option Addr} {m0 d0 : Nat} (h0 : I 0 w a0 m0 d0)
  (hs : ∀ i (hi : i < l.length) (w' : World) (a : Option Addr) (m d : Nat) (cs : List Value),I i w' a m d → eG.E Q w' l[i] cs → Calls Tryz.prog N (#[.slice a m d,.agg cs.toArray] ++ caps) w' fun en w'' => ∃ a2 m2 d2,en = .returned (.tuple #[.slice a2 m2 d2,.int .i64 (er i)]) ∧ Below w.heap.size w w'' ∧ (er i = 0 → I (i + 1) w'' a2 m2 d2)) :
  Calls Tryz.prog 59 #[.slice ao n c,.slice a0 m0 d0,.func (.func N) #[] caps] w fun en w' => ∃ a2 m2 d2,en = .returned (.tuple #[.slice a2 m2 d2,.int .i64 (erO er l.length)]) ∧ Below w.heap.size w w' ∧ (erO er l.length = 0 → I l.length w' a2 m2 d2) := by
 have HR : Hid (∀ w',Below w.heap.size w w' → RowIs eG Q w' (.slice ao n c) l) := hid fun w' hb => h.keep (by decide) fun b _ hl => hb.block b hl
 have HS : Hid (∀ i (hi : i < l.length) (w' : World) (a : Option Addr) (m d : Nat) (cs : List Value),I i w' a m d → eG.E Q w' l[i] cs → _) := hid hs
 have HI : Hid (∀ i w' a m d,I i w' a m d → Below w.heap.size w w') := hid hI
 have HA : Hid (∀ i w' a m d o,I i w' a m d → I i (w'.alloc o) a m d) := hid hA
 have H0 : Hid (I 0 w a0 m0 d0) := hid h0
 obtain ⟨ao',n',c',e',hn,hnc,hc,_⟩ := h
 cases e'
 subst hn
 clear hs hI hA h0
 go_enter Tryz.func59,Tryz.ntmps59
 go_wp2
 go_loopw [1,14] (fun v1 v14 wr => ∃ k : Nat,∃ a m d,k ≤ l.length ∧ v14 = .int .i64 k ∧ v1 = .slice a m d ∧ Hid (I k wr a m d) ∧ Hid (erO er k = 0)) (fun _ i _ => l.length - (intOf i).toNat)
 case atStart => exact ⟨0,_,_,_,Nat.zero_le _,rfl,rfl,H0,hid rfl⟩
 case round =>
  obtain ⟨k,a,m,d,hk,rfl,rfl,HK,HE⟩ := hrel
  by_cases hlt : k < l.length
  ·have hB := HI.out _ _ _ _ _ HK.out
   obtain ⟨_,_,_,e',_,_,_,hx⟩ := HR.out wr hB
   cases e'
   obtain ⟨b,o,rfl,hq,hi⟩ := hx (by omega)
   obtain ⟨cs,hEx,h2,h3⟩ := hi k hlt
   obtain ⟨x,hxl⟩ : ∃ x,l[k] = x := ⟨_,rfl⟩
   rw [hxl] at hEx
   have hEx' := hEx
   obtain ⟨ea,en,ec,rfl,-⟩ := hEx'
   have c0 : wr.cell? ⟨b,o + k * 7,none⟩ = some (.int .i64 x.1.1) := by exact h3 0 (show 0 < 7 by decide)
   have c1 : wr.cell? ⟨b,o + k * 7 + 1,none⟩ = some (.int .i64 x.1.2.1) := by exact h3 1 (show 1 < 7 by decide)
   have c2 : wr.cell? ⟨b,o + k * 7 + 2,none⟩ = some (.int .i64 x.1.2.2.1) := by exact h3 2 (show 2 < 7 by decide)
   have c3 : wr.cell? ⟨b,o + k * 7 + 3,none⟩ = some (.string x.1.2.2.2.1) := by exact h3 3 (show 3 < 7 by decide)
   have c4 : wr.cell? ⟨b,o + k * 7 + 4,none⟩ = some (.string x.1.2.2.2.2.1) := by exact h3 4 (show 4 < 7 by decide)
   have c5 : wr.cell? ⟨b,o + k * 7 + 5,none⟩ = some (.string x.1.2.2.2.2.2) := by exact h3 5 (show 5 < 7 by decide)
   have c6 : wr.cell? ⟨b,o + k * 7 + 6,none⟩ = some (.slice ea en ec) := by exact h3 6 (show 6 < 7 by decide)
   have hkm : (k : Int) < (l.length : Int) := by omega
   have hk5 : k ≤ 500 := by omega
   clear h2 h3 hi hx
   have HX := HS.out k hlt (wr.alloc (.cells #[.int .i64 x.1.1,.int .i64 x.1.2.1,.int .i64 x.1.2.2.1,.string x.1.2.2.2.1,.string x.1.2.2.2.2.1,.string x.1.2.2.2.2.2,.slice ea en ec] 28)) a m d [.int .i64 x.1.1,.int .i64 x.1.2.1,.int .i64 x.1.2.2.1,.string x.1.2.2.2.1,.string x.1.2.2.2.2.1,.string x.1.2.2.2.2.2,.slice ea en ec] (HA.out _ _ _ _ _ _ HK.out) (by rw [hxl]; exact eG.keep (fun b _ hl => (bal (Below.refl _ _) _).block b hl) hEx)
   have bx := Bk.new wr (.cells #[.int .i64 x.1.1,.int .i64 x.1.2.1,.int .i64 x.1.2.2.1,.string x.1.2.2.2.1,.string x.1.2.2.2.2.1,.string x.1.2.2.2.2.2,.slice ea en ec] 28)
   clear hEx hxl
   go_upto_region 4 with fail
   generalize wr.alloc (.cells #[.int .i64 x.1.1,.int .i64 x.1.2.1,.int .i64 x.1.2.2.1,.string x.1.2.2.2.1,.string x.1.2.2.2.2.1,.string x.1.2.2.2.2.2,.slice ea en ec] 28) = W at *
   have d0 := bx.cell 0
   have d1 := bx.cell 1
   have d2 := bx.cell 2
   have d3 := bx.cell 3
   have d4 := bx.cell 4
   have d5 := bx.cell 5
   have d6 := bx.cell 6
   simp only [List.getElem?_toArray,List.getElem?_cons_zero,List.getElem?_cons_succ] at d0 d1 d2 d3 d4 d5 d6
   clear bx c0 c1 c2 c3 c4 c5 c6
   obtain ⟨z,hz⟩ : ∃ z,er k = z := ⟨_,rfl⟩
   rw [hz] at HX
   have HZ : Hid (er k = z) := hid hz
   replace HX : Hid _ := hid HX
   clear hz
   go_wp2_with fail
   refine Calls.mono HX.out ?_
   rintro e w4 ⟨a2,m2,d2,rfl,hb4,hi4⟩
   have HI4 : Hid _ := hid hi4
   clear HX hi4
   by_cases h0 : z = 0
   ·subst h0
    have HE2 : Hid (erO er (k + 1) = 0) := hid (by rw [erO_succ,if_pos HE.out,HZ.out])
    go_wp2
    go_roundw
    case rel => exact ⟨k + 1,a2,m2,d2,hlt,by go_num,rfl,hid (HI4.out (by first | rfl | trivial)),HE2⟩
    case measure => simp only [intOf]; omega
   ·have HE2 : Hid (erO er l.length = z) := hid (by rw [erO_stop hlt HE.out (by rw [HZ.out]; exact h0),HZ.out])
    have h0' : (z != 0) = true := by simpa using h0
    have h0d : decide (z = 0) = false := by simpa using h0
    go_wp2
    refine bodyPost_ret (v := .tuple #[.slice none 0 0,.int .i64 z]) (by simp [results,Tryz.results59]) rfl ⟨none,0,0,by rw [HE2.out],hb4,fun h => absurd (HE2.out.symm.trans h) h0⟩
  ·obtain rfl : k = l.length := by omega
   have hB := HI.out _ _ _ _ _ HK.out
   go_wp2
   refine bodyPost_ret (v := .tuple #[.slice a m d,.int .i64 0]) (by simp [results,Tryz.results59]) rfl ⟨a,m,d,by rw [HE.out],hB,fun _ => HK.out⟩

set_option maxRecDepth 100000 in
set_option maxHeartbeats 4000000 in
theorem foldExU {l : List (Pg × Tg)} (hlen : l.length ≤ 500) {Q : Nat → Prop} {w : World} {ao : Option Addr} {n c : Nat} (h : RowIs eG Q w (.slice ao n c) l) {N : Nat} {caps : Array Value} (hcf : ∀ args w',(callFunc N args).run Tryz.prog w' = .ok (.enter N args) w') (er : Nat → Int) (I : Nat → World → Prop)
  (hI : ∀ i w',I i w' → Below w.heap.size w w') (hA : ∀ i w' o,I i w' → I i (w'.alloc o)) (h0 : I 0 w)
  (hs : ∀ i (hi : i < l.length) (w' : World) (cs : List Value),I i w' → eG.E Q w' l[i] cs → Calls Tryz.prog N (#[.agg #[],.agg cs.toArray] ++ caps) w' fun en w'' => en = .returned (.tuple #[.agg #[],.int .i64 (er i)]) ∧ Below w.heap.size w w'' ∧ (er i = 0 → I (i + 1) w'')) :
  Calls Tryz.prog 116 #[.slice ao n c,.agg #[],.func (.func N) #[] caps] w fun en w' => en = .returned (.tuple #[.agg #[],.int .i64 (erO er l.length)]) ∧ Below w.heap.size w w' ∧ (erO er l.length = 0 → I l.length w') := by
 have HR : Hid (∀ w',Below w.heap.size w w' → RowIs eG Q w' (.slice ao n c) l) := hid fun w' hb => h.keep (by decide) fun b _ hl => hb.block b hl
 have HS : Hid (∀ i (hi : i < l.length) (w' : World) (cs : List Value),I i w' → eG.E Q w' l[i] cs → _) := hid hs
 have HI : Hid (∀ i w',I i w' → Below w.heap.size w w') := hid hI
 have HA : Hid (∀ i w' o,I i w' → I i (w'.alloc o)) := hid hA
 have H0 : Hid (I 0 w) := hid h0
 obtain ⟨ao',n',c',e',hn,hnc,hc,_⟩ := h
 cases e'
 subst hn
 clear hs hI hA h0
 go_enter Tryz.func116,Tryz.ntmps116
 go_wp2
 go_loopw [14] (fun v14 wr => ∃ k : Nat,k ≤ l.length ∧ v14 = .int .i64 k ∧ Hid (I k wr) ∧ Hid (erO er k = 0)) (fun i _ => l.length - (intOf i).toNat)
 case atStart => exact ⟨0,Nat.zero_le _,rfl,hid (HA.out _ _ _ (HA.out _ _ _ H0.out)),hid rfl⟩
 case round =>
  obtain ⟨k,hk,rfl,HK,HE⟩ := hrel
  by_cases hlt : k < l.length
  ·have hB := HI.out _ _ HK.out
   obtain ⟨_,_,_,e',_,_,_,hx⟩ := HR.out wr hB
   cases e'
   obtain ⟨b,o,rfl,hq,hi⟩ := hx (by omega)
   obtain ⟨cs,hEx,h2,h3⟩ := hi k hlt
   obtain ⟨x,hxl⟩ : ∃ x,l[k] = x := ⟨_,rfl⟩
   rw [hxl] at hEx
   have hEx' := hEx
   obtain ⟨ea,en,ec,rfl,-⟩ := hEx'
   have c0 : wr.cell? ⟨b,o + k * 7,none⟩ = some (.int .i64 x.1.1) := by exact h3 0 (show 0 < 7 by decide)
   have c1 : wr.cell? ⟨b,o + k * 7 + 1,none⟩ = some (.int .i64 x.1.2.1) := by exact h3 1 (show 1 < 7 by decide)
   have c2 : wr.cell? ⟨b,o + k * 7 + 2,none⟩ = some (.int .i64 x.1.2.2.1) := by exact h3 2 (show 2 < 7 by decide)
   have c3 : wr.cell? ⟨b,o + k * 7 + 3,none⟩ = some (.string x.1.2.2.2.1) := by exact h3 3 (show 3 < 7 by decide)
   have c4 : wr.cell? ⟨b,o + k * 7 + 4,none⟩ = some (.string x.1.2.2.2.2.1) := by exact h3 4 (show 4 < 7 by decide)
   have c5 : wr.cell? ⟨b,o + k * 7 + 5,none⟩ = some (.string x.1.2.2.2.2.2) := by exact h3 5 (show 5 < 7 by decide)
   have c6 : wr.cell? ⟨b,o + k * 7 + 6,none⟩ = some (.slice ea en ec) := by exact h3 6 (show 6 < 7 by decide)
   have hkm : (k : Int) < (l.length : Int) := by omega
   have hk5 : k ≤ 500 := by omega
   clear h2 h3 hi hx
   have HX := HS.out k hlt (wr.alloc (.cells #[.int .i64 x.1.1,.int .i64 x.1.2.1,.int .i64 x.1.2.2.1,.string x.1.2.2.2.1,.string x.1.2.2.2.2.1,.string x.1.2.2.2.2.2,.slice ea en ec] 28)) [.int .i64 x.1.1,.int .i64 x.1.2.1,.int .i64 x.1.2.2.1,.string x.1.2.2.2.1,.string x.1.2.2.2.2.1,.string x.1.2.2.2.2.2,.slice ea en ec] (HA.out _ _ _ HK.out) (by rw [hxl]; exact eG.keep (fun b _ hl => (bal (Below.refl _ _) _).block b hl) hEx)
   have bx := Bk.new wr (.cells #[.int .i64 x.1.1,.int .i64 x.1.2.1,.int .i64 x.1.2.2.1,.string x.1.2.2.2.1,.string x.1.2.2.2.2.1,.string x.1.2.2.2.2.2,.slice ea en ec] 28)
   clear hEx hxl
   go_upto_region 4 with fail
   generalize wr.alloc (.cells #[.int .i64 x.1.1,.int .i64 x.1.2.1,.int .i64 x.1.2.2.1,.string x.1.2.2.2.1,.string x.1.2.2.2.2.1,.string x.1.2.2.2.2.2,.slice ea en ec] 28) = W at *
   have d0 := bx.cell 0
   have d1 := bx.cell 1
   have d2 := bx.cell 2
   have d3 := bx.cell 3
   have d4 := bx.cell 4
   have d5 := bx.cell 5
   have d6 := bx.cell 6
   simp only [List.getElem?_toArray,List.getElem?_cons_zero,List.getElem?_cons_succ] at d0 d1 d2 d3 d4 d5 d6
   clear bx c0 c1 c2 c3 c4 c5 c6
   obtain ⟨z,hz⟩ : ∃ z,er k = z := ⟨_,rfl⟩
   rw [hz] at HX
   have HZ : Hid (er k = z) := hid hz
   replace HX : Hid _ := hid HX
   clear hz
   go_wp2_with fail
   refine Calls.mono HX.out ?_
   rintro e w4 ⟨rfl,hb4,hi4⟩
   have HI4 : Hid _ := hid hi4
   clear HX hi4
   by_cases h0 : z = 0
   ·subst h0
    have HE2 : Hid (erO er (k + 1) = 0) := hid (by rw [erO_succ,if_pos HE.out,HZ.out])
    go_wp2
    go_roundw
    case rel => exact ⟨k + 1,hlt,by go_num,hid (HI4.out (by first | rfl | trivial)),HE2⟩
    case measure => simp only [intOf]; omega
   ·have HE2 : Hid (erO er l.length = z) := hid (by rw [erO_stop hlt HE.out (by rw [HZ.out]; exact h0),HZ.out])
    have h0' : (z != 0) = true := by simpa using h0
    have h0d : decide (z = 0) = false := by simpa using h0
    go_wp2
    refine bodyPost_ret (v := .tuple #[.agg #[],.int .i64 z]) (by simp [results,Tryz.results116,go_sem]) rfl ⟨by rw [HE2.out],bal hb4 _,fun h => absurd (HE2.out.symm.trans h) h0⟩
  ·obtain rfl : k = l.length := by omega
   have hB := HI.out _ _ HK.out
   go_wp2
   refine bodyPost_ret (v := .tuple #[.agg #[],.int .i64 0]) (by simp [results,Tryz.results116,go_sem]) rfl ⟨by rw [HE.out],hB,fun _ => HK.out⟩

set_option maxRecDepth 100000 in
set_option maxHeartbeats 4000000 in
theorem foldItU {l : List (It)} (hlen : l.length ≤ 500) {Q : Nat → Prop} {w : World} {ao : Option Addr} {n c : Nat} (h : RowIs eItem Q w (.slice ao n c) l) {N : Nat} {caps : Array Value} (hcf : ∀ args w',(callFunc N args).run Tryz.prog w' = .ok (.enter N args) w') (er : Nat → Int) (I : Nat → World → Prop)
  (hI : ∀ i w',I i w' → Below w.heap.size w w') (hA : ∀ i w' o,I i w' → I i (w'.alloc o)) (h0 : I 0 w)
  (hs : ∀ i (hi : i < l.length) (w' : World) (cs : List Value),I i w' → eItem.E Q w' l[i] cs → Calls Tryz.prog N (#[.agg #[],.agg cs.toArray] ++ caps) w' fun en w'' => en = .returned (.tuple #[.agg #[],.int .i64 (er i)]) ∧ Below w.heap.size w w'' ∧ (er i = 0 → I (i + 1) w'')) :
  Calls Tryz.prog 112 #[.slice ao n c,.agg #[],.func (.func N) #[] caps] w fun en w' => en = .returned (.tuple #[.agg #[],.int .i64 (erO er l.length)]) ∧ Below w.heap.size w w' ∧ (erO er l.length = 0 → I l.length w') := by
 have HR : Hid (∀ w',Below w.heap.size w w' → RowIs eItem Q w' (.slice ao n c) l) := hid fun w' hb => h.keep (by decide) fun b _ hl => hb.block b hl
 have HS : Hid (∀ i (hi : i < l.length) (w' : World) (cs : List Value),I i w' → eItem.E Q w' l[i] cs → _) := hid hs
 have HI : Hid (∀ i w',I i w' → Below w.heap.size w w') := hid hI
 have HA : Hid (∀ i w' o,I i w' → I i (w'.alloc o)) := hid hA
 have H0 : Hid (I 0 w) := hid h0
 obtain ⟨ao',n',c',e',hn,hnc,hc,_⟩ := h
 cases e'
 subst hn
 clear hs hI hA h0
 go_enter Tryz.func112,Tryz.ntmps112
 go_wp2
 go_loopw [14] (fun v14 wr => ∃ k : Nat,k ≤ l.length ∧ v14 = .int .i64 k ∧ Hid (I k wr) ∧ Hid (erO er k = 0)) (fun i _ => l.length - (intOf i).toNat)
 case atStart => exact ⟨0,Nat.zero_le _,rfl,hid (HA.out _ _ _ (HA.out _ _ _ H0.out)),hid rfl⟩
 case round =>
  obtain ⟨k,hk,rfl,HK,HE⟩ := hrel
  by_cases hlt : k < l.length
  ·have hB := HI.out _ _ HK.out
   obtain ⟨_,_,_,e',_,_,_,hx⟩ := HR.out wr hB
   cases e'
   obtain ⟨b,o,rfl,hq,hi⟩ := hx (by omega)
   obtain ⟨cs,hEx,h2,h3⟩ := hi k hlt
   obtain ⟨x,hxl⟩ : ∃ x,l[k] = x := ⟨_,rfl⟩
   rw [hxl] at hEx
   have hEx' := hEx
   obtain rfl := hEx'
   have c0 : wr.cell? ⟨b,o + k * 3,none⟩ = some (.int .i64 x.1) := by exact h3 0 (show 0 < 3 by decide)
   have c1 : wr.cell? ⟨b,o + k * 3 + 1,none⟩ = some (.string x.2.1) := by exact h3 1 (show 1 < 3 by decide)
   have c2 : wr.cell? ⟨b,o + k * 3 + 2,none⟩ = some (.string x.2.2) := by exact h3 2 (show 2 < 3 by decide)
   have hkm : (k : Int) < (l.length : Int) := by omega
   have hk5 : k ≤ 500 := by omega
   clear h2 h3 hi hx
   have HX := HS.out k hlt (wr.alloc (.cells #[.int .i64 x.1,.string x.2.1,.string x.2.2] 66)) [.int .i64 x.1,.string x.2.1,.string x.2.2] (HA.out _ _ _ HK.out) (by rw [hxl]; exact eItem.keep (fun b _ hl => (bal (Below.refl _ _) _).block b hl) hEx)
   have bx := Bk.new wr (.cells #[.int .i64 x.1,.string x.2.1,.string x.2.2] 66)
   clear hEx hxl
   go_upto_region 4 with fail
   generalize wr.alloc (.cells #[.int .i64 x.1,.string x.2.1,.string x.2.2] 66) = W at *
   have d0 := bx.cell 0
   have d1 := bx.cell 1
   have d2 := bx.cell 2
   simp only [List.getElem?_toArray,List.getElem?_cons_zero,List.getElem?_cons_succ] at d0 d1 d2
   clear bx c0 c1 c2
   obtain ⟨z,hz⟩ : ∃ z,er k = z := ⟨_,rfl⟩
   rw [hz] at HX
   have HZ : Hid (er k = z) := hid hz
   replace HX : Hid _ := hid HX
   clear hz
   go_wp2_with fail
   refine Calls.mono HX.out ?_
   rintro e w4 ⟨rfl,hb4,hi4⟩
   have HI4 : Hid _ := hid hi4
   clear HX hi4
   by_cases h0 : z = 0
   ·subst h0
    have HE2 : Hid (erO er (k + 1) = 0) := hid (by rw [erO_succ,if_pos HE.out,HZ.out])
    go_wp2
    go_roundw
    case rel => exact ⟨k + 1,hlt,by go_num,hid (HI4.out (by first | rfl | trivial)),HE2⟩
    case measure => simp only [intOf]; omega
   ·have HE2 : Hid (erO er l.length = z) := hid (by rw [erO_stop hlt HE.out (by rw [HZ.out]; exact h0),HZ.out])
    have h0' : (z != 0) = true := by simpa using h0
    have h0d : decide (z = 0) = false := by simpa using h0
    go_wp2
    refine bodyPost_ret (v := .tuple #[.agg #[],.int .i64 z]) (by simp [results,Tryz.results112,go_sem]) rfl ⟨by rw [HE2.out],bal hb4 _,fun h => absurd (HE2.out.symm.trans h) h0⟩
  ·obtain rfl : k = l.length := by omega
   have hB := HI.out _ _ HK.out
   go_wp2
   refine bodyPost_ret (v := .tuple #[.agg #[],.int .i64 0]) (by simp [results,Tryz.results112,go_sem]) rfl ⟨by rw [HE.out],hB,fun _ => HK.out⟩

end Go.Proofs.YtljmlacnfnmjbaaGreat
