import Derived.Test.YtljmlacnfnmjbaaGreatTmap
import Derived.Test.YtljmlacnfnmjbaaGreatTmar
import Derived.Test.YtljmlacnfnmjbaaGreatTmad
namespace Go.Proofs.YtljmlacnfnmjbaaGreat
open Go.RowKit
set_option linter.unusedVariables false
set_option linter.unusedSimpArgs false

set_option maxRecDepth 100000 in
set_option maxHeartbeats 4000000 in
theorem foldExInts {l : List (Pg × Tg)} (hlen : l.length ≤ 500) {Q : Nat → Prop} {w : World} {ao : Option Addr} {n c : Nat} (h : RowIs eG Q w (.slice ao n c) l) {N : Nat} {caps : Array Value} (hcf : ∀ args w',(callFunc N args).run Tryz.prog w' = .ok (.enter N args) w') (er : Nat → Int) (I : Nat → World → Option Addr → Nat → Nat → Prop)
  (hI : ∀ i w' a m d,I i w' a m d → Below w.heap.size w w') (hA : ∀ i w' a m d o,I i w' a m d → I i (w'.alloc o) a m d) {a0 : Option Addr} {m0 d0 : Nat} (h0 : I 0 w a0 m0 d0)
  (hs : ∀ i (hi : i < l.length) (w' : World) (a : Option Addr) (m d : Nat) (cs : List Value),I i w' a m d → eG.E Q w' l[i] cs → Calls Tryz.prog N (#[.slice a m d,.agg cs.toArray] ++ caps) w' fun en w'' => ∃ a2 m2 d2,en = .returned (.tuple #[.slice a2 m2 d2,.int .i64 (er i)]) ∧ Below w.heap.size w w'' ∧ (er i = 0 → I (i + 1) w'' a2 m2 d2)) :
  Calls Tryz.prog 80 #[.slice ao n c,.slice a0 m0 d0,.func (.func N) #[] caps] w fun en w' => ∃ a2 m2 d2,en = .returned (.tuple #[.slice a2 m2 d2,.int .i64 (erO er l.length)]) ∧ Below w.heap.size w w' ∧ (erO er l.length = 0 → I l.length w' a2 m2 d2) := by
 have HR : Hid (∀ w',Below w.heap.size w w' → RowIs eG Q w' (.slice ao n c) l) := hid fun w' hb => h.keep (by decide) fun b _ hl => hb.block b hl
 have HS : Hid (∀ i (hi : i < l.length) (w' : World) (a : Option Addr) (m d : Nat) (cs : List Value),I i w' a m d → eG.E Q w' l[i] cs → _) := hid hs
 have HI : Hid (∀ i w' a m d,I i w' a m d → Below w.heap.size w w') := hid hI
 have HA : Hid (∀ i w' a m d o,I i w' a m d → I i (w'.alloc o) a m d) := hid hA
 have H0 : Hid (I 0 w a0 m0 d0) := hid h0
 obtain ⟨ao',n',c',e',hn,hnc,hc,_⟩ := h
 cases e'
 subst hn
 clear hs hI hA h0
 go_enter Tryz.func80,Tryz.ntmps80
 go_wp2
 go_loopw [1,14] (fun v1 v14 wr => ∃ k : Nat,∃ a m d,k ≤ l.length ∧ v14 = .int .i64 k ∧ v1 = .slice a m d ∧ Hid (I k wr a m d) ∧ Hid (erO er k = 0)) (fun _ i _ => l.length - (intOf i).toNat)
 case atStart => exact ⟨0,_,_,_,Nat.zero_le _,rfl,rfl,H0,hid rfl⟩
 case round =>
  obtain ⟨k,a,m,d,hk,rfl,rfl,HK,HE⟩ := hrel
  by_cases hlt : k < l.length
  ·have hB := HI.out _ _ _ _ _ HK.out
   obtain ⟨_,_,_,e',_,_,_,hx⟩ := HR.out wr hB
   cases e'
   obtain ⟨b,o,rfl,hq,hi⟩ := hx (by omega)
   obtain ⟨cs,hEx,h2,h3⟩ := hi k hlt
   obtain ⟨x,hxl⟩ : ∃ x,l[k] = x := ⟨_,rfl⟩
   rw [hxl] at hEx
   have hEx' := hEx
   obtain ⟨ea,en,ec,rfl,-⟩ := hEx'
   have c0 : wr.cell? ⟨b,o + k * 7,none⟩ = some (.int .i64 x.1.1) := by exact h3 0 (show 0 < 7 by decide)
   have c1 : wr.cell? ⟨b,o + k * 7 + 1,none⟩ = some (.int .i64 x.1.2.1) := by exact h3 1 (show 1 < 7 by decide)
   have c2 : wr.cell? ⟨b,o + k * 7 + 2,none⟩ = some (.int .i64 x.1.2.2.1) := by exact h3 2 (show 2 < 7 by decide)
   have c3 : wr.cell? ⟨b,o + k * 7 + 3,none⟩ = some (.string x.1.2.2.2.1) := by exact h3 3 (show 3 < 7 by decide)
   have c4 : wr.cell? ⟨b,o + k * 7 + 4,none⟩ = some (.string x.1.2.2.2.2.1) := by exact h3 4 (show 4 < 7 by decide)
   have c5 : wr.cell? ⟨b,o + k * 7 + 5,none⟩ = some (.string x.1.2.2.2.2.2) := by exact h3 5 (show 5 < 7 by decide)
   have c6 : wr.cell? ⟨b,o + k * 7 + 6,none⟩ = some (.slice ea en ec) := by exact h3 6 (show 6 < 7 by decide)
   have hkm : (k : Int) < (l.length : Int) := by omega
   have hk5 : k ≤ 500 := by omega
   clear h2 h3 hi hx
   have HX := HS.out k hlt (wr.alloc (.cells #[.int .i64 x.1.1,.int .i64 x.1.2.1,.int .i64 x.1.2.2.1,.string x.1.2.2.2.1,.string x.1.2.2.2.2.1,.string x.1.2.2.2.2.2,.slice ea en ec] 28)) a m d [.int .i64 x.1.1,.int .i64 x.1.2.1,.int .i64 x.1.2.2.1,.string x.1.2.2.2.1,.string x.1.2.2.2.2.1,.string x.1.2.2.2.2.2,.slice ea en ec] (HA.out _ _ _ _ _ _ HK.out) (by rw [hxl]; exact eG.keep (fun b _ hl => (bal (Below.refl _ _) _).block b hl) hEx)
   have bx := Bk.new wr (.cells #[.int .i64 x.1.1,.int .i64 x.1.2.1,.int .i64 x.1.2.2.1,.string x.1.2.2.2.1,.string x.1.2.2.2.2.1,.string x.1.2.2.2.2.2,.slice ea en ec] 28)
   clear hEx hxl
   go_upto_region 4 with fail
   generalize wr.alloc (.cells #[.int .i64 x.1.1,.int .i64 x.1.2.1,.int .i64 x.1.2.2.1,.string x.1.2.2.2.1,.string x.1.2.2.2.2.1,.string x.1.2.2.2.2.2,.slice ea en ec] 28) = W at *
   have d0 := bx.cell 0
   have d1 := bx.cell 1
   have d2 := bx.cell 2
   have d3 := bx.cell 3
   have d4 := bx.cell 4
   have d5 := bx.cell 5
   have d6 := bx.cell 6
   simp only [List.getElem?_toArray,List.getElem?_cons_zero,List.getElem?_cons_succ] at d0 d1 d2 d3 d4 d5 d6
   clear bx c0 c1 c2 c3 c4 c5 c6
   obtain ⟨z,hz⟩ : ∃ z,er k = z := ⟨_,rfl⟩
   rw [hz] at HX
   have HZ : Hid (er k = z) := hid hz
   replace HX : Hid _ := hid HX
   clear hz
   go_wp2_with fail
   refine Calls.mono HX.out ?_
   rintro e w4 ⟨a2,m2,d2,rfl,hb4,hi4⟩
   have HI4 : Hid _ := hid hi4
   clear HX hi4
   by_cases h0 : z = 0
   ·subst h0
    have HE2 : Hid (erO er (k + 1) = 0) := hid (by rw [erO_succ,if_pos HE.out,HZ.out])
    go_wp2
    go_roundw
    case rel => exact ⟨k + 1,a2,m2,d2,hlt,by go_num,rfl,hid (HI4.out (by first | rfl | trivial)),HE2⟩
    case measure => simp only [intOf]; omega
   ·have HE2 : Hid (erO er l.length = z) := hid (by rw [erO_stop hlt HE.out (by rw [HZ.out]; exact h0),HZ.out])
    have h0' : (z != 0) = true := by simpa using h0
    have h0d : decide (z = 0) = false := by simpa using h0
    go_wp2
    refine bodyPost_ret (v := .tuple #[.slice none 0 0,.int .i64 z]) (by simp [results,Tryz.results80]) rfl ⟨none,0,0,by rw [HE2.out],hb4,fun h => absurd (HE2.out.symm.trans h) h0⟩
  ·obtain rfl : k = l.length := by omega
   have hB := HI.out _ _ _ _ _ HK.out
   go_wp2
   refine bodyPost_ret (v := .tuple #[.slice a m d,.int .i64 0]) (by simp [results,Tryz.results80]) rfl ⟨a,m,d,by rw [HE.out],hB,fun _ => HK.out⟩

set_option maxRecDepth 100000 in
set_option maxHeartbeats 4000000 in
theorem foldItSc {l : List (It)} (hlen : l.length ≤ 500) {Q : Nat → Prop} {w : World} {ao : Option Addr} {n c : Nat} (h : RowIs eItem Q w (.slice ao n c) l) {N : Nat} {caps : Array Value} (hcf : ∀ args w',(callFunc N args).run Tryz.prog w' = .ok (.enter N args) w') (er : Nat → Int) (I : Nat → World → Option Addr → Nat → Nat → Prop)
  (hI : ∀ i w' a m d,I i w' a m d → Below w.heap.size w w') (hA : ∀ i w' a m d o,I i w' a m d → I i (w'.alloc o) a m d) {a0 : Option Addr} {m0 d0 : Nat} (h0 : I 0 w a0 m0 d0)
  (hs : ∀ i (hi : i < l.length) (w' : World) (a : Option Addr) (m d : Nat) (cs : List Value),I i w' a m d → eItem.E Q w' l[i] cs → Calls Tryz.prog N (#[.slice a m d,.agg cs.toArray] ++ caps) w' fun en w'' => ∃ a2 m2 d2,en = .returned (.tuple #[.slice a2 m2 d2,.int .i64 (er i)]) ∧ Below w.heap.size w w'' ∧ (er i = 0 → I (i + 1) w'' a2 m2 d2)) :
  Calls Tryz.prog 49 #[.slice ao n c,.slice a0 m0 d0,.func (.func N) #[] caps] w fun en w' => ∃ a2 m2 d2,en = .returned (.tuple #[.slice a2 m2 d2,.int .i64 (erO er l.length)]) ∧ Below w.heap.size w w' ∧ (erO er l.length = 0 → I l.length w' a2 m2 d2) := by
 have HR : Hid (∀ w',Below w.heap.size w w' → RowIs eItem Q w' (.slice ao n c) l) := hid fun w' hb => h.keep (by decide) fun b _ hl => hb.block b hl
 have HS : Hid (∀ i (hi : i < l.length) (w' : World) (a : Option Addr) (m d : Nat) (cs : List Value),I i w' a m d → eItem.E Q w' l[i] cs → _) := hid hs
 have HI : Hid (∀ i w' a m d,I i w' a m d → Below w.heap.size w w') := hid hI
 have HA : Hid (∀ i w' a m d o,I i w' a m d → I i (w'.alloc o) a m d) := hid hA
 have H0 : Hid (I 0 w a0 m0 d0) := hid h0
 obtain ⟨ao',n',c',e',hn,hnc,hc,_⟩ := h
 cases e'
 subst hn
 clear hs hI hA h0
 go_enter Tryz.func49,Tryz.ntmps49
 go_wp2
 go_loopw [1,14] (fun v1 v14 wr => ∃ k : Nat,∃ a m d,k ≤ l.length ∧ v14 = .int .i64 k ∧ v1 = .slice a m d ∧ Hid (I k wr a m d) ∧ Hid (erO er k = 0)) (fun _ i _ => l.length - (intOf i).toNat)
 case atStart => exact ⟨0,_,_,_,Nat.zero_le _,rfl,rfl,H0,hid rfl⟩
 case round =>
  obtain ⟨k,a,m,d,hk,rfl,rfl,HK,HE⟩ := hrel
  by_cases hlt : k < l.length
  ·have hB := HI.out _ _ _ _ _ HK.out
   obtain ⟨_,_,_,e',_,_,_,hx⟩ := HR.out wr hB
   cases e'
   obtain ⟨b,o,rfl,hq,hi⟩ := hx (by omega)
   obtain ⟨cs,hEx,h2,h3⟩ := hi k hlt
   obtain ⟨x,hxl⟩ : ∃ x,l[k] = x := ⟨_,rfl⟩
   rw [hxl] at hEx
   have hEx' := hEx
   obtain rfl := hEx'
   have c0 : wr.cell? ⟨b,o + k * 3,none⟩ = some (.int .i64 x.1) := by exact h3 0 (show 0 < 3 by decide)
   have c1 : wr.cell? ⟨b,o + k * 3 + 1,none⟩ = some (.string x.2.1) := by exact h3 1 (show 1 < 3 by decide)
   have c2 : wr.cell? ⟨b,o + k * 3 + 2,none⟩ = some (.string x.2.2) := by exact h3 2 (show 2 < 3 by decide)
   have hkm : (k : Int) < (l.length : Int) := by omega
   have hk5 : k ≤ 500 := by omega
   clear h2 h3 hi hx
   have HX := HS.out k hlt (wr.alloc (.cells #[.int .i64 x.1,.string x.2.1,.string x.2.2] 66)) a m d [.int .i64 x.1,.string x.2.1,.string x.2.2] (HA.out _ _ _ _ _ _ HK.out) (by rw [hxl]; exact eItem.keep (fun b _ hl => (bal (Below.refl _ _) _).block b hl) hEx)
   have bx := Bk.new wr (.cells #[.int .i64 x.1,.string x.2.1,.string x.2.2] 66)
   clear hEx hxl
   go_upto_region 4 with fail
   generalize wr.alloc (.cells #[.int .i64 x.1,.string x.2.1,.string x.2.2] 66) = W at *
   have d0 := bx.cell 0
   have d1 := bx.cell 1
   have d2 := bx.cell 2
   simp only [List.getElem?_toArray,List.getElem?_cons_zero,List.getElem?_cons_succ] at d0 d1 d2
   clear bx c0 c1 c2
   obtain ⟨z,hz⟩ : ∃ z,er k = z := ⟨_,rfl⟩
   rw [hz] at HX
   have HZ : Hid (er k = z) := hid hz
   replace HX : Hid _ := hid HX
   clear hz
   go_wp2_with fail
   refine Calls.mono HX.out ?_
   rintro e w4 ⟨a2,m2,d2,rfl,hb4,hi4⟩
   have HI4 : Hid _ := hid hi4
   clear HX hi4
   by_cases h0 : z = 0
   ·subst h0
    have HE2 : Hid (erO er (k + 1) = 0) := hid (by rw [erO_succ,if_pos HE.out,HZ.out])
    go_wp2
    go_roundw
    case rel => exact ⟨k + 1,a2,m2,d2,hlt,by go_num,rfl,hid (HI4.out (by first | rfl | trivial)),HE2⟩
    case measure => simp only [intOf]; omega
   ·have HE2 : Hid (erO er l.length = z) := hid (by rw [erO_stop hlt HE.out (by rw [HZ.out]; exact h0),HZ.out])
    have h0' : (z != 0) = true := by simpa using h0
    have h0d : decide (z = 0) = false := by simpa using h0
    go_wp2
    refine bodyPost_ret (v := .tuple #[.slice none 0 0,.int .i64 z]) (by simp [results,Tryz.results49]) rfl ⟨none,0,0,by rw [HE2.out],hb4,fun h => absurd (HE2.out.symm.trans h) h0⟩
  ·obtain rfl : k = l.length := by omega
   have hB := HI.out _ _ _ _ _ HK.out
   go_wp2
   refine bodyPost_ret (v := .tuple #[.slice a m d,.int .i64 0]) (by simp [results,Tryz.results49]) rfl ⟨a,m,d,by rw [HE.out],hB,fun _ => HK.out⟩

set_option maxRecDepth 100000 in
set_option maxHeartbeats 4000000 in
theorem foldCoSc {l : List (Co)} (hlen : l.length ≤ 500) {Q : Nat → Prop} {w : World} {ao : Option Addr} {n c : Nat} (h : RowIs eCol Q w (.slice ao n c) l) {N : Nat} {caps : Array Value} (hcf : ∀ args w',(callFunc N args).run Tryz.prog w' = .ok (.enter N args) w') (er : Nat → Int) (I : Nat → World → Option Addr → Nat → Nat → Prop)
  (hI : ∀ i w' a m d,I i w' a m d → Below w.heap.size w w') (hA : ∀ i w' a m d o,I i w' a m d → I i (w'.alloc o) a m d) {a0 : Option Addr} {m0 d0 : Nat} (h0 : I 0 w a0 m0 d0)
  (hs : ∀ i (hi : i < l.length) (w' : World) (a : Option Addr) (m d : Nat) (cs : List Value),I i w' a m d → eCol.E Q w' l[i] cs → Calls Tryz.prog N (#[.slice a m d,.agg cs.toArray] ++ caps) w' fun en w'' => ∃ a2 m2 d2,en = .returned (.tuple #[.slice a2 m2 d2,.int .i64 (er i)]) ∧ Below w.heap.size w w'' ∧ (er i = 0 → I (i + 1) w'' a2 m2 d2)) :
  Calls Tryz.prog 95 #[.slice ao n c,.slice a0 m0 d0,.func (.func N) #[] caps] w fun en w' => ∃ a2 m2 d2,en = .returned (.tuple #[.slice a2 m2 d2,.int .i64 (erO er l.length)]) ∧ Below w.heap.size w w' ∧ (erO er l.length = 0 → I l.length w' a2 m2 d2) := by
 have HR : Hid (∀ w',Below w.heap.size w w' → RowIs eCol Q w' (.slice ao n c) l) := hid fun w' hb => h.keep (by decide) fun b _ hl => hb.block b hl
 have HS : Hid (∀ i (hi : i < l.length) (w' : World) (a : Option Addr) (m d : Nat) (cs : List Value),I i w' a m d → eCol.E Q w' l[i] cs → _) := hid hs
 have HI : Hid (∀ i w' a m d,I i w' a m d → Below w.heap.size w w') := hid hI
 have HA : Hid (∀ i w' a m d o,I i w' a m d → I i (w'.alloc o) a m d) := hid hA
 have H0 : Hid (I 0 w a0 m0 d0) := hid h0
 obtain ⟨ao',n',c',e',hn,hnc,hc,_⟩ := h
 cases e'
 subst hn
 clear hs hI hA h0
 go_enter Tryz.func95,Tryz.ntmps95
 go_wp2
 go_loopw [1,14] (fun v1 v14 wr => ∃ k : Nat,∃ a m d,k ≤ l.length ∧ v14 = .int .i64 k ∧ v1 = .slice a m d ∧ Hid (I k wr a m d) ∧ Hid (erO er k = 0)) (fun _ i _ => l.length - (intOf i).toNat)
 case atStart => exact ⟨0,_,_,_,Nat.zero_le _,rfl,rfl,H0,hid rfl⟩
 case round =>
  obtain ⟨k,a,m,d,hk,rfl,rfl,HK,HE⟩ := hrel
  by_cases hlt : k < l.length
  ·have hB := HI.out _ _ _ _ _ HK.out
   obtain ⟨_,_,_,e',_,_,_,hx⟩ := HR.out wr hB
   cases e'
   obtain ⟨b,o,rfl,hq,hi⟩ := hx (by omega)
   obtain ⟨cs,hEx,h2,h3⟩ := hi k hlt
   obtain ⟨x,hxl⟩ : ∃ x,l[k] = x := ⟨_,rfl⟩
   rw [hxl] at hEx
   have hEx' := hEx
   obtain rfl := hEx'
   have c0 : wr.cell? ⟨b,o + k * 3,none⟩ = some (.string x.1) := by exact h3 0 (show 0 < 3 by decide)
   have c1 : wr.cell? ⟨b,o + k * 3 + 1,none⟩ = some (.int .i64 x.2.1) := by exact h3 1 (show 1 < 3 by decide)
   have c2 : wr.cell? ⟨b,o + k * 3 + 2,none⟩ = some (.string x.2.2) := by exact h3 2 (show 2 < 3 by decide)
   have hkm : (k : Int) < (l.length : Int) := by omega
   have hk5 : k ≤ 500 := by omega
   clear h2 h3 hi hx
   have HX := HS.out k hlt (wr.alloc (.cells #[.string x.1,.int .i64 x.2.1,.string x.2.2] 84)) a m d [.string x.1,.int .i64 x.2.1,.string x.2.2] (HA.out _ _ _ _ _ _ HK.out) (by rw [hxl]; exact eCol.keep (fun b _ hl => (bal (Below.refl _ _) _).block b hl) hEx)
   have bx := Bk.new wr (.cells #[.string x.1,.int .i64 x.2.1,.string x.2.2] 84)
   clear hEx hxl
   go_upto_region 4 with fail
   generalize wr.alloc (.cells #[.string x.1,.int .i64 x.2.1,.string x.2.2] 84) = W at *
   have d0 := bx.cell 0
   have d1 := bx.cell 1
   have d2 := bx.cell 2
   simp only [List.getElem?_toArray,List.getElem?_cons_zero,List.getElem?_cons_succ] at d0 d1 d2
   clear bx c0 c1 c2
   obtain ⟨z,hz⟩ : ∃ z,er k = z := ⟨_,rfl⟩
   rw [hz] at HX
   have HZ : Hid (er k = z) := hid hz
   replace HX : Hid _ := hid HX
   clear hz
   go_wp2_with fail
   refine Calls.mono HX.out ?_
   rintro e w4 ⟨a2,m2,d2,rfl,hb4,hi4⟩
   have HI4 : Hid _ := hid hi4
   clear HX hi4
   by_cases h0 : z = 0
   ·subst h0
    have HE2 : Hid (erO er (k + 1) = 0) := hid (by rw [erO_succ,if_pos HE.out,HZ.out])
    go_wp2
    go_roundw
    case rel => exact ⟨k + 1,a2,m2,d2,hlt,by go_num,rfl,hid (HI4.out (by first | rfl | trivial)),HE2⟩
    case measure => simp only [intOf]; omega
   ·have HE2 : Hid (erO er l.length = z) := hid (by rw [erO_stop hlt HE.out (by rw [HZ.out]; exact h0),HZ.out])
    have h0' : (z != 0) = true := by simpa using h0
    have h0d : decide (z = 0) = false := by simpa using h0
    go_wp2
    refine bodyPost_ret (v := .tuple #[.slice none 0 0,.int .i64 z]) (by simp [results,Tryz.results95]) rfl ⟨none,0,0,by rw [HE2.out],hb4,fun h => absurd (HE2.out.symm.trans h) h0⟩
  ·obtain rfl : k = l.length := by omega
   have hB := HI.out _ _ _ _ _ HK.out
   go_wp2
   refine bodyPost_ret (v := .tuple #[.slice a m d,.int .i64 0]) (by simp [results,Tryz.results95]) rfl ⟨a,m,d,by rw [HE.out],hB,fun _ => HK.out⟩

set_option maxRecDepth 100000 in
set_option maxHeartbeats 4000000 in
theorem foldStSc {l : List (ByteArray)} (hlen : l.length ≤ 500) {Q : Nat → Prop} {w : World} {ao : Option Addr} {n c : Nat} (h : RowIs eStr Q w (.slice ao n c) l) {N : Nat} {caps : Array Value} (hcf : ∀ args w',(callFunc N args).run Tryz.prog w' = .ok (.enter N args) w') (er : Nat → Int) (I : Nat → World → Option Addr → Nat → Nat → Prop)
  (hI : ∀ i w' a m d,I i w' a m d → Below w.heap.size w w') (hA : ∀ i w' a m d o,I i w' a m d → I i (w'.alloc o) a m d) {a0 : Option Addr} {m0 d0 : Nat} (h0 : I 0 w a0 m0 d0)
  (hs : ∀ i (hi : i < l.length) (w' : World) (a : Option Addr) (m d : Nat),I i w' a m d → Calls Tryz.prog N (#[.slice a m d,.string l[i]] ++ caps) w' fun en w'' => ∃ a2 m2 d2,en = .returned (.tuple #[.slice a2 m2 d2,.int .i64 (er i)]) ∧ Below w.heap.size w w'' ∧ (er i = 0 → I (i + 1) w'' a2 m2 d2)) :
  Calls Tryz.prog 98 #[.slice ao n c,.slice a0 m0 d0,.func (.func N) #[] caps] w fun en w' => ∃ a2 m2 d2,en = .returned (.tuple #[.slice a2 m2 d2,.int .i64 (erO er l.length)]) ∧ Below w.heap.size w w' ∧ (erO er l.length = 0 → I l.length w' a2 m2 d2) := by
 have HR : Hid (∀ w',Below w.heap.size w w' → RowIs eStr Q w' (.slice ao n c) l) := hid fun w' hb => h.keep (by decide) fun b _ hl => hb.block b hl
 have HS : Hid (∀ i (hi : i < l.length) (w' : World) (a : Option Addr) (m d : Nat),I i w' a m d → _) := hid hs
 have HI : Hid (∀ i w' a m d,I i w' a m d → Below w.heap.size w w') := hid hI
 have HA : Hid (∀ i w' a m d o,I i w' a m d → I i (w'.alloc o) a m d) := hid hA
 have H0 : Hid (I 0 w a0 m0 d0) := hid h0
 obtain ⟨ao',n',c',e',hn,hnc,hc,_⟩ := h
 cases e'
 subst hn
 clear hs hI hA h0
 go_enter Tryz.func98,Tryz.ntmps98
 go_wp2
 go_loopw [1,14] (fun v1 v14 wr => ∃ k : Nat,∃ a m d,k ≤ l.length ∧ v14 = .int .i64 k ∧ v1 = .slice a m d ∧ Hid (I k wr a m d) ∧ Hid (erO er k = 0)) (fun _ i _ => l.length - (intOf i).toNat)
 case atStart => exact ⟨0,_,_,_,Nat.zero_le _,rfl,rfl,H0,hid rfl⟩
 case round =>
  obtain ⟨k,a,m,d,hk,rfl,rfl,HK,HE⟩ := hrel
  by_cases hlt : k < l.length
  ·have hB := HI.out _ _ _ _ _ HK.out
   obtain ⟨_,_,_,e',_,_,_,hx⟩ := HR.out wr hB
   cases e'
   obtain ⟨b,o,rfl,hq,hi⟩ := hx (by omega)
   obtain ⟨cs,hEx,h2,h3⟩ := hi k hlt
   obtain ⟨x,hxl⟩ : ∃ x,l[k] = x := ⟨_,rfl⟩
   rw [hxl] at hEx
   have hEx' := hEx
   obtain rfl := hEx'
   have c0 : wr.cell? ⟨b,o + k,none⟩ = some (.string x) := by have := h3 0 (show 0 < 1 by decide); simpa [eStr] using this
   have hkm : (k : Int) < (l.length : Int) := by omega
   have hk5 : k ≤ 500 := by omega
   clear h2 h3 hi hx
   have HX := HS.out k hlt wr a m d HK.out
   rw [hxl] at HX
   clear hEx hxl
   obtain ⟨z,hz⟩ : ∃ z,er k = z := ⟨_,rfl⟩
   rw [hz] at HX
   have HZ : Hid (er k = z) := hid hz
   replace HX : Hid _ := hid HX
   clear hz
   go_wp2_with fail
   refine Calls.mono HX.out ?_
   rintro e w4 ⟨a2,m2,d2,rfl,hb4,hi4⟩
   have HI4 : Hid _ := hid hi4
   clear HX hi4
   by_cases h0 : z = 0
   ·subst h0
    have HE2 : Hid (erO er (k + 1) = 0) := hid (by rw [erO_succ,if_pos HE.out,HZ.out])
    go_wp2
    go_roundw
    case rel => exact ⟨k + 1,a2,m2,d2,hlt,by go_num,rfl,hid (HI4.out (by first | rfl | trivial)),HE2⟩
    case measure => simp only [intOf]; omega
   ·have HE2 : Hid (erO er l.length = z) := hid (by rw [erO_stop hlt HE.out (by rw [HZ.out]; exact h0),HZ.out])
    have h0' : (z != 0) = true := by simpa using h0
    have h0d : decide (z = 0) = false := by simpa using h0
    go_wp2
    refine bodyPost_ret (v := .tuple #[.slice none 0 0,.int .i64 z]) (by simp [results,Tryz.results98]) rfl ⟨none,0,0,by rw [HE2.out],hb4,fun h => absurd (HE2.out.symm.trans h) h0⟩
  ·obtain rfl : k = l.length := by omega
   have hB := HI.out _ _ _ _ _ HK.out
   go_wp2
   refine bodyPost_ret (v := .tuple #[.slice a m d,.int .i64 0]) (by simp [results,Tryz.results98]) rfl ⟨a,m,d,by rw [HE.out],hB,fun _ => HK.out⟩

end Go.Proofs.YtljmlacnfnmjbaaGreat
namespace Go.Proofs.YtljmlacnfnmjbaaGreat
open Go.RowKit
set_option linter.unusedVariables false
set_option linter.unusedSimpArgs false

theorem Tryz.infoTClm : (Tryz.prog.info? 100).map (fun i => (i.zero,i.size,i.bytes)) = some (some (.agg #[.string ⟨#[]⟩,.string ⟨#[]⟩,.int .i64 0]),3,40) := by kernel_rfl
theorem Tryz.infoTInt2 : (Tryz.prog.info? 3).map (fun i => (i.zero,i.size,i.bytes)) = some (some (.int .i64 0),1,8) := by kernel_rfl
theorem newK1 (w : World) (a : Value) (ty : TypeId) : ∀ j (hj : j < [a].length),(w.alloc (.cells #[a] ty)).cell? ⟨w.heap.size,j,none⟩ = some [a][j] := by
 intro j hj
 have hj' : j < 1 := hj
 match j,hj' with
 | 0,_ => exact cell_new w _ _ _ 0
/-- A function value that answers p of a number. -/
def SuchI (l : List Int) (p : Int → Bool) (w : World) (v : Value) : Prop := ∃ N caps,v = .func (.func N) #[] caps ∧ (∀ args w',(callFunc N args).run Tryz.prog w' = .ok (.enter N args) w') ∧ ∀ (x : Int) (w' : World),x ∈ l → Below w.heap.size w w' → Calls Tryz.prog N (#[.int .i64 x] ++ caps) w' fun en w'' => en = .returned (.bool (p x)) ∧ Below w'.heap.size w' w''
theorem filter_snoc {α : Type} (p : α → Bool) {l : List α} {i : Nat} (h : i < l.length) : (l.take (i + 1)).filter p = (l.take i).filter p ++ (if p l[i] then [l[i]] else []) := by
 rw [List.take_succ_eq_append_getElem h,List.filter_append,List.filter_cons,List.filter_nil]
theorem filter_le {α : Type} (p : α → Bool) (l : List α) (i : Nat) : ((l.take i).filter p).length ≤ l.length := by
 have h1 := List.length_filter_le p (l.take i)
 rw [List.length_take] at h1
 omega
theorem filter_all {α : Type} (p : α → Bool) (l : List α) : decide ((l.filter p).length = l.length) = l.all p := by
 rw [Bool.eq_iff_iff]
 simp only [decide_eq_true_eq,List.all_eq_true,List.length_filter_eq_length_iff]

set_option maxRecDepth 100000 in
set_option maxHeartbeats 4000000 in
theorem such1Cm {p : Cl3 → Bool} {w1 : World} {bf : Nat} {N : Nat} {caps : Array Value} (hv : SuchZ eClm p w1 (.func (.func N) #[] caps)) (hf : w1.cell? ⟨bf,0,none⟩ = some (.func (.func N) #[] caps)) {Q : Nat → Prop} {x : Cl3} {w' : World} (hb : Below w1.heap.size w1 w') {a : Option Addr} {m d : Nat} {css : List (List Value)} (ho : OwnR 100 3 w1.heap.size w' (.slice a m d) css) (hl : css.length ≤ 500) {cs : List Value} (hx : eClm.E Q w' x cs) :
  Calls Tryz.prog 103 #[.slice a m d,.agg cs.toArray,.pointer (some ⟨bf,0,none⟩)] w' fun en w'' => ∃ a2 m2 d2,en = .returned (.tuple #[.slice a2 m2 d2,.int .i64 0]) ∧ Below w1.heap.size w1 w'' ∧ OwnR 100 3 w1.heap.size w'' (.slice a2 m2 d2) (if p x then css ++ [cs] else css) := by
 obtain ⟨N',caps',e',hcf,hN⟩ := hv
 cases e'
 obtain ⟨R,hR⟩ : ∃ R,(if p x then css ++ [cs] else css) = R := ⟨_,rfl⟩
 rw [hR]
 have hEx' := hx
 obtain rfl := hEx'
 have HX := hN x Q [.string x.1,.string x.2.1,.int .i64 x.2.2] (w'.alloc (.cells #[.string x.1,.string x.2.1,.int .i64 x.2.2] 100)) (bal hb _) (eClm.keep (fun b _ hl => (bal (Below.refl _ _) _).block b hl) hx)
 have bx := Bk.new w' (.cells #[.string x.1,.string x.2.1,.int .i64 x.2.2] 100)
 have ho1 := ho.alloc (.cells #[.string x.1,.string x.2.1,.int .i64 x.2.2] 100)
 have hb1 := bal hb (.cells #[.string x.1,.string x.2.1,.int .i64 x.2.2] 100)
 have hf1 := cell_later hb1 hf
 clear ho hb hN hx hf
 go_enter Tryz.func103,Tryz.ntmps103
 go_upto_region 1 with fail
 generalize w'.alloc (.cells #[.string x.1,.string x.2.1,.int .i64 x.2.2] 100) = W at *
 have d0 := bx.cell 0
 have d1 := bx.cell 1
 have d2 := bx.cell 2
 simp only [List.getElem?_toArray,List.getElem?_cons_zero,List.getElem?_cons_succ] at d0 d1 d2
 clear bx
 cases hp : p x with
 | true =>
  rw [hp] at HX hR
  have HR : Hid _ := hid hR
  replace HX : Hid _ := hid HX
  clear hp hR
  go_wp2_with fail
  refine Calls.mono HX.out ?_
  rintro e w4 ⟨rfl,hb4⟩
  have ho4 := ho1.later hb4
  have hB4 := Below.on hb1 hb4
  replace d0 := cell_later hb4 d0
  replace d1 := cell_later hb4 d1
  replace d2 := cell_later hb4 d2
  clear HX hf1 ho1 hb1 hb4
  have ho5 := ho4.alloc (.cells #[.string x.1,.string x.2.1,.int .i64 x.2.2] 100)
  have hB5 := bal hB4 (.cells #[.string x.1,.string x.2.1,.int .i64 x.2.2] 100)
  have hblk := ho4.blk
  clear ho4 hB4
  go_wp2_with (first | (at_builtin; go_must (refine wpList_appR Tryz.underlying69 Tryz.infoTClm rfl (by decide) (by decide) rfl (.tmp 10) (.tmp 12) rfl _ css w4.heap.size [.string x.1,.string x.2.1,.int .i64 x.2.2] rfl rfl ho5 rfl (by simp [Value.oneCell']) (new3 w4 _ _ _ _) (by omega) hB5.size ?_)) | fail)
  intro v' w6 hO6 hg6 hown
  have hB6 := below_grows hB5 hB5.size hg6 fun k e => (hblk k e).1
  obtain ⟨a2,m2,d2,rfl⟩ := hO6.sl
  clear hg6 hown ho5 hB5 hblk
  go_wp2
  refine bodyPost_ret (v := .tuple #[.slice a2 m2 d2,.int .i64 0]) (by simp [results,Tryz.results103]) rfl ⟨a2,m2,d2,rfl,hB6,?_⟩
  rw [← HR.out]
  exact hO6
 | false =>
  rw [hp] at HX hR
  have HR : Hid _ := hid hR
  replace HX : Hid _ := hid HX
  clear hp hR
  go_wp2_with fail
  refine Calls.mono HX.out ?_
  rintro e w4 ⟨rfl,hb4⟩
  have ho4 := ho1.later hb4
  have hB4 := Below.on hb1 hb4
  replace d0 := cell_later hb4 d0
  replace d1 := cell_later hb4 d1
  replace d2 := cell_later hb4 d2
  clear HX hf1 ho1 hb1 hb4
  go_wp2
  refine bodyPost_ret (v := .tuple #[.slice a m d,.int .i64 0]) (by simp [results,Tryz.results103]) rfl ⟨a,m,d,rfl,hB4,?_⟩
  rw [← HR.out]
  exact ho4

set_option maxRecDepth 100000 in
set_option maxHeartbeats 4000000 in
theorem suchCm {l : List (Cl3)} (hlen : l.length ≤ 500) {p : Cl3 → Bool} {Q : Nat → Prop} {w : World} {ao : Option Addr} {n c : Nat} (h : RowIs eClm Q w (.slice ao n c) l) {N : Nat} {caps : Array Value} (hv : SuchZ eClm p w (.func (.func N) #[] caps)) :
  Calls Tryz.prog 78 #[.slice ao n c,.func (.func N) #[] caps] w fun en w' => ∃ a m d,en = .returned (.slice a m d) ∧ m = (l.filter p).length ∧ Below w.heap.size w w' ∧ RowIs eClm (fun _ => True) w' (.slice a m d) (l.filter p) := by
 have hw := bal (Below.refl w.heap.size w) (.cells #[.func (.func N) #[] caps] 129)
 have hf := cell_new w #[.func (.func N) #[] caps] 129 (0,0) 0
 have hv1 : SuchZ eClm p (w.alloc (.cells #[.func (.func N) #[] caps] 129)) (.func (.func N) #[] caps) := by
  obtain ⟨N',caps',e',hcf,hN⟩ := hv
  cases e'
  exact ⟨N,caps,rfl,hcf,fun x Q cs w' hb hx => hN x Q cs w' (Below.on hw hb) hx⟩
 have hr1 : RowIs eClm Q (w.alloc (.cells #[.func (.func N) #[] caps] 129)) (.slice ao n c) l := h.keep (by decide) fun b _ hl => hw.block b hl
 have hcf : ∀ args w',(callFunc 103 args).run Tryz.prog w' = .ok (.enter 103 args) w' := fun args w' => by rfl
 have HC := foldCmCms hlen hr1 (caps := #[.pointer (some ⟨w.heap.size,0,none⟩)]) hcf (fun _ => 0) (fun i w' a m d => Below (w.alloc (.cells #[.func (.func N) #[] caps] 129)).heap.size (w.alloc (.cells #[.func (.func N) #[] caps] 129)) w' ∧ ∃ css,OwnR 100 3 (w.alloc (.cells #[.func (.func N) #[] caps] 129)).heap.size w' (.slice a m d) css ∧ css.length = ((l.take i).filter p).length ∧ css = ((l.take i).filter p).map fun c => [.string c.1,.string c.2.1,.int .i64 c.2.2])
  (fun i w' a m d hI => hI.1) (fun i w' a m d o hI => ⟨bal hI.1 o,by obtain ⟨css,h1,h2⟩ := hI.2; exact ⟨css,h1.alloc o,h2⟩⟩) (a0 := none) (m0 := 0) (d0 := 0) ⟨Below.refl _ _,[],OwnR.nil _ _ _ _,by simp⟩
  (fun i hi w' a m d cs hI hx => by
   obtain ⟨hb,css,ho,hl,hm⟩ := hI
   have hle := filter_le p l i
   refine Calls.mono (such1Cm hv1 hf (x := l[i]) hb ho (by omega) hx) ?_
   rintro en w'' ⟨a2,m2,d2,rfl,hb2,ho2⟩
   refine ⟨a2,m2,d2,rfl,hb2,fun _ => ⟨hb2,_,ho2,?_,?_⟩⟩
   ·rw [filter_snoc p hi]
    by_cases hp : p l[i] = true
    ·rw [if_pos hp,if_pos hp,List.length_append,List.length_append,hl]; rfl
    ·rw [if_neg hp,if_neg hp,List.append_nil,hl]
   ·rw [filter_snoc p hi]
    have hx' : cs = [.string l[i].1,.string l[i].2.1,.int .i64 l[i].2.2] := hx
    by_cases hp : p l[i] = true
    ·rw [if_pos hp,if_pos hp,List.map_append,hm,hx']; rfl
    ·rw [if_neg hp,if_neg hp,List.append_nil,hm])
 replace HC : Hid _ := hid HC
 clear hv hv1 hr1 hf hcf h
 go_enter Tryz.func78,Tryz.ntmps78
 go_wp2_with fail
 refine Calls.mono HC.out ?_
 rintro e w4 ⟨a,m,d,rfl,hb4,hI⟩
 have hz : erO (fun _ => 0) l.length = 0 := by
  unfold erO
  induction l.length with
  | zero => rfl
  | succ n ih => rw [List.range_succ,List.map_append,erL_app,ih]; rfl
 have HI : Hid _ := hid (hI hz)
 rw [hz]
 clear HC hI
 go_wp2
 refine bodyPost_ret (v := .slice a m d) (by simp [results,Tryz.results78]) rfl ?_
 obtain ⟨hB,css,ho,hl,hm⟩ := HI.out
 rw [List.take_length] at hl hm
 have hR : RowIs eClm (fun _ => True) w4 (.slice a m d) (l.filter p) := OwnR.rowE (e := eClm) ho (by rw [hl]) (fun _ _ _ => trivial) fun i h1 h2 => by
  show css[i] = _
  simp only [hm,List.getElem_map]
 obtain ⟨_,_,_,e,h1,_⟩ := id hR
 cases e
 exact ⟨a,m,d,rfl,h1.symm,Below.on hw hB,hR⟩

set_option maxRecDepth 100000 in
set_option maxHeartbeats 4000000 in
theorem such1In {l : List Int} {p : Int → Bool} {w1 : World} {bf : Nat} {N : Nat} {caps : Array Value} (hv : SuchI l p w1 (.func (.func N) #[] caps)) (hf : w1.cell? ⟨bf,0,none⟩ = some (.func (.func N) #[] caps)) {x : Int} (hxl : x ∈ l) {w' : World} (hb : Below w1.heap.size w1 w') {a : Option Addr} {m d : Nat} {css : List (List Value)} (ho : OwnR 3 1 w1.heap.size w' (.slice a m d) css) (hl : css.length ≤ 500)  :
  Calls Tryz.prog 124 #[.slice a m d,.int .i64 x,.pointer (some ⟨bf,0,none⟩)] w' fun en w'' => ∃ a2 m2 d2,en = .returned (.tuple #[.slice a2 m2 d2,.int .i64 0]) ∧ Below w1.heap.size w1 w'' ∧ OwnR 3 1 w1.heap.size w'' (.slice a2 m2 d2) (if p x then css ++ [[.int .i64 x]] else css) := by
 obtain ⟨N',caps',e',hcf,hN⟩ := hv
 cases e'
 obtain ⟨R,hR⟩ : ∃ R,(if p x then css ++ [[.int .i64 x]] else css) = R := ⟨_,rfl⟩
 rw [hR]
 have HX := hN x w' hxl hb
 have ho1 := ho
 have hb1 := hb
 have hf1 := cell_later hb1 hf
 clear ho hb hN hf
 go_enter Tryz.func124,Tryz.ntmps124
 cases hp : p x with
 | true =>
  rw [hp] at HX hR
  have HR : Hid _ := hid hR
  replace HX : Hid _ := hid HX
  clear hp hR
  go_wp2_with fail
  refine Calls.mono HX.out ?_
  rintro e w4 ⟨rfl,hb4⟩
  have ho4 := ho1.later hb4
  have hB4 := Below.on hb1 hb4
  clear HX hf1 ho1 hb1 hb4
  have ho5 := ho4.alloc (.cells #[.int .i64 x] 3)
  have hB5 := bal hB4 (.cells #[.int .i64 x] 3)
  have hblk := ho4.blk
  clear ho4 hB4
  go_wp2_with (first | (at_builtin; go_must (refine wpList_appR Tryz.underlying23 Tryz.infoTInt2 rfl (by decide) (by decide) rfl (.tmp 10) (.tmp 12) rfl _ css w4.heap.size [.int .i64 x] rfl rfl ho5 rfl (by simp [Value.oneCell']) (newK1 w4 _ _) (by omega) hB5.size ?_)) | fail)
  intro v' w6 hO6 hg6 hown
  have hB6 := below_grows hB5 hB5.size hg6 fun k e => (hblk k e).1
  obtain ⟨a2,m2,d2,rfl⟩ := hO6.sl
  clear hg6 hown ho5 hB5 hblk
  go_wp2
  refine bodyPost_ret (v := .tuple #[.slice a2 m2 d2,.int .i64 0]) (by simp [results,Tryz.results124]) rfl ⟨a2,m2,d2,rfl,hB6,?_⟩
  rw [← HR.out]
  exact hO6
 | false =>
  rw [hp] at HX hR
  have HR : Hid _ := hid hR
  replace HX : Hid _ := hid HX
  clear hp hR
  go_wp2_with fail
  refine Calls.mono HX.out ?_
  rintro e w4 ⟨rfl,hb4⟩
  have ho4 := ho1.later hb4
  have hB4 := Below.on hb1 hb4
  clear HX hf1 ho1 hb1 hb4
  go_wp2
  refine bodyPost_ret (v := .tuple #[.slice a m d,.int .i64 0]) (by simp [results,Tryz.results124]) rfl ⟨a,m,d,rfl,hB4,?_⟩
  rw [← HR.out]
  exact ho4

set_option maxRecDepth 100000 in
set_option maxHeartbeats 4000000 in
theorem suchIn {l : List (Int)} (hlen : l.length ≤ 500) {p : Int → Bool} {Q : Nat → Prop} {w : World} {ao : Option Addr} {n c : Nat} (h : RowIs eInt Q w (.slice ao n c) l) {N : Nat} {caps : Array Value} (hv : SuchI l p w (.func (.func N) #[] caps)) :
  Calls Tryz.prog 105 #[.slice ao n c,.func (.func N) #[] caps] w fun en w' => ∃ a m d,en = .returned (.slice a m d) ∧ m = (l.filter p).length ∧ Below w.heap.size w w' ∧ m ≤ d ∧ d ≤ 9223372036854775807 := by
 have hw := bal (Below.refl w.heap.size w) (.cells #[.func (.func N) #[] caps] 134)
 have hf := cell_new w #[.func (.func N) #[] caps] 134 (0,0) 0
 have hv1 : SuchI l p (w.alloc (.cells #[.func (.func N) #[] caps] 134)) (.func (.func N) #[] caps) := by
  obtain ⟨N',caps',e',hcf,hN⟩ := hv
  cases e'
  exact ⟨N,caps,rfl,hcf,fun x w' hx hb => hN x w' hx (Below.on hw hb)⟩
 have hr1 : RowIs eInt Q (w.alloc (.cells #[.func (.func N) #[] caps] 134)) (.slice ao n c) l := h.keep (by decide) fun b _ hl => hw.block b hl
 have hcf : ∀ args w',(callFunc 124 args).run Tryz.prog w' = .ok (.enter 124 args) w' := fun args w' => by rfl
 have HC := foldInInts hlen hr1 (caps := #[.pointer (some ⟨w.heap.size,0,none⟩)]) hcf (fun _ => 0) (fun i w' a m d => Below (w.alloc (.cells #[.func (.func N) #[] caps] 134)).heap.size (w.alloc (.cells #[.func (.func N) #[] caps] 134)) w' ∧ ∃ css,OwnR 3 1 (w.alloc (.cells #[.func (.func N) #[] caps] 134)).heap.size w' (.slice a m d) css ∧ css.length = ((l.take i).filter p).length)
  (fun i w' a m d hI => hI.1) (fun i w' a m d o hI => ⟨bal hI.1 o,by obtain ⟨css,h1,h2⟩ := hI.2; exact ⟨css,h1.alloc o,h2⟩⟩) (a0 := none) (m0 := 0) (d0 := 0) ⟨Below.refl _ _,[],OwnR.nil _ _ _ _,by simp⟩
  (fun i hi w' a m d hI => by
   obtain ⟨hb,css,ho,hl⟩ := hI
   have hle := filter_le p l i
   refine Calls.mono (such1In hv1 hf (x := l[i]) (List.getElem_mem hi) hb ho (by omega)) ?_
   rintro en w'' ⟨a2,m2,d2,rfl,hb2,ho2⟩
   refine ⟨a2,m2,d2,rfl,hb2,fun _ => ⟨hb2,_,ho2,?_⟩⟩
   ·rw [filter_snoc p hi]
    by_cases hp : p l[i] = true
    ·rw [if_pos hp,if_pos hp,List.length_append,List.length_append,hl]; rfl
    ·rw [if_neg hp,if_neg hp,List.append_nil,hl])
 replace HC : Hid _ := hid HC
 clear hv hv1 hr1 hf hcf h
 go_enter Tryz.func105,Tryz.ntmps105
 go_wp2_with fail
 refine Calls.mono HC.out ?_
 rintro e w4 ⟨a,m,d,rfl,hb4,hI⟩
 have hz : erO (fun _ => 0) l.length = 0 := by
  unfold erO
  induction l.length with
  | zero => rfl
  | succ n ih => rw [List.range_succ,List.map_append,erL_app,ih]; rfl
 have HI : Hid _ := hid (hI hz)
 rw [hz]
 clear HC hI
 go_wp2
 refine bodyPost_ret (v := .slice a m d) (by simp [results,Tryz.results105]) rfl ?_
 obtain ⟨hB,css,ho,hl⟩ := HI.out
 rw [List.take_length] at hl
 have h1 := ho.2.1
 rcases ho.2.2 with ⟨e,h0⟩ | ⟨g,cap,cur,e,_,_,hnc,hc,_⟩
 ·cases e
  exact ⟨none,0,0,rfl,by omega,Below.on hw hB,Nat.le_refl _,by omega⟩
 ·cases e
  exact ⟨_,_,_,rfl,hl,Below.on hw hB,hnc,by simpa [maxLen] using hc⟩

set_option maxRecDepth 100000 in
set_option maxHeartbeats 4000000 in
theorem allIn {l : List (Int)} (hlen : l.length ≤ 500) {p : Int → Bool} {Q : Nat → Prop} {w : World} {ao : Option Addr} {n c : Nat} (h : RowIs eInt Q w (.slice ao n c) l) {N : Nat} {caps : Array Value} (hv : SuchI l p w (.func (.func N) #[] caps)) :
  Calls Tryz.prog 83 #[.slice ao n c,.func (.func N) #[] caps] w fun en w' => en = .returned (.bool (l.all p)) ∧ Below w.heap.size w w' := by
 have HC : Hid _ := hid (suchIn hlen h hv)
 have HF := filter_all p l
 have hle := List.length_filter_le p l
 obtain ⟨_,_,_,e',hn,hnc,hc,_⟩ := h
 cases e'
 subst hn
 clear hv
 go_enter Tryz.func83,Tryz.ntmps83
 go_wp2_with fail
 refine Calls.mono HC.out ?_
 rintro e w4 ⟨a,m,d,rfl,rfl,hb4,hmd,hd⟩
 replace HF : Hid _ := hid HF
 clear HC
 go_wp2
 go_ret
 refine ⟨ret_bool ?_,hb4⟩
 rw [← HF.out,Bool.eq_iff_iff]
 simp only [beq_iff_eq,decide_eq_true_eq]
 omega

end Go.Proofs.YtljmlacnfnmjbaaGreat
