import Derived.Test.YtljmlacnfnmjbaaGreatTmaq
import Derived.Test.YtljmlacnfnmjbaaGreatTmar
import Derived.Test.YtljmlacnfnmjbaaGreatTmad
import Derived.Test.YtljmlacnfnmjbaaGreatTmap
namespace Go.Proofs.YtljmlacnfnmjbaaGreat
open Go.RowKit
set_option linter.unusedVariables false
set_option linter.unusedSimpArgs false

set_option maxRecDepth 100000 in
set_option maxHeartbeats 4000000 in
theorem such1Ex {p : Pg × Tg → Bool} {w1 : World} {bf : Nat} {N : Nat} {caps : Array Value} (hv : SuchZ eG p w1 (.func (.func N) #[] caps)) (hf : w1.cell? ⟨bf,0,none⟩ = some (.func (.func N) #[] caps)) {Q : Nat → Prop} {x : Pg × Tg} {w' : World} (hb : Below w1.heap.size w1 w') {a : Option Addr} {m d : Nat} {css : List (List Value)} (ho : OwnR 28 7 w1.heap.size w' (.slice a m d) css) (hl : css.length ≤ 500) {cs : List Value} (hx : eG.E Q w' x cs) :
  Calls Tryz.prog 108 #[.slice a m d,.agg cs.toArray,.pointer (some ⟨bf,0,none⟩)] w' fun en w'' => ∃ a2 m2 d2,en = .returned (.tuple #[.slice a2 m2 d2,.int .i64 0]) ∧ Below w1.heap.size w1 w'' ∧ OwnR 28 7 w1.heap.size w'' (.slice a2 m2 d2) (if p x then css ++ [cs] else css) := by
 obtain ⟨N',caps',e',hcf,hN⟩ := hv
 cases e'
 obtain ⟨R,hR⟩ : ∃ R,(if p x then css ++ [cs] else css) = R := ⟨_,rfl⟩
 rw [hR]
 have hEx' := hx
 obtain ⟨ea,en,ec,rfl,-⟩ := hEx'
 simp only [exC] at *
 have HX := hN x Q [.int .i64 x.1.1,.int .i64 x.1.2.1,.int .i64 x.1.2.2.1,.string x.1.2.2.2.1,.string x.1.2.2.2.2.1,.string x.1.2.2.2.2.2,.slice ea en ec] (w'.alloc (.cells #[.int .i64 x.1.1,.int .i64 x.1.2.1,.int .i64 x.1.2.2.1,.string x.1.2.2.2.1,.string x.1.2.2.2.2.1,.string x.1.2.2.2.2.2,.slice ea en ec] 28)) (bal hb _) (eG.keep (fun b _ hl => (bal (Below.refl _ _) _).block b hl) hx)
 have bx := Bk.new w' (.cells #[.int .i64 x.1.1,.int .i64 x.1.2.1,.int .i64 x.1.2.2.1,.string x.1.2.2.2.1,.string x.1.2.2.2.2.1,.string x.1.2.2.2.2.2,.slice ea en ec] 28)
 have ho1 := ho.alloc (.cells #[.int .i64 x.1.1,.int .i64 x.1.2.1,.int .i64 x.1.2.2.1,.string x.1.2.2.2.1,.string x.1.2.2.2.2.1,.string x.1.2.2.2.2.2,.slice ea en ec] 28)
 have hb1 := bal hb (.cells #[.int .i64 x.1.1,.int .i64 x.1.2.1,.int .i64 x.1.2.2.1,.string x.1.2.2.2.1,.string x.1.2.2.2.2.1,.string x.1.2.2.2.2.2,.slice ea en ec] 28)
 have hf1 := cell_later hb1 hf
 clear ho hb hN hx hf
 go_enter Tryz.func108,Tryz.ntmps108
 go_upto_region 1 with fail
 generalize w'.alloc (.cells #[.int .i64 x.1.1,.int .i64 x.1.2.1,.int .i64 x.1.2.2.1,.string x.1.2.2.2.1,.string x.1.2.2.2.2.1,.string x.1.2.2.2.2.2,.slice ea en ec] 28) = W at *
 have d0 := bx.cell 0
 have d1 := bx.cell 1
 have d2 := bx.cell 2
 have d3 := bx.cell 3
 have d4 := bx.cell 4
 have d5 := bx.cell 5
 have d6 := bx.cell 6
 simp only [List.getElem?_toArray,List.getElem?_cons_zero,List.getElem?_cons_succ] at d0 d1 d2 d3 d4 d5 d6
 clear bx
 cases hp : p x with
 | true =>
  rw [hp] at HX hR
  have HR : Hid _ := hid hR
  replace HX : Hid _ := hid HX
  clear hp hR
  go_wp2_with fail
  refine Calls.mono HX.out ?_
  rintro e w4 ⟨rfl,hb4⟩
  have ho4 := ho1.later hb4
  have hB4 := Below.on hb1 hb4
  replace d0 := cell_later hb4 d0
  replace d1 := cell_later hb4 d1
  replace d2 := cell_later hb4 d2
  replace d3 := cell_later hb4 d3
  replace d4 := cell_later hb4 d4
  replace d5 := cell_later hb4 d5
  replace d6 := cell_later hb4 d6
  clear HX hf1 ho1 hb1 hb4
  have ho5 := ho4.alloc (.cells #[.int .i64 x.1.1,.int .i64 x.1.2.1,.int .i64 x.1.2.2.1,.string x.1.2.2.2.1,.string x.1.2.2.2.2.1,.string x.1.2.2.2.2.2,.slice ea en ec] 28)
  have hB5 := bal hB4 (.cells #[.int .i64 x.1.1,.int .i64 x.1.2.1,.int .i64 x.1.2.2.1,.string x.1.2.2.2.1,.string x.1.2.2.2.2.1,.string x.1.2.2.2.2.2,.slice ea en ec] 28)
  have hblk := ho4.blk
  clear ho4 hB4
  go_wp2_with (first | (at_builtin; go_must (refine wpList_appR Tryz.underlying26 Tryz.infoTExpr rfl (by decide) (by decide) rfl (.tmp 10) (.tmp 12) rfl _ css w4.heap.size [.int .i64 x.1.1,.int .i64 x.1.2.1,.int .i64 x.1.2.2.1,.string x.1.2.2.2.1,.string x.1.2.2.2.2.1,.string x.1.2.2.2.2.2,.slice ea en ec] rfl rfl ho5 rfl (by simp [Value.oneCell']) (new7 w4 _ _ _ _ _ _ _ _) (by omega) hB5.size ?_)) | fail)
  intro v' w6 hO6 hg6 hown
  have hB6 := below_grows hB5 hB5.size hg6 fun k e => (hblk k e).1
  obtain ⟨a2,m2,d2,rfl⟩ := hO6.sl
  clear hg6 hown ho5 hB5 hblk
  go_wp2
  refine bodyPost_ret (v := .tuple #[.slice a2 m2 d2,.int .i64 0]) (by simp [results,Tryz.results108]) rfl ⟨a2,m2,d2,rfl,hB6,?_⟩
  rw [← HR.out]
  exact hO6
 | false =>
  rw [hp] at HX hR
  have HR : Hid _ := hid hR
  replace HX : Hid _ := hid HX
  clear hp hR
  go_wp2_with fail
  refine Calls.mono HX.out ?_
  rintro e w4 ⟨rfl,hb4⟩
  have ho4 := ho1.later hb4
  have hB4 := Below.on hb1 hb4
  replace d0 := cell_later hb4 d0
  replace d1 := cell_later hb4 d1
  replace d2 := cell_later hb4 d2
  replace d3 := cell_later hb4 d3
  replace d4 := cell_later hb4 d4
  replace d5 := cell_later hb4 d5
  replace d6 := cell_later hb4 d6
  clear HX hf1 ho1 hb1 hb4
  go_wp2
  refine bodyPost_ret (v := .tuple #[.slice a m d,.int .i64 0]) (by simp [results,Tryz.results108]) rfl ⟨a,m,d,rfl,hB4,?_⟩
  rw [← HR.out]
  exact ho4

set_option maxRecDepth 100000 in
set_option maxHeartbeats 4000000 in
theorem suchEx {l : List (Pg × Tg)} (hlen : l.length ≤ 500) {p : Pg × Tg → Bool} {Q : Nat → Prop} {w : World} {ao : Option Addr} {n c : Nat} (h : RowIs eG Q w (.slice ao n c) l) {N : Nat} {caps : Array Value} (hv : SuchZ eG p w (.func (.func N) #[] caps)) :
  Calls Tryz.prog 86 #[.slice ao n c,.func (.func N) #[] caps] w fun en w' => ∃ a m d,en = .returned (.slice a m d) ∧ m = (l.filter p).length ∧ Below w.heap.size w w' ∧ m ≤ d ∧ d ≤ 9223372036854775807 := by
 have hw := bal (Below.refl w.heap.size w) (.cells #[.func (.func N) #[] caps] 111)
 have hf := cell_new w #[.func (.func N) #[] caps] 111 (0,0) 0
 have hv1 : SuchZ eG p (w.alloc (.cells #[.func (.func N) #[] caps] 111)) (.func (.func N) #[] caps) := by
  obtain ⟨N',caps',e',hcf,hN⟩ := hv
  cases e'
  exact ⟨N,caps,rfl,hcf,fun x Q cs w' hb hx => hN x Q cs w' (Below.on hw hb) hx⟩
 have hr1 : RowIs eG Q (w.alloc (.cells #[.func (.func N) #[] caps] 111)) (.slice ao n c) l := h.keep (by decide) fun b _ hl => hw.block b hl
 have hcf : ∀ args w',(callFunc 108 args).run Tryz.prog w' = .ok (.enter 108 args) w' := fun args w' => by rfl
 have HC := foldExExs hlen hr1 (caps := #[.pointer (some ⟨w.heap.size,0,none⟩)]) hcf (fun _ => 0) (fun i w' a m d => Below (w.alloc (.cells #[.func (.func N) #[] caps] 111)).heap.size (w.alloc (.cells #[.func (.func N) #[] caps] 111)) w' ∧ ∃ css,OwnR 28 7 (w.alloc (.cells #[.func (.func N) #[] caps] 111)).heap.size w' (.slice a m d) css ∧ css.length = ((l.take i).filter p).length)
  (fun i w' a m d hI => hI.1) (fun i w' a m d o hI => ⟨bal hI.1 o,by obtain ⟨css,h1,h2⟩ := hI.2; exact ⟨css,h1.alloc o,h2⟩⟩) (a0 := none) (m0 := 0) (d0 := 0) ⟨Below.refl _ _,[],OwnR.nil _ _ _ _,by simp⟩
  (fun i hi w' a m d cs hI hx => by
   obtain ⟨hb,css,ho,hl⟩ := hI
   have hle := filter_le p l i
   refine Calls.mono (such1Ex hv1 hf (x := l[i]) hb ho (by omega) hx) ?_
   rintro en w'' ⟨a2,m2,d2,rfl,hb2,ho2⟩
   refine ⟨a2,m2,d2,rfl,hb2,fun _ => ⟨hb2,_,ho2,?_⟩⟩
   ·rw [filter_snoc p hi]
    by_cases hp : p l[i] = true
    ·rw [if_pos hp,if_pos hp,List.length_append,List.length_append,hl]; rfl
    ·rw [if_neg hp,if_neg hp,List.append_nil,hl])
 replace HC : Hid _ := hid HC
 clear hv hv1 hr1 hf hcf h
 go_enter Tryz.func86,Tryz.ntmps86
 go_wp2_with fail
 refine Calls.mono HC.out ?_
 rintro e w4 ⟨a,m,d,rfl,hb4,hI⟩
 have hz : erO (fun _ => 0) l.length = 0 := by
  unfold erO
  induction l.length with
  | zero => rfl
  | succ n ih => rw [List.range_succ,List.map_append,erL_app,ih]; rfl
 have HI : Hid _ := hid (hI hz)
 rw [hz]
 clear HC hI
 go_wp2
 refine bodyPost_ret (v := .slice a m d) (by simp [results,Tryz.results86]) rfl ?_
 obtain ⟨hB,css,ho,hl⟩ := HI.out
 rw [List.take_length] at hl
 have h1 := ho.2.1
 rcases ho.2.2 with ⟨e,h0⟩ | ⟨g,cap,cur,e,_,_,hnc,hc,_⟩
 ·cases e
  exact ⟨none,0,0,rfl,by omega,Below.on hw hB,Nat.le_refl _,by omega⟩
 ·cases e
  exact ⟨_,_,_,rfl,hl,Below.on hw hB,hnc,by simpa [maxLen] using hc⟩

set_option maxRecDepth 100000 in
set_option maxHeartbeats 4000000 in
theorem allEx {l : List (Pg × Tg)} (hlen : l.length ≤ 500) {p : Pg × Tg → Bool} {Q : Nat → Prop} {w : World} {ao : Option Addr} {n c : Nat} (h : RowIs eG Q w (.slice ao n c) l) {N : Nat} {caps : Array Value} (hv : SuchZ eG p w (.func (.func N) #[] caps)) :
  Calls Tryz.prog 56 #[.slice ao n c,.func (.func N) #[] caps] w fun en w' => en = .returned (.bool (l.all p)) ∧ Below w.heap.size w w' := by
 have HC : Hid _ := hid (suchEx hlen h hv)
 have HF := filter_all p l
 have hle := List.length_filter_le p l
 obtain ⟨_,_,_,e',hn,hnc,hc,_⟩ := h
 cases e'
 subst hn
 clear hv
 go_enter Tryz.func56,Tryz.ntmps56
 go_wp2_with fail
 refine Calls.mono HC.out ?_
 rintro e w4 ⟨a,m,d,rfl,rfl,hb4,hmd,hd⟩
 replace HF : Hid _ := hid HF
 clear HC
 go_wp2
 go_ret
 refine ⟨ret_bool ?_,hb4⟩
 rw [← HF.out,Bool.eq_iff_iff]
 simp only [beq_iff_eq,decide_eq_true_eq]
 omega

set_option maxRecDepth 100000 in
set_option maxHeartbeats 4000000 in
theorem such1It {p : It → Bool} {w1 : World} {bf : Nat} {N : Nat} {caps : Array Value} (hv : SuchZ eItem p w1 (.func (.func N) #[] caps)) (hf : w1.cell? ⟨bf,0,none⟩ = some (.func (.func N) #[] caps)) {Q : Nat → Prop} {x : It} {w' : World} (hb : Below w1.heap.size w1 w') {a : Option Addr} {m d : Nat} {css : List (List Value)} (ho : OwnR 66 3 w1.heap.size w' (.slice a m d) css) (hl : css.length ≤ 500) {cs : List Value} (hx : eItem.E Q w' x cs) :
  Calls Tryz.prog 115 #[.slice a m d,.agg cs.toArray,.pointer (some ⟨bf,0,none⟩)] w' fun en w'' => ∃ a2 m2 d2,en = .returned (.tuple #[.slice a2 m2 d2,.int .i64 0]) ∧ Below w1.heap.size w1 w'' ∧ OwnR 66 3 w1.heap.size w'' (.slice a2 m2 d2) (if p x then css ++ [cs] else css) := by
 obtain ⟨N',caps',e',hcf,hN⟩ := hv
 cases e'
 obtain ⟨R,hR⟩ : ∃ R,(if p x then css ++ [cs] else css) = R := ⟨_,rfl⟩
 rw [hR]
 have hEx' := hx
 obtain rfl := hEx'
 have HX := hN x Q [.int .i64 x.1,.string x.2.1,.string x.2.2] (w'.alloc (.cells #[.int .i64 x.1,.string x.2.1,.string x.2.2] 66)) (bal hb _) (eItem.keep (fun b _ hl => (bal (Below.refl _ _) _).block b hl) hx)
 have bx := Bk.new w' (.cells #[.int .i64 x.1,.string x.2.1,.string x.2.2] 66)
 have ho1 := ho.alloc (.cells #[.int .i64 x.1,.string x.2.1,.string x.2.2] 66)
 have hb1 := bal hb (.cells #[.int .i64 x.1,.string x.2.1,.string x.2.2] 66)
 have hf1 := cell_later hb1 hf
 clear ho hb hN hx hf
 go_enter Tryz.func115,Tryz.ntmps115
 go_upto_region 1 with fail
 generalize w'.alloc (.cells #[.int .i64 x.1,.string x.2.1,.string x.2.2] 66) = W at *
 have d0 := bx.cell 0
 have d1 := bx.cell 1
 have d2 := bx.cell 2
 simp only [List.getElem?_toArray,List.getElem?_cons_zero,List.getElem?_cons_succ] at d0 d1 d2
 clear bx
 cases hp : p x with
 | true =>
  rw [hp] at HX hR
  have HR : Hid _ := hid hR
  replace HX : Hid _ := hid HX
  clear hp hR
  go_wp2_with fail
  refine Calls.mono HX.out ?_
  rintro e w4 ⟨rfl,hb4⟩
  have ho4 := ho1.later hb4
  have hB4 := Below.on hb1 hb4
  replace d0 := cell_later hb4 d0
  replace d1 := cell_later hb4 d1
  replace d2 := cell_later hb4 d2
  clear HX hf1 ho1 hb1 hb4
  have ho5 := ho4.alloc (.cells #[.int .i64 x.1,.string x.2.1,.string x.2.2] 66)
  have hB5 := bal hB4 (.cells #[.int .i64 x.1,.string x.2.1,.string x.2.2] 66)
  have hblk := ho4.blk
  clear ho4 hB4
  go_wp2_with (first | (at_builtin; go_must (refine wpList_appR Tryz.underlying22 Tryz.infoTItem rfl (by decide) (by decide) rfl (.tmp 10) (.tmp 12) rfl _ css w4.heap.size [.int .i64 x.1,.string x.2.1,.string x.2.2] rfl rfl ho5 rfl (by simp [Value.oneCell']) (new3 w4 _ _ _ _) (by omega) hB5.size ?_)) | fail)
  intro v' w6 hO6 hg6 hown
  have hB6 := below_grows hB5 hB5.size hg6 fun k e => (hblk k e).1
  obtain ⟨a2,m2,d2,rfl⟩ := hO6.sl
  clear hg6 hown ho5 hB5 hblk
  go_wp2
  refine bodyPost_ret (v := .tuple #[.slice a2 m2 d2,.int .i64 0]) (by simp [results,Tryz.results115]) rfl ⟨a2,m2,d2,rfl,hB6,?_⟩
  rw [← HR.out]
  exact hO6
 | false =>
  rw [hp] at HX hR
  have HR : Hid _ := hid hR
  replace HX : Hid _ := hid HX
  clear hp hR
  go_wp2_with fail
  refine Calls.mono HX.out ?_
  rintro e w4 ⟨rfl,hb4⟩
  have ho4 := ho1.later hb4
  have hB4 := Below.on hb1 hb4
  replace d0 := cell_later hb4 d0
  replace d1 := cell_later hb4 d1
  replace d2 := cell_later hb4 d2
  clear HX hf1 ho1 hb1 hb4
  go_wp2
  refine bodyPost_ret (v := .tuple #[.slice a m d,.int .i64 0]) (by simp [results,Tryz.results115]) rfl ⟨a,m,d,rfl,hB4,?_⟩
  rw [← HR.out]
  exact ho4

set_option maxRecDepth 100000 in
set_option maxHeartbeats 4000000 in
theorem suchIt {l : List (It)} (hlen : l.length ≤ 500) {p : It → Bool} {Q : Nat → Prop} {w : World} {ao : Option Addr} {n c : Nat} (h : RowIs eItem Q w (.slice ao n c) l) {N : Nat} {caps : Array Value} (hv : SuchZ eItem p w (.func (.func N) #[] caps)) :
  Calls Tryz.prog 91 #[.slice ao n c,.func (.func N) #[] caps] w fun en w' => ∃ a m d,en = .returned (.slice a m d) ∧ m = (l.filter p).length ∧ Below w.heap.size w w' ∧ m ≤ d ∧ d ≤ 9223372036854775807 := by
 have hw := bal (Below.refl w.heap.size w) (.cells #[.func (.func N) #[] caps] 146)
 have hf := cell_new w #[.func (.func N) #[] caps] 146 (0,0) 0
 have hv1 : SuchZ eItem p (w.alloc (.cells #[.func (.func N) #[] caps] 146)) (.func (.func N) #[] caps) := by
  obtain ⟨N',caps',e',hcf,hN⟩ := hv
  cases e'
  exact ⟨N,caps,rfl,hcf,fun x Q cs w' hb hx => hN x Q cs w' (Below.on hw hb) hx⟩
 have hr1 : RowIs eItem Q (w.alloc (.cells #[.func (.func N) #[] caps] 146)) (.slice ao n c) l := h.keep (by decide) fun b _ hl => hw.block b hl
 have hcf : ∀ args w',(callFunc 115 args).run Tryz.prog w' = .ok (.enter 115 args) w' := fun args w' => by rfl
 have HC := foldItIts hlen hr1 (caps := #[.pointer (some ⟨w.heap.size,0,none⟩)]) hcf (fun _ => 0) (fun i w' a m d => Below (w.alloc (.cells #[.func (.func N) #[] caps] 146)).heap.size (w.alloc (.cells #[.func (.func N) #[] caps] 146)) w' ∧ ∃ css,OwnR 66 3 (w.alloc (.cells #[.func (.func N) #[] caps] 146)).heap.size w' (.slice a m d) css ∧ css.length = ((l.take i).filter p).length)
  (fun i w' a m d hI => hI.1) (fun i w' a m d o hI => ⟨bal hI.1 o,by obtain ⟨css,h1,h2⟩ := hI.2; exact ⟨css,h1.alloc o,h2⟩⟩) (a0 := none) (m0 := 0) (d0 := 0) ⟨Below.refl _ _,[],OwnR.nil _ _ _ _,by simp⟩
  (fun i hi w' a m d cs hI hx => by
   obtain ⟨hb,css,ho,hl⟩ := hI
   have hle := filter_le p l i
   refine Calls.mono (such1It hv1 hf (x := l[i]) hb ho (by omega) hx) ?_
   rintro en w'' ⟨a2,m2,d2,rfl,hb2,ho2⟩
   refine ⟨a2,m2,d2,rfl,hb2,fun _ => ⟨hb2,_,ho2,?_⟩⟩
   ·rw [filter_snoc p hi]
    by_cases hp : p l[i] = true
    ·rw [if_pos hp,if_pos hp,List.length_append,List.length_append,hl]; rfl
    ·rw [if_neg hp,if_neg hp,List.append_nil,hl])
 replace HC : Hid _ := hid HC
 clear hv hv1 hr1 hf hcf h
 go_enter Tryz.func91,Tryz.ntmps91
 go_wp2_with fail
 refine Calls.mono HC.out ?_
 rintro e w4 ⟨a,m,d,rfl,hb4,hI⟩
 have hz : erO (fun _ => 0) l.length = 0 := by
  unfold erO
  induction l.length with
  | zero => rfl
  | succ n ih => rw [List.range_succ,List.map_append,erL_app,ih]; rfl
 have HI : Hid _ := hid (hI hz)
 rw [hz]
 clear HC hI
 go_wp2
 refine bodyPost_ret (v := .slice a m d) (by simp [results,Tryz.results91]) rfl ?_
 obtain ⟨hB,css,ho,hl⟩ := HI.out
 rw [List.take_length] at hl
 have h1 := ho.2.1
 rcases ho.2.2 with ⟨e,h0⟩ | ⟨g,cap,cur,e,_,_,hnc,hc,_⟩
 ·cases e
  exact ⟨none,0,0,rfl,by omega,Below.on hw hB,Nat.le_refl _,by omega⟩
 ·cases e
  exact ⟨_,_,_,rfl,hl,Below.on hw hB,hnc,by simpa [maxLen] using hc⟩

end Go.Proofs.YtljmlacnfnmjbaaGreat
namespace Go.Proofs.YtljmlacnfnmjbaaGreat
open Go.RowKit
set_option linter.unusedVariables false
set_option linter.unusedSimpArgs false

set_option maxRecDepth 100000 in
theorem name_col : NameZ eCol (fun c => c.1) 131 := by
 refine ⟨fun _ _ => rfl,fun x Q cs w h => ?_⟩
 obtain rfl := h
 skip
 skip
 go_enter Tryz.func131,Tryz.ntmps131
 go_wp2
 go_ret
 exact ⟨rfl,bal (Below.refl _ _) _⟩

set_option maxRecDepth 100000 in
theorem name_tbl : NameZ eTbl (fun t => t.name) 109 := by
 refine ⟨fun _ _ => rfl,fun x Q cs w h => ?_⟩
 obtain ⟨ea,en,ec,ea',en',ec',rfl,er1,er2⟩ := h
 skip
 skip
 go_enter Tryz.func109,Tryz.ntmps109
 go_wp2
 go_ret
 exact ⟨rfl,bal (Below.refl _ _) _⟩

set_option maxRecDepth 100000 in
theorem name_vw : NameZ eVw (fun t => t.name) 120 := by
 refine ⟨fun _ _ => rfl,fun x Q cs w h => ?_⟩
 obtain ⟨ea,en,ec,⟨ek,etb,enm,⟨eco1,eco2,eco3⟩,⟨eta1,eta2,eta3⟩,⟨eva1,eva2,eva3⟩,⟨eit1,eit2,eit3⟩,ejn,⟨eon1,eon2,eon3⟩,⟨ewh1,ewh2,ewh3⟩,⟨eod1,eod2,eod3⟩,eds,⟨ein1,ein2,ein3⟩⟩,rfl,er1,er2,er3⟩ := h
 unfold svC
 clear er1 er2 er3
 go_enter Tryz.func120,Tryz.ntmps120
 go_wp2
 go_ret
 exact ⟨rfl,bal (Below.refl _ _) _⟩

set_option maxRecDepth 100000 in
set_option maxHeartbeats 2000000 in
theorem suchCol {nm : Co → ByteArray} {N : Nat} (hN : NameZ eCol nm N) {w : World} {q r : Nat} {name : ByteArray} (c1 : w.cell? ⟨q,1,none⟩ = some (.func (.func N) #[] #[])) (c2 : w.cell? ⟨r,0,none⟩ = some (.string name)) :
  SuchZ eCol (fun x => eqS (nm x) name) w (.func (.func 133) #[] #[.pointer (some ⟨q,0,none⟩),.pointer (some ⟨r,0,none⟩)]) := by
 refine ⟨_,_,rfl,fun _ _ => rfl,fun x Q cs w1 hb h => ?_⟩
 have g1 := cell_later hb c1
 have g2 := cell_later hb c2
 clear c1 c2 hb
 obtain ⟨hcf,hN⟩ := hN
 have hs : ((nm x).toList == name.toList) = eqS (nm x) name := same_str (nm x) name
 have h' := h
 obtain rfl := h'
 have HX : Hid (∀ w2,Below (w1.alloc (.cells #[.string x.1,.int .i64 x.2.1,.string x.2.2] 84)).heap.size (w1.alloc (.cells #[.string x.1,.int .i64 x.2.1,.string x.2.2] 84)) w2 → _) := hid fun w2 hb2 => hN x Q _ w2 ((eCol).keep (fun b _ hl => (Below.on (bal (Below.refl _ w1) _) hb2).block b hl) h)
 obtain ⟨R,hR⟩ : ∃ R,eqS (nm x) name = R := ⟨_,rfl⟩
 simp only [hR] at hs ⊢
 clear h hN hR
 obtain ⟨D,hD⟩ : ∃ D,nm x = D := ⟨_,rfl⟩
 simp only [hD] at hs HX
 go_enter Tryz.func133,Tryz.ntmps133
 go_upto_region 1 with fail
 have b0 := Bk.new w1 (.cells #[.string x.1,.int .i64 x.2.1,.string x.2.2] 84)
 have hw := bal (Below.refl _ w1) (.cells #[.string x.1,.int .i64 x.2.1,.string x.2.2] 84)
 replace g1 := cell_later hw g1
 replace g2 := cell_later hw g2
 generalize w1.alloc (.cells #[.string x.1,.int .i64 x.2.1,.string x.2.2] 84) = U at *
 have hY : Below U.heap.size U U.drew := (Below.refl _ _).drew
 have c0 := b0.cell 0
 have c1 := b0.cell 1
 have c2 := b0.cell 2
 simp only [List.getElem?_toArray,List.getElem?_cons_zero,List.getElem?_cons_succ] at c0 c1 c2
 clear b0
 go_wp2
 refine wp_region_held_drew (S := fun w' => w'.cell? ⟨w1.heap.size,0,none⟩ = some (.string x.1) ∧ w'.cell? ⟨w1.heap.size,1,none⟩ = some (.int .i64 x.2.1) ∧ w'.cell? ⟨w1.heap.size,2,none⟩ = some (.string x.2.2) ∧ w'.cell? ⟨q,1,none⟩ = some (.func (.func N) #[] #[]) ∧ w'.cell? ⟨r,0,none⟩ = some (.string name)) (by kernel_rfl) (⟨cell_later hY c0,cell_later hY c1,cell_later hY c2,cell_later hY g1,cell_later hY g2⟩) (fun hHeld => ?_)
 refine wpAnyH_take (i := 0) (v := ?tv1) rfl (by kernel_rfl) (by kernel_rfl) (by kernel_rfl) (fun _ _ _ h => h) (Or.inl ⟨by rfl,?hy1⟩) (by assumption) ?rs1
 case hy1 => (intro w9 hSw; (try dsimp only at hSw); go_simp; (try with_reducible rfl))
 (try simp only [Act.put,List.getElem_toArray,List.getElem_cons_zero,List.getElem_cons_succ,List.setIfInBounds_toArray,List.set_cons_zero,List.set_cons_succ])
 refine wpAnyH_take (i := 1) (v := ?tv2) rfl (by kernel_rfl) (by kernel_rfl) (by kernel_rfl) (fun _ _ _ h => h) (Or.inl ⟨by rfl,?hy2⟩) (by assumption) ?rs2
 case hy2 => (intro w9 hSw; (try dsimp only at hSw); go_simp; (try with_reducible rfl))
 (try simp only [Act.put,List.getElem_toArray,List.getElem_cons_zero,List.getElem_cons_succ,List.setIfInBounds_toArray,List.set_cons_zero,List.set_cons_succ])
 refine wpAnyH_take (i := 2) (v := ?tv3) rfl (by kernel_rfl) (by kernel_rfl) (by kernel_rfl) (fun _ _ _ h => h) (Or.inl ⟨by rfl,?hy3⟩) (by assumption) ?rs3
 case hy3 => (intro w9 hSw; (try dsimp only at hSw); go_simp; (try with_reducible rfl))
 (try simp only [Act.put,List.getElem_toArray,List.getElem_cons_zero,List.getElem_cons_succ,List.setIfInBounds_toArray,List.set_cons_zero,List.set_cons_succ])
 refine wpAnyH_take (i := 4) (v := ?tv4) rfl (by kernel_rfl) (by kernel_rfl) (by kernel_rfl) (fun _ _ _ h => h) (Or.inl ⟨by rfl,?hy4⟩) (by assumption) ?rs4
 case hy4 => (intro w9 hSw; (try dsimp only at hSw); go_simp; (try with_reducible rfl))
 (try simp only [Act.put,List.getElem_toArray,List.getElem_cons_zero,List.getElem_cons_succ,List.setIfInBounds_toArray,List.set_cons_zero,List.set_cons_succ])
 refine wpAnyH_ready (rs := [3]) (by kernel_rfl) (by simp) ?_
 refine AllReadyH.cons rfl (fun K hK => ?_) AllReadyH.nil
 go_simp
 go_wp2_with (first | ((refine Calls.mono (HX.out _ hY) ?_); rintro e y ⟨rfl,hby⟩; replace hY := Below.on hY hby))
 refine hK.out _ _ (⟨cell_later hY c0,cell_later hY c1,cell_later hY c2,cell_later hY g1,cell_later hY g2⟩) (fun hHeld => ?_)
 clear hK K
 (try simp only [Act.put,List.getElem_toArray,List.getElem_cons_zero,List.getElem_cons_succ,List.setIfInBounds_toArray,List.set_cons_zero,List.set_cons_succ])
 refine wpAnyH_take (i := 5) (v := ?tv5) rfl (by kernel_rfl) (by kernel_rfl) (by kernel_rfl) (fun _ _ _ h => h) (Or.inl ⟨by rfl,?hy5⟩) (by assumption) ?rs5
 case hy5 => (intro w9 hSw; (try dsimp only at hSw); go_simp; (try with_reducible rfl))
 (try simp only [Act.put,List.getElem_toArray,List.getElem_cons_zero,List.getElem_cons_succ,List.setIfInBounds_toArray,List.set_cons_zero,List.set_cons_succ])
 refine wpAnyH_ready (rs := [6]) (by kernel_rfl) (by simp) ?_
 refine AllReadyH.cons rfl (fun K hK => ?_) AllReadyH.nil
 go_simp
 refine hK.out _ _ (⟨cell_later hY c0,cell_later hY c1,cell_later hY c2,cell_later hY g1,cell_later hY g2⟩) (fun hHeld => ?_)
 clear hK K
 (try simp only [Act.put,List.getElem_toArray,List.getElem_cons_zero,List.getElem_cons_succ,List.setIfInBounds_toArray,List.set_cons_zero,List.set_cons_succ])
 refine wpAnyH_done (by kernel_rfl) ?_ _
 have hW := Below.trans hw (hY.mono hw.size)
 clear hY
 go_wp2
 go_ret
 exact ⟨rfl,hW⟩
set_option maxRecDepth 100000 in
set_option maxHeartbeats 1000000 in
theorem placeCol_any {l : List Co} (hlen : l.length ≤ 500) {nm : Co → ByteArray} {N C : Nat} (hN : NameZ eCol nm N) (name : ByteArray) {Q : Nat → Prop} {w : World} {ao : Option Addr} {n c : Nat} (h : RowIs eCol Q w (.slice ao n c) l) :
  Calls Tryz.prog 119 #[.agg #[.slice ao n c,.func (.func N) #[] #[],.func (.func C) #[] #[]],.string name] w fun en w' => en = .returned (.int .i64 (fidx (fun x => eqS (nm x) name) l)) ∧ Below w.heap.size w w' := by
 have hmf : ∀ (fn : Fn) (first cap : Array Value) (w : World),(Instr.makeFunc fn first cap).run Tryz.prog w = .ok (.func fn first cap) w := fun _ _ _ _ => rfl
 have hw : Below w.heap.size w ((w.alloc (.cells #[.slice ao n c,.func (.func N) #[] #[],.func (.func C) #[] #[]] 180)).alloc (.cells #[.string name] 9)) := bal (bal (Below.refl _ _) _) _
 have k1 : ((w.alloc (.cells #[.slice ao n c,.func (.func N) #[] #[],.func (.func C) #[] #[]] 180)).alloc (.cells #[.string name] 9)).cell? ⟨w.heap.size,1,none⟩ = some (.func (.func N) #[] #[]) := cell_later (bal (Below.refl _ _) _) (cell_new w _ _ _ 1)
 have k2 : ((w.alloc (.cells #[.slice ao n c,.func (.func N) #[] #[],.func (.func C) #[] #[]] 180)).alloc (.cells #[.string name] 9)).cell? ⟨w.heap.size + 1,0,none⟩ = some (.string name) := by
  have := cell_new (w.alloc (.cells #[.slice ao n c,.func (.func N) #[] #[],.func (.func C) #[] #[]] 180)) #[.string name] 9 (0,0) 0
  rw [World.size_alloc] at this
  exact this
 have HC : Hid _ := hid (idxCol_any hlen (h.keep (by decide) fun b _ hl => hw.block b hl) (suchCol hN k1 k2))
 clear h hN k1 k2
 go_enter Tryz.func119,Tryz.ntmps119
 go_wp2_with fail
 refine Calls.mono HC.out ?_
 rintro e w1 ⟨rfl,hb⟩
 have hW := Below.trans hw (hb.mono hw.size)
 clear HC hb hw
 go_wp2
 go_ret
 exact ⟨rfl,hW⟩

end Go.Proofs.YtljmlacnfnmjbaaGreat
namespace Go.Proofs.YtljmlacnfnmjbaaGreat
open Go.RowKit
set_option linter.unusedVariables false
set_option linter.unusedSimpArgs false

set_option maxRecDepth 100000 in
set_option maxHeartbeats 2000000 in
theorem suchTbl {nm : Tbl → ByteArray} {N : Nat} (hN : NameZ eTbl nm N) {w : World} {q r : Nat} {name : ByteArray} (c1 : w.cell? ⟨q,1,none⟩ = some (.func (.func N) #[] #[])) (c2 : w.cell? ⟨r,0,none⟩ = some (.string name)) :
  SuchZ eTbl (fun x => eqS (nm x) name) w (.func (.func 130) #[] #[.pointer (some ⟨q,0,none⟩),.pointer (some ⟨r,0,none⟩)]) := by
 refine ⟨_,_,rfl,fun _ _ => rfl,fun x Q cs w1 hb h => ?_⟩
 have g1 := cell_later hb c1
 have g2 := cell_later hb c2
 clear c1 c2 hb
 obtain ⟨hcf,hN⟩ := hN
 have hs : ((nm x).toList == name.toList) = eqS (nm x) name := same_str (nm x) name
 have h' := h
 obtain ⟨ea,en,ec,ea',en',ec',rfl,er1,er2⟩ := h'
 have HX : Hid (∀ w2,Below (w1.alloc (.cells #[.string x.name,.slice ea en ec,.slice ea' en' ec'] 58)).heap.size (w1.alloc (.cells #[.string x.name,.slice ea en ec,.slice ea' en' ec'] 58)) w2 → _) := hid fun w2 hb2 => hN x Q _ w2 ((eTbl).keep (fun b _ hl => (Below.on (bal (Below.refl _ w1) _) hb2).block b hl) h)
 obtain ⟨R,hR⟩ : ∃ R,eqS (nm x) name = R := ⟨_,rfl⟩
 simp only [hR] at hs ⊢
 clear h hN hR er1 er2
 obtain ⟨D,hD⟩ : ∃ D,nm x = D := ⟨_,rfl⟩
 simp only [hD] at hs HX
 go_enter Tryz.func130,Tryz.ntmps130
 go_upto_region 1 with fail
 have b0 := Bk.new w1 (.cells #[.string x.name,.slice ea en ec,.slice ea' en' ec'] 58)
 have hw := bal (Below.refl _ w1) (.cells #[.string x.name,.slice ea en ec,.slice ea' en' ec'] 58)
 replace g1 := cell_later hw g1
 replace g2 := cell_later hw g2
 generalize w1.alloc (.cells #[.string x.name,.slice ea en ec,.slice ea' en' ec'] 58) = U at *
 have hY : Below U.heap.size U U.drew := (Below.refl _ _).drew
 have c0 := b0.cell 0
 have c1 := b0.cell 1
 have c2 := b0.cell 2
 simp only [List.getElem?_toArray,List.getElem?_cons_zero,List.getElem?_cons_succ] at c0 c1 c2
 clear b0
 go_wp2
 refine wp_region_held_drew (S := fun w' => w'.cell? ⟨w1.heap.size,0,none⟩ = some (.string x.name) ∧ w'.cell? ⟨w1.heap.size,1,none⟩ = some (.slice ea en ec) ∧ w'.cell? ⟨w1.heap.size,2,none⟩ = some (.slice ea' en' ec') ∧ w'.cell? ⟨q,1,none⟩ = some (.func (.func N) #[] #[]) ∧ w'.cell? ⟨r,0,none⟩ = some (.string name)) (by kernel_rfl) (⟨cell_later hY c0,cell_later hY c1,cell_later hY c2,cell_later hY g1,cell_later hY g2⟩) (fun hHeld => ?_)
 refine wpAnyH_take (i := 0) (v := ?tv6) rfl (by kernel_rfl) (by kernel_rfl) (by kernel_rfl) (fun _ _ _ h => h) (Or.inl ⟨by rfl,?hy6⟩) (by assumption) ?rs6
 case hy6 => (intro w9 hSw; (try dsimp only at hSw); go_simp; (try with_reducible rfl))
 (try simp only [Act.put,List.getElem_toArray,List.getElem_cons_zero,List.getElem_cons_succ,List.setIfInBounds_toArray,List.set_cons_zero,List.set_cons_succ])
 refine wpAnyH_take (i := 1) (v := ?tv7) rfl (by kernel_rfl) (by kernel_rfl) (by kernel_rfl) (fun _ _ _ h => h) (Or.inl ⟨by rfl,?hy7⟩) (by assumption) ?rs7
 case hy7 => (intro w9 hSw; (try dsimp only at hSw); go_simp; (try with_reducible rfl))
 (try simp only [Act.put,List.getElem_toArray,List.getElem_cons_zero,List.getElem_cons_succ,List.setIfInBounds_toArray,List.set_cons_zero,List.set_cons_succ])
 refine wpAnyH_take (i := 2) (v := ?tv8) rfl (by kernel_rfl) (by kernel_rfl) (by kernel_rfl) (fun _ _ _ h => h) (Or.inl ⟨by rfl,?hy8⟩) (by assumption) ?rs8
 case hy8 => (intro w9 hSw; (try dsimp only at hSw); go_simp; (try with_reducible rfl))
 (try simp only [Act.put,List.getElem_toArray,List.getElem_cons_zero,List.getElem_cons_succ,List.setIfInBounds_toArray,List.set_cons_zero,List.set_cons_succ])
 refine wpAnyH_take (i := 4) (v := ?tv9) rfl (by kernel_rfl) (by kernel_rfl) (by kernel_rfl) (fun _ _ _ h => h) (Or.inl ⟨by rfl,?hy9⟩) (by assumption) ?rs9
 case hy9 => (intro w9 hSw; (try dsimp only at hSw); go_simp; (try with_reducible rfl))
 (try simp only [Act.put,List.getElem_toArray,List.getElem_cons_zero,List.getElem_cons_succ,List.setIfInBounds_toArray,List.set_cons_zero,List.set_cons_succ])
 refine wpAnyH_ready (rs := [3]) (by kernel_rfl) (by simp) ?_
 refine AllReadyH.cons rfl (fun K hK => ?_) AllReadyH.nil
 go_simp
 go_wp2_with (first | ((refine Calls.mono (HX.out _ hY) ?_); rintro e y ⟨rfl,hby⟩; replace hY := Below.on hY hby))
 refine hK.out _ _ (⟨cell_later hY c0,cell_later hY c1,cell_later hY c2,cell_later hY g1,cell_later hY g2⟩) (fun hHeld => ?_)
 clear hK K
 (try simp only [Act.put,List.getElem_toArray,List.getElem_cons_zero,List.getElem_cons_succ,List.setIfInBounds_toArray,List.set_cons_zero,List.set_cons_succ])
 refine wpAnyH_take (i := 5) (v := ?tv10) rfl (by kernel_rfl) (by kernel_rfl) (by kernel_rfl) (fun _ _ _ h => h) (Or.inl ⟨by rfl,?hy10⟩) (by assumption) ?rs10
 case hy10 => (intro w9 hSw; (try dsimp only at hSw); go_simp; (try with_reducible rfl))
 (try simp only [Act.put,List.getElem_toArray,List.getElem_cons_zero,List.getElem_cons_succ,List.setIfInBounds_toArray,List.set_cons_zero,List.set_cons_succ])
 refine wpAnyH_ready (rs := [6]) (by kernel_rfl) (by simp) ?_
 refine AllReadyH.cons rfl (fun K hK => ?_) AllReadyH.nil
 go_simp
 refine hK.out _ _ (⟨cell_later hY c0,cell_later hY c1,cell_later hY c2,cell_later hY g1,cell_later hY g2⟩) (fun hHeld => ?_)
 clear hK K
 (try simp only [Act.put,List.getElem_toArray,List.getElem_cons_zero,List.getElem_cons_succ,List.setIfInBounds_toArray,List.set_cons_zero,List.set_cons_succ])
 refine wpAnyH_done (by kernel_rfl) ?_ _
 have hW := Below.trans hw (hY.mono hw.size)
 clear hY
 go_wp2
 go_ret
 exact ⟨rfl,hW⟩
set_option maxRecDepth 100000 in
set_option maxHeartbeats 1000000 in
theorem placeTbl_any {l : List Tbl} (hlen : l.length ≤ 500) {nm : Tbl → ByteArray} {N C : Nat} (hN : NameZ eTbl nm N) (name : ByteArray) {Q : Nat → Prop} {w : World} {ao : Option Addr} {n c : Nat} (h : RowIs eTbl Q w (.slice ao n c) l) :
  Calls Tryz.prog 111 #[.agg #[.slice ao n c,.func (.func N) #[] #[],.func (.func C) #[] #[]],.string name] w fun en w' => en = .returned (.int .i64 (fidx (fun x => eqS (nm x) name) l)) ∧ Below w.heap.size w w' := by
 have hmf : ∀ (fn : Fn) (first cap : Array Value) (w : World),(Instr.makeFunc fn first cap).run Tryz.prog w = .ok (.func fn first cap) w := fun _ _ _ _ => rfl
 have hw : Below w.heap.size w ((w.alloc (.cells #[.slice ao n c,.func (.func N) #[] #[],.func (.func C) #[] #[]] 139)).alloc (.cells #[.string name] 9)) := bal (bal (Below.refl _ _) _) _
 have k1 : ((w.alloc (.cells #[.slice ao n c,.func (.func N) #[] #[],.func (.func C) #[] #[]] 139)).alloc (.cells #[.string name] 9)).cell? ⟨w.heap.size,1,none⟩ = some (.func (.func N) #[] #[]) := cell_later (bal (Below.refl _ _) _) (cell_new w _ _ _ 1)
 have k2 : ((w.alloc (.cells #[.slice ao n c,.func (.func N) #[] #[],.func (.func C) #[] #[]] 139)).alloc (.cells #[.string name] 9)).cell? ⟨w.heap.size + 1,0,none⟩ = some (.string name) := by
  have := cell_new (w.alloc (.cells #[.slice ao n c,.func (.func N) #[] #[],.func (.func C) #[] #[]] 139)) #[.string name] 9 (0,0) 0
  rw [World.size_alloc] at this
  exact this
 have HC : Hid _ := hid (idxTbl_any hlen (h.keep (by decide) fun b _ hl => hw.block b hl) (suchTbl hN k1 k2))
 clear h hN k1 k2
 go_enter Tryz.func111,Tryz.ntmps111
 go_wp2_with fail
 refine Calls.mono HC.out ?_
 rintro e w1 ⟨rfl,hb⟩
 have hW := Below.trans hw (hb.mono hw.size)
 clear HC hb hw
 go_wp2
 go_ret
 exact ⟨rfl,hW⟩

end Go.Proofs.YtljmlacnfnmjbaaGreat
