import Derived.Test.YtljmlacnfnmjbaaGreatTman
import Derived.Test.YtljmlacnfnmjbaaGreatTmak
namespace Go.Proofs.YtljmlacnfnmjbaaGreat
open Go.RowKit
set_option linter.unusedVariables false
set_option linter.unusedSimpArgs false

/-- A function value that tells an error of a thing in memory: handed-in arguments stand ahead (bn) or behind (cp). -/
def ErrZ {α : Type} (e : Ek α) (f : α → Int) (w : World) (v : Value) : Prop := ∃ N bn cp,v = .func (.func N) bn cp ∧ (∀ args w',(callFunc N args).run Tryz.prog w' = .ok (.enter N args) w') ∧ ∀ (x : α) (Q : Nat → Prop) (cs : List Value) (w' : World),Below w.heap.size w w' → e.E Q w' x cs → Calls Tryz.prog N (bn.push (.agg cs.toArray) ++ cp) w' fun en w'' => en = .returned (.int .i64 (f x)) ∧ Below w'.heap.size w' w''

set_option maxRecDepth 100000 in
set_option maxHeartbeats 4000000 in
theorem first1Ex {f : Pg × Tg → Int} {w1 : World} {bf : Nat} {N : Nat} {bn cp : Array Value} (hv : ErrZ eG f w1 (.func (.func N) bn cp)) (hf : w1.cell? ⟨bf,0,none⟩ = some (.func (.func N) bn cp)) {Q : Nat → Prop} {x : Pg × Tg} {w' : World} (hb : Below w1.heap.size w1 w') {cs : List Value} (hx : eG.E Q w' x cs) :
  Calls Tryz.prog 117 #[.agg #[],.agg cs.toArray,.pointer (some ⟨bf,0,none⟩)] w' fun en w'' => en = .returned (.tuple #[.agg #[],.int .i64 (f x)]) ∧ Below w'.heap.size w' w'' := by
 obtain ⟨N',bn',cp',e',hcf,hN⟩ := hv
 cases e'
 have hEx' := hx
 obtain ⟨ea,en,ec,rfl,-⟩ := hEx'
 simp only [exC] at *
 have hw := bal (bal (bal (Below.refl w'.heap.size w') (.cells #[] 168)) (.cells #[.int .i64 x.1.1,.int .i64 x.1.2.1,.int .i64 x.1.2.2.1,.string x.1.2.2.2.1,.string x.1.2.2.2.2.1,.string x.1.2.2.2.2.2,.slice ea en ec] 28)) (.cells #[] 168)
 have bx := (Bk.new (w'.alloc (.cells #[] 168)) (.cells #[.int .i64 x.1.1,.int .i64 x.1.2.1,.int .i64 x.1.2.2.1,.string x.1.2.2.2.1,.string x.1.2.2.2.2.1,.string x.1.2.2.2.2.2,.slice ea en ec] 28)).later (bal (Below.refl _ _) (.cells #[] 168))
 rw [World.size_alloc] at bx
 have HX : Hid (∀ W2,Below w'.heap.size w' W2 → _) := hid fun W2 hb2 => hN x Q [.int .i64 x.1.1,.int .i64 x.1.2.1,.int .i64 x.1.2.2.1,.string x.1.2.2.2.1,.string x.1.2.2.2.2.1,.string x.1.2.2.2.2.2,.slice ea en ec] W2 (Below.on hb hb2) (eG.keep (fun b _ hl => hb2.block b hl) hx)
 have hf1 := cell_later (Below.on hb hw) hf
 clear hb hN hx hf
 generalize f x = z at *
 go_enter Tryz.func117,Tryz.ntmps117
 go_upto_region 1 with fail
 generalize hW : ((w'.alloc (.cells #[] 168)).alloc (.cells #[.int .i64 x.1.1,.int .i64 x.1.2.1,.int .i64 x.1.2.2.1,.string x.1.2.2.2.1,.string x.1.2.2.2.2.1,.string x.1.2.2.2.2.2,.slice ea en ec] 28)).alloc (.cells #[] 168) = W at *
 clear hW
 generalize w'.heap.size + 1 = qx at bx ⊢
 have d0 := bx.cell 0
 have d1 := bx.cell 1
 have d2 := bx.cell 2
 have d3 := bx.cell 3
 have d4 := bx.cell 4
 have d5 := bx.cell 5
 have d6 := bx.cell 6
 simp only [List.getElem?_toArray,List.getElem?_cons_zero,List.getElem?_cons_succ] at d0 d1 d2 d3 d4 d5 d6
 clear bx
 have hC : Below W.heap.size W W.drew := (Below.refl _ W).drew
 go_wp2
 go_region_held (fun w' => w'.cell? ⟨bf,0,none⟩ = some (.func (.func N) bn cp) ∧ w'.cell? ⟨qx,0,none⟩ = some (.int .i64 x.1.1) ∧ w'.cell? ⟨qx,1,none⟩ = some (.int .i64 x.1.2.1) ∧ w'.cell? ⟨qx,2,none⟩ = some (.int .i64 x.1.2.2.1) ∧ w'.cell? ⟨qx,3,none⟩ = some (.string x.1.2.2.2.1) ∧ w'.cell? ⟨qx,4,none⟩ = some (.string x.1.2.2.2.2.1) ∧ w'.cell? ⟨qx,5,none⟩ = some (.string x.1.2.2.2.2.2) ∧ w'.cell? ⟨qx,6,none⟩ = some (.slice ea en ec))
  (first | exact ⟨cell_later hC hf1,cell_later hC d0,cell_later hC d1,cell_later hC d2,cell_later hC d3,cell_later hC d4,cell_later hC d5,cell_later hC d6⟩)
  (first
  | (with_reducible refine Calls.mono (HX.out _ (Below.on hw hC)) ?_; rintro e z1 ⟨rfl,hb1⟩; replace hC := Below.on hC hb1))
 all_goals
  go_wp2
  exact bodyPost_ret (v := .tuple #[.agg #[],.int .i64 z]) (by simp [results,Tryz.results117,go_sem]) rfl ⟨rfl,Below.on hw hC⟩
set_option maxRecDepth 100000 in
set_option maxHeartbeats 4000000 in
theorem first1It {f : It → Int} {w1 : World} {bf : Nat} {N : Nat} {bn cp : Array Value} (hv : ErrZ eItem f w1 (.func (.func N) bn cp)) (hf : w1.cell? ⟨bf,0,none⟩ = some (.func (.func N) bn cp)) {Q : Nat → Prop} {x : It} {w' : World} (hb : Below w1.heap.size w1 w') {cs : List Value} (hx : eItem.E Q w' x cs) :
  Calls Tryz.prog 113 #[.agg #[],.agg cs.toArray,.pointer (some ⟨bf,0,none⟩)] w' fun en w'' => en = .returned (.tuple #[.agg #[],.int .i64 (f x)]) ∧ Below w'.heap.size w' w'' := by
 obtain ⟨N',bn',cp',e',hcf,hN⟩ := hv
 cases e'
 have hEx' := hx
 obtain rfl := hEx'
 have hw := bal (bal (bal (Below.refl w'.heap.size w') (.cells #[] 168)) (.cells #[.int .i64 x.1,.string x.2.1,.string x.2.2] 66)) (.cells #[] 168)
 have bx := (Bk.new (w'.alloc (.cells #[] 168)) (.cells #[.int .i64 x.1,.string x.2.1,.string x.2.2] 66)).later (bal (Below.refl _ _) (.cells #[] 168))
 rw [World.size_alloc] at bx
 have HX : Hid (∀ W2,Below w'.heap.size w' W2 → _) := hid fun W2 hb2 => hN x Q [.int .i64 x.1,.string x.2.1,.string x.2.2] W2 (Below.on hb hb2) (eItem.keep (fun b _ hl => hb2.block b hl) hx)
 have hf1 := cell_later (Below.on hb hw) hf
 clear hb hN hx hf
 generalize f x = z at *
 go_enter Tryz.func113,Tryz.ntmps113
 go_upto_region 1 with fail
 generalize hW : ((w'.alloc (.cells #[] 168)).alloc (.cells #[.int .i64 x.1,.string x.2.1,.string x.2.2] 66)).alloc (.cells #[] 168) = W at *
 clear hW
 generalize w'.heap.size + 1 = qx at bx ⊢
 have d0 := bx.cell 0
 have d1 := bx.cell 1
 have d2 := bx.cell 2
 simp only [List.getElem?_toArray,List.getElem?_cons_zero,List.getElem?_cons_succ] at d0 d1 d2
 clear bx
 have hC : Below W.heap.size W W.drew := (Below.refl _ W).drew
 go_wp2
 go_region_held (fun w' => w'.cell? ⟨bf,0,none⟩ = some (.func (.func N) bn cp) ∧ w'.cell? ⟨qx,0,none⟩ = some (.int .i64 x.1) ∧ w'.cell? ⟨qx,1,none⟩ = some (.string x.2.1) ∧ w'.cell? ⟨qx,2,none⟩ = some (.string x.2.2))
  (first | exact ⟨cell_later hC hf1,cell_later hC d0,cell_later hC d1,cell_later hC d2⟩)
  (first
  | (with_reducible refine Calls.mono (HX.out _ (Below.on hw hC)) ?_; rintro e z1 ⟨rfl,hb1⟩; replace hC := Below.on hC hb1))
 all_goals
  go_wp2
  exact bodyPost_ret (v := .tuple #[.agg #[],.int .i64 z]) (by simp [results,Tryz.results113,go_sem]) rfl ⟨rfl,Below.on hw hC⟩

end Go.Proofs.YtljmlacnfnmjbaaGreat
namespace Go.Proofs.YtljmlacnfnmjbaaGreat
open Go.RowKit
set_option linter.unusedVariables false
set_option linter.unusedSimpArgs false

set_option maxRecDepth 100000 in
set_option maxHeartbeats 4000000 in
theorem firstEx {l : List (Pg × Tg)} (hlen : l.length ≤ 500) {f : Pg × Tg → Int} {Q : Nat → Prop} {w : World} {ao : Option Addr} {n c : Nat} (h : RowIs eG Q w (.slice ao n c) l) {N : Nat} {bn cp : Array Value} (hv : ErrZ eG f w (.func (.func N) bn cp)) :
  Calls Tryz.prog 93 #[.slice ao n c,.func (.func N) bn cp] w fun en w' => en = .returned (.int .i64 (erL (l.map f))) ∧ Below w.heap.size w w' := by
 have hw := bal (Below.refl w.heap.size w) (.cells #[.func (.func N) bn cp] 148)
 have hf := cell_new w #[.func (.func N) bn cp] 148 (0,0) 0
 simp only [List.getElem?_toArray,List.getElem?_cons_zero] at hf
 generalize hW : w.alloc (.cells #[.func (.func N) bn cp] 148) = W at hw hf
 have hv1 : ErrZ eG f W (.func (.func N) bn cp) := by
  obtain ⟨N',bn',cp',e',hcf,hN⟩ := hv
  cases e'
  exact ⟨N,bn,cp,rfl,hcf,fun x Q cs w' hb hx => hN x Q cs w' (Below.on hw hb) hx⟩
 have hr1 : RowIs eG Q W (.slice ao n c) l := h.keep (by decide) fun b _ hl => hw.block b hl
 have hcf : ∀ args w',(callFunc 117 args).run Tryz.prog w' = .ok (.enter 117 args) w' := fun args w' => by rfl
 have HE : erO (fun i => ((l.map f)[i]?).getD 0) l.length = erL (l.map f) := by
  have := erO_list (l := l.map f) (er := fun i => ((l.map f)[i]?).getD 0) fun i hi => by rw [List.getElem?_eq_getElem hi]; rfl
  rwa [List.length_map] at this
 have HC := foldExU hlen hr1 (caps := #[.pointer (some ⟨w.heap.size,0,none⟩)]) hcf (fun i => ((l.map f)[i]?).getD 0) (fun i w' => Below W.heap.size W w')
  (fun i w' hI => hI) (fun i w' o hI => bal hI o) (Below.refl _ _)
  (fun i hi w' cs hI hx => by
   refine Calls.mono (first1Ex hv1 hf hI hx) ?_
   rintro en w'' ⟨rfl,hb2⟩
   refine ⟨?_,Below.on hI hb2,fun _ => Below.on hI hb2⟩
   rw [List.getElem?_eq_getElem (by simpa using hi),List.getElem_map]; rfl)
 rw [HE] at HC
 generalize erL (l.map f) = E at *
 replace HC : Hid _ := hid HC
 clear hv hv1 hr1 hf hcf h HE
 go_enter Tryz.func93,Tryz.ntmps93
 go_upto_region 1 with fail
 go_wp2_with fail
 refine Calls.mono HC.out ?_
 rintro e w4 ⟨rfl,hb4,hI⟩
 clear HC hI
 go_wp2
 go_ret
 exact ⟨rfl,bal (Below.on hw hb4) _⟩
set_option maxRecDepth 100000 in
set_option maxHeartbeats 4000000 in
theorem firstIt {l : List (It)} (hlen : l.length ≤ 500) {f : It → Int} {Q : Nat → Prop} {w : World} {ao : Option Addr} {n c : Nat} (h : RowIs eItem Q w (.slice ao n c) l) {N : Nat} {bn cp : Array Value} (hv : ErrZ eItem f w (.func (.func N) bn cp)) :
  Calls Tryz.prog 89 #[.slice ao n c,.func (.func N) bn cp] w fun en w' => en = .returned (.int .i64 (erL (l.map f))) ∧ Below w.heap.size w w' := by
 have hw := bal (Below.refl w.heap.size w) (.cells #[.func (.func N) bn cp] 144)
 have hf := cell_new w #[.func (.func N) bn cp] 144 (0,0) 0
 simp only [List.getElem?_toArray,List.getElem?_cons_zero] at hf
 generalize hW : w.alloc (.cells #[.func (.func N) bn cp] 144) = W at hw hf
 have hv1 : ErrZ eItem f W (.func (.func N) bn cp) := by
  obtain ⟨N',bn',cp',e',hcf,hN⟩ := hv
  cases e'
  exact ⟨N,bn,cp,rfl,hcf,fun x Q cs w' hb hx => hN x Q cs w' (Below.on hw hb) hx⟩
 have hr1 : RowIs eItem Q W (.slice ao n c) l := h.keep (by decide) fun b _ hl => hw.block b hl
 have hcf : ∀ args w',(callFunc 113 args).run Tryz.prog w' = .ok (.enter 113 args) w' := fun args w' => by rfl
 have HE : erO (fun i => ((l.map f)[i]?).getD 0) l.length = erL (l.map f) := by
  have := erO_list (l := l.map f) (er := fun i => ((l.map f)[i]?).getD 0) fun i hi => by rw [List.getElem?_eq_getElem hi]; rfl
  rwa [List.length_map] at this
 have HC := foldItU hlen hr1 (caps := #[.pointer (some ⟨w.heap.size,0,none⟩)]) hcf (fun i => ((l.map f)[i]?).getD 0) (fun i w' => Below W.heap.size W w')
  (fun i w' hI => hI) (fun i w' o hI => bal hI o) (Below.refl _ _)
  (fun i hi w' cs hI hx => by
   refine Calls.mono (first1It hv1 hf hI hx) ?_
   rintro en w'' ⟨rfl,hb2⟩
   refine ⟨?_,Below.on hI hb2,fun _ => Below.on hI hb2⟩
   rw [List.getElem?_eq_getElem (by simpa using hi),List.getElem_map]; rfl)
 rw [HE] at HC
 generalize erL (l.map f) = E at *
 replace HC : Hid _ := hid HC
 clear hv hv1 hr1 hf hcf h HE
 go_enter Tryz.func89,Tryz.ntmps89
 go_upto_region 1 with fail
 go_wp2_with fail
 refine Calls.mono HC.out ?_
 rintro e w4 ⟨rfl,hb4,hI⟩
 clear HC hI
 go_wp2
 go_ret
 exact ⟨rfl,bal (Below.on hw hb4) _⟩
set_option maxRecDepth 100000 in
set_option maxHeartbeats 4000000 in
theorem where_any {S : List Cl3} (hS : S.length ≤ 500) {l : List (Pg × Tg)} (hl : l.length ≤ 500) {Q : Nat → Prop} {w : World} {a : Option Addr} {n c : Nat} {ao : Option Addr} {m d : Nat} (hR : RowIs eClm (fun _ => True) w (.slice a n c) S) (h : RowIs eG Q w (.slice ao m d) l) :
  Calls Tryz.prog 66 #[.slice a n c,.slice ao m d] w fun en w' => en = .returned (.int .i64 (whP S l)) ∧ Below w.heap.size w w' := by
 have hw := bal (Below.refl w.heap.size w) (.cells #[.slice a n c] 70)
 have hf := cell_new w #[.slice a n c] 70 (0,0) 0
 simp only [List.getElem?_toArray,List.getElem?_cons_zero] at hf
 generalize hW : w.alloc (.cells #[.slice a n c] 70) = W at hw hf
 have HC := firstEx hl (f := fun x => fitsP S x 3) (h.keep (w' := W) (by decide) fun b _ hl => hw.block b hl) (N := 94) (bn := #[]) (cp := #[.pointer (some ⟨w.heap.size,0,none⟩)])
  ⟨_,_,_,rfl,fun args w' => by rfl,fun x Q2 cs w' hb hx => where1_any hS x (hR.keep (by decide) fun b _ hl => (Below.on hw hb).block b hl) (cell_later hb hf) hx⟩
 have hT : erL (l.map fun x => fitsP S x 3) = whP S l := rfl
 rw [hT] at HC
 generalize whP S l = T at *
 replace HC : Hid _ := hid HC
 clear hT hf hR h
 go_enter Tryz.func66,Tryz.ntmps66
 go_upto_region 1 with fail
 go_wp2_with fail
 refine Calls.mono HC.out ?_
 rintro e w4 ⟨rfl,hb4⟩
 clear HC
 go_wp2
 go_ret
 exact ⟨rfl,Below.on hw hb4⟩
set_option maxRecDepth 100000 in
theorem eachK {S : List Cl3} (hS : S.length ≤ 500) {l : List (Pg × Tg)} (hl : l.length ≤ 500) {Q : Nat → Prop} {w : World} {a : Option Addr} {n c : Nat} {ao : Option Addr} {m d : Nat} (hR : RowIs eClm (fun _ => True) w (.slice a n c) S) (h : RowIs eG Q w (.slice ao m d) l) :
  Calls Tryz.prog 53 #[.slice ao m d,.func (.func 26) #[.slice a n c] #[]] w fun en w' => ∃ a m d,en = .returned (.tuple #[.slice a m d,.int .i64 (orderKP S l)]) ∧ Below w.heap.size w w' ∧ (orderKP S l = 0 → RowIs eInt (fun _ => True) w' (.slice a m d) (l.map fun x => (kdT S x).1)) :=
 eachEx hl (f := kdT S) (P := fun _ => True) h ⟨fun args w2 => by rfl,fun y Q2 cs2 w2 hy hb2 hx2 => kind_any hS y Q2 w2 cs2 a n c (hR.keep (by decide) fun b _ hl => hb2.block b hl) hx2⟩ (fun _ _ => trivial)
set_option maxRecDepth 100000 in
set_option maxHeartbeats 4000000 in
theorem order_any {S : List Cl3} (hS : S.length ≤ 500) {l : List (Pg × Tg)} (hl : l.length ≤ 500) {Q : Nat → Prop} {w : World} {a : Option Addr} {n c : Nat} {ao : Option Addr} {m d : Nat} (hR : RowIs eClm (fun _ => True) w (.slice a n c) S) (h : RowIs eG Q w (.slice ao m d) l) :
  Calls Tryz.prog 67 #[.slice a n c,.slice ao m d] w fun en w' => en = .returned (.int .i64 (orderKP S l)) ∧ Below w.heap.size w w' := by
 have HC : Hid _ := hid (eachK hS hl hR h)
 generalize orderKP S l = T at *
 clear hR h
 go_enter Tryz.func67,Tryz.ntmps67
 go_wp2_with fail
 refine Calls.mono HC.out ?_
 rintro e w4 ⟨a2,m2,d2,rfl,hb4,hr⟩
 clear HC hr
 go_wp2
 go_ret
 exact ⟨rfl,hb4⟩
set_option maxRecDepth 100000 in
set_option maxHeartbeats 4000000 in
theorem onK_any {S : List Cl3} (hS : S.length ≤ 500) {l : List (Pg × Tg)} (hl : l.length ≤ 500) {Q : Nat → Prop} {w : World} {a : Option Addr} {n c : Nat} {ao : Option Addr} {m d : Nat} (hR : RowIs eClm (fun _ => True) w (.slice a n c) S) (h : RowIs eG Q w (.slice ao m d) l) :
  Calls Tryz.prog 64 #[.slice a n c,.slice ao m d] w fun en w' => en = .returned (.int .i64 (onCP S l)) ∧ Below w.heap.size w w' := by
 have HC : Hid _ := hid (eachK hS hl hR h)
 have HF : Hid (onCP S l = if orderKP S l = 0 ∧ alikeP (l.map fun x => (kdT S x).1) = false then 11 else orderKP S l) := hid rfl
 have hLl : (l.map fun x => (kdT S x).1).length ≤ 500 := by rw [List.length_map]; exact hl
 generalize onCP S l = T at *
 generalize orderKP S l = E at *
 generalize (l.map fun x => (kdT S x).1) = L at *
 clear hR h
 go_enter Tryz.func64,Tryz.ntmps64
 go_wp2_with fail
 refine Calls.mono HC.out ?_
 rintro e w4 ⟨a2,m2,d2,rfl,hb4,hr⟩
 have HR : Hid _ := hid hr
 clear HC hr
 by_cases he : E = 0
 ·subst he
  have HA : Hid _ := hid (alike_any hLl (HR.out (by first | rfl | trivial)))
  cases ha : alikeP L with
  | true =>
   have HT : Hid (T = 0) := hid (by rw [HF.out,ha]; simp)
   rw [ha] at HA
   clear HF HR ha
   go_wp2_with fail
   refine Calls.mono HA.out ?_
   rintro e w5 ⟨rfl,hb5⟩
   clear HA
   go_wp2
   go_ret
   exact ⟨ret_int HT.out.symm,Below.on hb4 hb5⟩
  | false =>
   have HT : Hid (T = 11) := hid (by rw [HF.out,ha]; simp)
   rw [ha] at HA
   clear HF HR ha
   go_wp2_with fail
   refine Calls.mono HA.out ?_
   rintro e w5 ⟨rfl,hb5⟩
   clear HA
   go_wp2
   go_ret
   exact ⟨ret_int HT.out.symm,Below.on hb4 hb5⟩
 ·have HT : Hid (T = E) := hid (by rw [HF.out,if_neg (by rintro ⟨h,_⟩; exact he h)])
  have ge : decide (E = 0) = false := by simpa using he
  clear HF HR
  go_wp2
  go_ret
  exact ⟨ret_int HT.out.symm,hb4⟩
set_option maxRecDepth 100000 in
set_option maxHeartbeats 4000000 in
theorem item_any {S : List Cl3} (hS : S.length ≤ 500) (x : It) {w : World} {a : Option Addr} {n c : Nat} (hR : RowIs eClm (fun _ => True) w (.slice a n c) S) :
  Calls Tryz.prog 90 #[.slice a n c,.agg #[.int .i64 x.1,.string x.2.1,.string x.2.2]] w fun en w' => en = .returned (.int .i64 (itmP S x)) ∧ Below w.heap.size w w' := by
 obtain ⟨g,tb,nm⟩ := x
 have hw := bal (Below.refl w.heap.size w) (.cells #[.int .i64 g,.string tb,.string nm] 66)
 have bx := Bk.new w (.cells #[.int .i64 g,.string tb,.string nm] 66)
 have HC : Hid _ := hid (columnK_any hS tb nm (hR.keep (w' := w.alloc (.cells #[.int .i64 g,.string tb,.string nm] 66)) (by decide) fun b _ hl => hw.block b hl))
 have HF : Hid (itmP S (g,tb,nm) = if g = 1 then (if nm = ⟨#[]⟩ then 0 else 1) else if g = 0 ∨ g = 2 ∨ g = 3 ∨ g = 4 then (if (clmK S tb nm).2 = 0 ∧ g = 2 ∧ (clmK S tb nm).1 = 2 then 11 else (clmK S tb nm).2) else 1) := hid rfl
 generalize itmP S (g,tb,nm) = T at *
 generalize (clmK S tb nm).1 = r1 at *
 generalize (clmK S tb nm).2 = r2 at *
 clear hR
 go_enter Tryz.func90,Tryz.ntmps90
 go_upto_region 1 with fail
 generalize w.alloc (.cells #[.int .i64 g,.string tb,.string nm] 66) = W at *
 have d0 := bx.cell 0
 have d1 := bx.cell 1
 have d2 := bx.cell 2
 simp only [List.getElem?_toArray,List.getElem?_cons_zero,List.getElem?_cons_succ] at d0 d1 d2
 clear bx
 by_cases h1 : g = 1
 ·subst h1
  by_cases hn : nm = ⟨#[]⟩
  ·subst hn
   have HT : Hid (T = 0) := hid (by rw [HF.out]; simp)
   clear HF HC
   go_wp2
   go_ret
   exact ⟨ret_int HT.out.symm,hw⟩
  ·have HT : Hid (T = 1) := hid (by rw [HF.out]; simp [hn])
   have gn : nm.toList.isEmpty = false := by rw [empty_str]; simpa using hn
   clear HF HC
   go_wp2
   go_ret
   exact ⟨ret_int HT.out.symm,hw⟩
 ·have g1 : decide (g = 1) = false := by simpa using h1
  by_cases h4 : g = 0 ∨ g = 2 ∨ g = 3 ∨ g = 4
  ·have HT : Hid (T = if r2 = 0 ∧ g = 2 ∧ r1 = 2 then 11 else r2) := hid (by rw [HF.out,if_neg h1,if_pos h4])
   clear HF
   rcases h4 with rfl | rfl | rfl | rfl
   ·go_wp2_with fail
    refine Calls.mono HC.out ?_
    rintro e w4 ⟨rfl,hb4⟩
    replace d0 := cell_later hb4 d0
    clear HC d1 d2
    by_cases h2 : r2 = 0
    ·subst h2
     have HT2 : Hid (T = 0) := hid (by rw [HT.out]; simp)
     clear HT
     go_wp2
     go_ret
     exact ⟨ret_int HT2.out.symm,Below.on hw hb4⟩
    ·have HT2 : Hid (T = r2) := hid (by rw [HT.out,if_neg (by rintro ⟨h,_⟩; exact h2 h)])
     have g2 : decide (r2 = 0) = false := by simpa using h2
     clear HT
     go_wp2
     go_ret
     exact ⟨ret_int HT2.out.symm,Below.on hw hb4⟩
   ·go_wp2_with fail
    refine Calls.mono HC.out ?_
    rintro e w4 ⟨rfl,hb4⟩
    replace d0 := cell_later hb4 d0
    clear HC d1 d2
    by_cases h2 : r2 = 0
    ·subst h2
     by_cases h3 : r1 = 2
     ·subst h3
      have HT2 : Hid (T = 11) := hid (by rw [HT.out]; simp)
      clear HT
      go_wp2
      go_ret
      exact ⟨ret_int HT2.out.symm,Below.on hw hb4⟩
     ·have HT2 : Hid (T = 0) := hid (by rw [HT.out]; simp [h3])
      have g3 : decide (r1 = 2) = false := by simpa using h3
      clear HT
      go_wp2
      go_ret
      exact ⟨ret_int HT2.out.symm,Below.on hw hb4⟩
    ·have HT2 : Hid (T = r2) := hid (by rw [HT.out,if_neg (by rintro ⟨h,_⟩; exact h2 h)])
     have g2 : decide (r2 = 0) = false := by simpa using h2
     clear HT
     go_wp2
     go_ret
     exact ⟨ret_int HT2.out.symm,Below.on hw hb4⟩
   ·go_wp2_with fail
    refine Calls.mono HC.out ?_
    rintro e w4 ⟨rfl,hb4⟩
    replace d0 := cell_later hb4 d0
    clear HC d1 d2
    by_cases h2 : r2 = 0
    ·subst h2
     have HT2 : Hid (T = 0) := hid (by rw [HT.out]; simp)
     clear HT
     go_wp2
     go_ret
     exact ⟨ret_int HT2.out.symm,Below.on hw hb4⟩
    ·have HT2 : Hid (T = r2) := hid (by rw [HT.out,if_neg (by rintro ⟨h,_⟩; exact h2 h)])
     have g2 : decide (r2 = 0) = false := by simpa using h2
     clear HT
     go_wp2
     go_ret
     exact ⟨ret_int HT2.out.symm,Below.on hw hb4⟩
   ·go_wp2_with fail
    refine Calls.mono HC.out ?_
    rintro e w4 ⟨rfl,hb4⟩
    replace d0 := cell_later hb4 d0
    clear HC d1 d2
    by_cases h2 : r2 = 0
    ·subst h2
     have HT2 : Hid (T = 0) := hid (by rw [HT.out]; simp)
     clear HT
     go_wp2
     go_ret
     exact ⟨ret_int HT2.out.symm,Below.on hw hb4⟩
    ·have HT2 : Hid (T = r2) := hid (by rw [HT.out,if_neg (by rintro ⟨h,_⟩; exact h2 h)])
     have g2 : decide (r2 = 0) = false := by simpa using h2
     clear HT
     go_wp2
     go_ret
     exact ⟨ret_int HT2.out.symm,Below.on hw hb4⟩
  ·have HT : Hid (T = 1) := hid (by rw [HF.out,if_neg h1,if_neg h4])
   have n0 : ¬ g = 0 := by omega
   have q0 : decide (g = 0) = false := by simpa using n0
   have n2 : ¬ g = 2 := by omega
   have q2 : decide (g = 2) = false := by simpa using n2
   have n3 : ¬ g = 3 := by omega
   have q3 : decide (g = 3) = false := by simpa using n3
   have n4 : ¬ g = 4 := by omega
   have q4 : decide (g = 4) = false := by simpa using n4
   clear HF HC h4
   go_wp2
   go_ret
   exact ⟨ret_int HT.out.symm,hw⟩
set_option maxRecDepth 100000 in
set_option maxHeartbeats 4000000 in
theorem items_any {S : List Cl3} (hS : S.length ≤ 500) {l : List It} (hl : l.length ≤ 500) {Q : Nat → Prop} {w : World} {a : Option Addr} {n c : Nat} {ao : Option Addr} {m d : Nat} (hR : RowIs eClm (fun _ => True) w (.slice a n c) S) (h : RowIs eItem Q w (.slice ao m d) l) (a3 : Option Addr) (m3 d3 : Nat) (h3 : m3 ≤ d3) (h33 : d3 ≤ 9223372036854775807) :
  Calls Tryz.prog 65 #[.slice a n c,.slice ao m d,.slice a3 m3 d3] w fun en w' => en = .returned (.int .i64 (itmsP S l m3)) ∧ Below w.heap.size w w' := by
 have HC : Hid _ := hid (firstIt hl h (f := itmP S) (N := 90) (bn := #[.slice a n c]) (cp := #[])
  ⟨_,_,_,rfl,fun args w' => by rfl,fun x Q2 cs w' hb hx => by
   have hx' : cs = [.int .i64 x.1,.string x.2.1,.string x.2.2] := hx
   subst hx'
   exact item_any hS x (hR.keep (by decide) fun b _ hl => hb.block b hl)⟩)
 have HS : Hid (∀ w',Below w.heap.size w w' → _) := hid fun w' hb => suchIt hl (h.keep (by decide) fun b _ hl => hb.block b hl) (isFolded_such w')
 have HF : Hid (itmsP S l m3 = if erL (l.map (itmP S)) ≠ 0 then erL (l.map (itmP S)) else if 0 < (l.filter foldP).length ∧ ((l.filter foldP).length < l.length ∨ 0 < m3) then 11 else 0) := hid rfl
 have hfl := List.length_filter_le foldP l
 obtain ⟨_,_,_,e',hn,hmd,hd,-⟩ := h
 cases e'
 subst hn
 generalize itmsP S l m3 = T at *
 generalize erL (l.map (itmP S)) = E at *
 generalize (l.filter foldP).length = fl at *
 clear hR
 go_enter Tryz.func65,Tryz.ntmps65
 go_wp2_with fail
 refine Calls.mono HC.out ?_
 rintro e w4 ⟨rfl,hb4⟩
 clear HC
 by_cases he : E = 0
 ·subst he
  have HS2 : Hid _ := hid (HS.out w4 hb4)
  clear HS
  go_wp2_with fail
  refine Calls.mono HS2.out ?_
  rintro e w5 ⟨a5,m5,d5,rfl,rfl,hb5,hmd5,hd5⟩
  clear HS2
  by_cases h0 : 0 < m5
  ·have g0 : (0 : Int) < (m5 : Int) := by omega
   by_cases h1 : m5 < l.length
   ·have HT : Hid (T = 11) := hid (by rw [HF.out]; simp [h0,h1])
    have g1 : (m5 : Int) < (l.length : Int) := by omega
    clear HF
    go_wp2
    go_ret
    exact ⟨ret_int HT.out.symm,Below.on hb4 hb5⟩
   ·have g1 : ¬ (m5 : Int) < (l.length : Int) := by omega
    have q1 : decide ((m5 : Int) < (l.length : Int)) = false := by simpa using h1
    by_cases h2 : 0 < m3
    ·have HT : Hid (T = 11) := hid (by rw [HF.out]; simp [h0,h2])
     have g2 : (0 : Int) < (m3 : Int) := by omega
     clear HF
     go_wp2
     go_ret
     exact ⟨ret_int HT.out.symm,Below.on hb4 hb5⟩
    ·have HT : Hid (T = 0) := hid (by rw [HF.out]; simp [h1,h2])
     have g2 : ¬ (0 : Int) < (m3 : Int) := by omega
     have q2 : decide ((0 : Int) < (m3 : Int)) = false := by simpa using g2
     clear HF
     go_wp2
     go_ret
     exact ⟨ret_int HT.out.symm,Below.on hb4 hb5⟩
  ·have HT : Hid (T = 0) := hid (by rw [HF.out]; simp [h0])
   have g0 : ¬ (0 : Int) < (m5 : Int) := by omega
   have q0 : decide ((0 : Int) < (m5 : Int)) = false := by simpa using g0
   clear HF
   go_wp2
   go_ret
   exact ⟨ret_int HT.out.symm,Below.on hb4 hb5⟩
 ·have HT : Hid (T = E) := hid (by rw [HF.out,if_pos he])
  have ge : decide (E = 0) = false := by simpa using he
  have gn : (E != 0) = true := by simpa using he
  clear HF HS
  go_wp2
  go_ret
  exact ⟨ret_int HT.out.symm,hb4⟩
set_option maxRecDepth 100000 in
set_option maxHeartbeats 4000000 in
theorem or_any {l : List Int} (hlen : l.length ≤ 500) {Q : Nat → Prop} {w : World} {ao : Option Addr} {n c : Nat} (h : RowIs eInt Q w (.slice ao n c) l) :
  Calls Tryz.prog 63 #[.slice ao n c] w fun en w' => en = .returned (.int .i64 (erL l)) ∧ Below w.heap.size w w' := by
 obtain ⟨hn,hnc,hc,hx⟩ := row_int h
 subst hn
 have HXX : Hid _ := hid hx
 have HL := erO_list (l := l) (er := fun i => (l[i]?).getD 0) fun i hi => by rw [List.getElem?_eq_getElem hi]; rfl
 obtain ⟨R,hR⟩ : ∃ R,erL l = R := ⟨_,rfl⟩
 rw [hR] at HL ⊢
 replace HL : Hid _ := hid HL
 clear h hx hR
 go_enter Tryz.func63,Tryz.ntmps63
 go_wp2
 go_loopw [5,8] (fun _ v8 wr => ∃ k : Nat,k ≤ l.length ∧ v8 = .int .i64 k ∧ Below w.heap.size w wr ∧ Hid (erO (fun i => (l[i]?).getD 0) k = 0)) (fun _ i _ => l.length - (intOf i).toNat)
 case atStart => exact ⟨0,Nat.zero_le _,rfl,Below.refl _ _,hid rfl⟩
 case round =>
  obtain ⟨k,hk,rfl,hB,HE⟩ := hrel
  by_cases hlt : k < l.length
  ·obtain ⟨b,o,rfl,-,hi⟩ := HXX.out (by omega)
   have c0 := cell_later hB (hi k hlt)
   have hz : (l[k]?).getD 0 = l[k] := by
    rw [List.getElem?_eq_getElem hlt]; rfl
   obtain ⟨z,hzz⟩ : ∃ z,l[k] = z := ⟨_,rfl⟩
   rw [hzz] at c0 hz
   have HZ : Hid _ := hid hz
   have hkm : (k : Int) < (l.length : Int) := by omega
   have hk5 : k ≤ 500 := by omega
   clear hi hz hzz
   by_cases h0 : z = 0
   ·subst h0
    have HE2 : Hid (erO (fun i => (l[i]?).getD 0) (k + 1) = 0) := hid (by rw [erO_succ,if_pos HE.out,HZ.out])
    clear HZ HE
    go_wp2
    go_roundw
    case rel => exact ⟨k + 1,hlt,by go_num,hB,HE2⟩
    case measure => simp only [intOf]; omega
   ·have HR : Hid (z = R) := hid (by rw [← HL.out,erO_stop hlt HE.out (by rw [HZ.out]; exact h0),HZ.out])
    have g0 : decide (z = 0) = false := by simpa using h0
    have gn : (z != 0) = true := by simpa using h0
    clear HZ HE
    go_wp2
    go_ret
    exact ⟨ret_int HR.out,hB⟩
  ·obtain rfl : k = l.length := by omega
   have HR : Hid (0 = R) := hid (by rw [← HL.out,HE.out])
   clear HE
   go_wp2
   go_ret
   exact ⟨ret_int HR.out,hB⟩

end Go.Proofs.YtljmlacnfnmjbaaGreat
namespace Go.Proofs.YtljmlacnfnmjbaaGreat
open Go.RowKit
set_option linter.unusedVariables false
set_option linter.unusedSimpArgs false

theorem Tryz.infoZCol : (Tryz.prog.info? 84).map (fun i => (i.zero,i.size,i.bytes)) = some (some (.agg #[.string ⟨#[]⟩,.int .i64 0,.string ⟨#[]⟩]),3,40) := by kernel_rfl
set_option maxRecDepth 100000 in
set_option maxHeartbeats 4000000 in
theorem copiesCol_own {l : List Co} (hcp : ∀ x ∈ l,Cp eCol 127 x) (hlen : l.length ≤ 500) {Q : Nat → Prop} {w : World} {ao : Option Addr} {n c : Nat} (h : RowIs eCol Q w (.slice ao n c) l) :
  Calls Tryz.prog 126 #[.slice ao n c,.func (.func 127) #[] #[]] w (TeO eCol 84 w l) := by
 have HC : Hid (∀ x ∈ l,Cp eCol 127 x) := hid hcp
 have HR : Hid (∀ w',Below w.heap.size w w' → RowIs eCol Q w' (.slice ao n c) l) := hid fun w' hb => h.keep (by decide) fun b _ hl => hb.block b hl
 obtain ⟨ao',n',c',e',hn,hnc,hc,_⟩ := h
 cases e'
 subst hn
 clear hcp
 go_enter Tryz.func126,Tryz.ntmps126
 go_wp2
 go_loopw [5,10] (fun v5 v10 wr => ∃ (k : Nat) (css : List (List Value)),k ≤ l.length ∧ v10 = .int .i64 k ∧ Below w.heap.size w wr ∧ OwnR 84 3 w.heap.size wr v5 css ∧ css.length = k ∧ Hid (∀ i (h1 : i < l.length) (h2 : i < css.length),(eCol).E (fun b => w.heap.size ≤ b ∧ some b ≠ v5.ownBlock) wr l[i] css[i])) (fun _ i _ => l.length - (intOf i).toNat)
 case atStart => exact ⟨0,[],Nat.zero_le _,rfl,Below.refl _ _,OwnR.nil _ _ _ _,rfl,hid fun i h1 h2 => by simp at h2⟩
 case round =>
  obtain ⟨k,css,hk,rfl,hB,ho,hcl,HE⟩ := hrel
  by_cases hlt : k < l.length
  ·have hcl' : css.length ≤ 500 := by omega
   obtain ⟨_,_,_,e',_,_,_,hx⟩ := HR.out wr hB
   cases e'
   obtain ⟨b,o,rfl,hq,hi⟩ := hx (by omega)
   obtain ⟨cs,hEx,h2,h3⟩ := hi k hlt
   obtain ⟨x,hxl,hxm⟩ : ∃ x,l[k] = x ∧ x ∈ l := ⟨_,rfl,List.getElem_mem hlt⟩
   rw [hxl] at hEx
   have hEx' := hEx
   obtain rfl := hEx'
   have c0 : wr.cell? ⟨b,o + k * 3,none⟩ = some (.string x.1) := h3 0 (show 0 < 3 by decide)
   have c1 : wr.cell? ⟨b,o + k * 3 + 1,none⟩ = some (.int .i64 x.2.1) := h3 1 (show 1 < 3 by decide)
   have c2 : wr.cell? ⟨b,o + k * 3 + 2,none⟩ = some (.string x.2.2) := h3 2 (show 2 < 3 by decide)
   have HX : Hid _ := hid (HC.out x hxm _ _ _ ((eCol).keep (w' := wr.alloc (.cells #[.string x.1,.int .i64 x.2.1,.string x.2.2] 84)) (fun b _ hl => (bal (Below.refl _ wr) _).block b hl) hEx))
   have HXl : Hid _ := hid hxl
   have hsz := hB.size
   have hblk := ho.blk
   have Hcl : Hid _ := hid hcl
   have hkm : (k : Int) < (l.length : Int) := by omega
   clear hEx h2 h3 hi hx hxm hxl hcl
   go_wp2_with fail
   refine Calls.mono HX.out ?_
   rintro e w4 ⟨cs',rfl,hE4,hb4⟩
   have hb4' : Below wr.heap.size wr w4 := Below.on (bal (Below.refl _ wr) _) hb4
   have hB4 : Below w.heap.size w w4 := Below.trans hB (hb4'.mono hsz)
   have hE4' := hE4
   obtain rfl := hE4'
   have ho4 := ho.later hb4'
   have ho5 := ho4.alloc (.cells #[.string x.1,.int .i64 x.2.1,.string x.2.2] 84)
   have hB5 := bal hB4 (.cells #[.string x.1,.int .i64 x.2.1,.string x.2.2] 84)
   have hs4 := hb4'.size
   have HE4 : Hid (∀ i (h1 : i < l.length) (h2 : i < css.length),(eCol).E (fun b => w.heap.size ≤ b ∧ some b ≠ u5.ownBlock) (w4.alloc (.cells #[.string x.1,.int .i64 x.2.1,.string x.2.2] 84)) l[i] css[i]) := hid fun i h1 h2 => (eCol).keep (fun b _ hl => (bal (Below.refl _ w4) _).block b hl) ((eCol).keep (fun b _ hl => hb4'.block b hl) (HE.out i h1 h2))
   have HEn : Hid ((eCol).E (fun b => w.heap.size ≤ b ∧ some b ≠ u5.ownBlock) (w4.alloc (.cells #[.string x.1,.int .i64 x.2.1,.string x.2.2] 84)) x [.string x.1,.int .i64 x.2.1,.string x.2.2]) := hid ((eCol).keep (fun b _ hl => (bal (Below.refl _ w4) _).block b hl) ((eCol).mono (fun b hq _ => ⟨by have hq' : (wr.alloc (.cells #[.string x.1,.int .i64 x.2.1,.string x.2.2] 84)).heap.size ≤ b := hq; rw [World.size_alloc] at hq'; omega,fun hbk => by have := (hblk b hbk.symm).2; have hq' : (wr.alloc (.cells #[.string x.1,.int .i64 x.2.1,.string x.2.2] 84)).heap.size ≤ b := hq; rw [World.size_alloc] at hq'; omega⟩) hE4))
   clear hE4 HE ho ho4 hB4 HX hb4 hb4'
   go_wp2_with (first | (at_builtin; refine wpList_appR Tryz.underlying39 Tryz.infoZCol rfl (by decide) (by decide) rfl (.tmp 14) (.tmp 18) rfl _ css w4.heap.size [.string x.1,.int .i64 x.2.1,.string x.2.2] rfl rfl ho5 rfl (by simp [Value.oneCell']) ?_ (by omega) hB5.size ?_) | fail)
   ·intro j hj
    have hj' : j < 3 := hj
    match j,hj' with
    | 0,_ => exact cell_new w4 _ _ _ 0
    | 1,_ => exact cell_new w4 _ _ _ 1
    | 2,_ => exact cell_new w4 _ _ _ 2
   ·intro v' w6 hO6 hg6 hown
    have hB6 := Below.grownR hB5 hB5.size hg6 fun k e => (hblk k e).1
    have HN : Hid (∀ i (h1 : i < l.length) (h2 : i < (css ++ [([.string x.1,.int .i64 x.2.1,.string x.2.2] : List Value)]).length),(eCol).E (fun b => w.heap.size ≤ b ∧ some b ≠ v'.ownBlock) w6 l[i] (css ++ [([.string x.1,.int .i64 x.2.1,.string x.2.2] : List Value)])[i]) := hid fun i h1 h2 => by
     by_cases hi : i < css.length
     ·rw [List.getElem_append_left hi]
      exact (eCol).grow (HE4.out i h1 hi) hg6 (by simpa using hown)
     ·rw [List.length_append,List.length_singleton] at h2
      obtain rfl : i = css.length := by omega
      rw [List.getElem_append_right (Nat.le_refl _)]
      have hx' : l[css.length] = x := by
       have := HXl.out
       have hk' := Hcl.out
       subst hk'
       exact this
      rw [hx']
      simpa using (eCol).grow HEn.out hg6 (by simpa using hown)
    clear HE4 HEn hg6 hown ho5 hB5 hblk
    go_wp2
    go_roundw
    case rel => exact ⟨k + 1,css ++ [([.string x.1,.int .i64 x.2.1,.string x.2.2] : List Value)],hlt,by go_num,hB6,hO6,by rw [List.length_append,List.length_singleton,Hcl.out],HN⟩
    case measure => simp only [intOf]; omega
  ·obtain rfl : k = l.length := by omega
   obtain ⟨a5,n5,d5,rfl⟩ := ho.sl
   go_wp2
   go_ret
   exact ⟨_,_,_,css,rfl,ho,hcl,HE.out,hB⟩
theorem copiesCol_any {l : List Co} (hcp : ∀ x ∈ l,Cp eCol 127 x) (hlen : l.length ≤ 500) {Q : Nat → Prop} {w : World} {ao : Option Addr} {n c : Nat} (h : RowIs eCol Q w (.slice ao n c) l) :
  Calls Tryz.prog 126 #[.slice ao n c,.func (.func 127) #[] #[]] w (TeR eCol w l) := (copiesCol_own hcp hlen h).mono fun _ _ h => h.row


end Go.Proofs.YtljmlacnfnmjbaaGreat
