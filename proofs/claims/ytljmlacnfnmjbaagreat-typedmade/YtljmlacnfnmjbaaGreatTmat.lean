import Derived.Test.YtljmlacnfnmjbaaGreatTmas
import Derived.Test.YtljmlacnfnmjbaaGreatTmaq
import Derived.Test.YtljmlacnfnmjbaaGreatTmak
namespace Go.Proofs.YtljmlacnfnmjbaaGreat
open Go.RowKit
set_option linter.unusedVariables false
set_option linter.unusedSimpArgs false

set_option maxRecDepth 100000 in
set_option maxHeartbeats 2000000 in
theorem suchVw {nm : Vw → ByteArray} {N : Nat} (hN : NameZ eVw nm N) {w : World} {q r : Nat} {name : ByteArray} (c1 : w.cell? ⟨q,1,none⟩ = some (.func (.func N) #[] #[])) (c2 : w.cell? ⟨r,0,none⟩ = some (.string name)) :
  SuchZ eVw (fun x => eqS (nm x) name) w (.func (.func 137) #[] #[.pointer (some ⟨q,0,none⟩),.pointer (some ⟨r,0,none⟩)]) := by
 refine ⟨_,_,rfl,fun _ _ => rfl,fun x Q cs w1 hb h => ?_⟩
 have g1 := cell_later hb c1
 have g2 := cell_later hb c2
 clear c1 c2 hb
 obtain ⟨hcf,hN⟩ := hN
 have hs : ((nm x).toList == name.toList) = eqS (nm x) name := same_str (nm x) name
 have h' := h
 obtain ⟨ea,en,ec,⟨ek,etb,enm,⟨eco1,eco2,eco3⟩,⟨eta1,eta2,eta3⟩,⟨eva1,eva2,eva3⟩,⟨eit1,eit2,eit3⟩,ejn,⟨eon1,eon2,eon3⟩,⟨ewh1,ewh2,ewh3⟩,⟨eod1,eod2,eod3⟩,eds,⟨ein1,ein2,ein3⟩⟩,rfl,er1,er2,er3⟩ := h'
 unfold svC
 dsimp only
 have HX : Hid (∀ w2,Below (w1.alloc (.cells #[.string x.name,.slice ea en ec,.int .i64 ek,.string etb,.string enm,.slice eco1 eco2 eco3,.slice eta1 eta2 eta3,.slice eva1 eva2 eva3,.slice eit1 eit2 eit3,.string ejn,.slice eon1 eon2 eon3,.slice ewh1 ewh2 ewh3,.slice eod1 eod2 eod3,.bool eds,.slice ein1 ein2 ein3] 76)).heap.size (w1.alloc (.cells #[.string x.name,.slice ea en ec,.int .i64 ek,.string etb,.string enm,.slice eco1 eco2 eco3,.slice eta1 eta2 eta3,.slice eva1 eva2 eva3,.slice eit1 eit2 eit3,.string ejn,.slice eon1 eon2 eon3,.slice ewh1 ewh2 ewh3,.slice eod1 eod2 eod3,.bool eds,.slice ein1 ein2 ein3] 76)) w2 → _) := hid fun w2 hb2 => hN x Q _ w2 ((eVw).keep (fun b _ hl => (Below.on (bal (Below.refl _ w1) _) hb2).block b hl) h)
 obtain ⟨R,hR⟩ : ∃ R,eqS (nm x) name = R := ⟨_,rfl⟩
 simp only [hR] at hs ⊢
 clear h hN hR er1 er2 er3
 obtain ⟨D,hD⟩ : ∃ D,nm x = D := ⟨_,rfl⟩
 simp only [hD] at hs HX
 go_enter Tryz.func137,Tryz.ntmps137
 go_upto_region 1 with fail
 have b0 := Bk.new w1 (.cells #[.string x.name,.slice ea en ec,.int .i64 ek,.string etb,.string enm,.slice eco1 eco2 eco3,.slice eta1 eta2 eta3,.slice eva1 eva2 eva3,.slice eit1 eit2 eit3,.string ejn,.slice eon1 eon2 eon3,.slice ewh1 ewh2 ewh3,.slice eod1 eod2 eod3,.bool eds,.slice ein1 ein2 ein3] 76)
 have hw := bal (Below.refl _ w1) (.cells #[.string x.name,.slice ea en ec,.int .i64 ek,.string etb,.string enm,.slice eco1 eco2 eco3,.slice eta1 eta2 eta3,.slice eva1 eva2 eva3,.slice eit1 eit2 eit3,.string ejn,.slice eon1 eon2 eon3,.slice ewh1 ewh2 ewh3,.slice eod1 eod2 eod3,.bool eds,.slice ein1 ein2 ein3] 76)
 replace g1 := cell_later hw g1
 replace g2 := cell_later hw g2
 generalize w1.alloc (.cells #[.string x.name,.slice ea en ec,.int .i64 ek,.string etb,.string enm,.slice eco1 eco2 eco3,.slice eta1 eta2 eta3,.slice eva1 eva2 eva3,.slice eit1 eit2 eit3,.string ejn,.slice eon1 eon2 eon3,.slice ewh1 ewh2 ewh3,.slice eod1 eod2 eod3,.bool eds,.slice ein1 ein2 ein3] 76) = U at *
 have hY : Below U.heap.size U U.drew := (Below.refl _ _).drew
 have c0 := b0.cell 0
 have c1 := b0.cell 1
 have c2 := b0.cell 2
 have c3 := b0.cell 3
 have c4 := b0.cell 4
 have c5 := b0.cell 5
 have c6 := b0.cell 6
 have c7 := b0.cell 7
 have c8 := b0.cell 8
 have c9 := b0.cell 9
 have c10 := b0.cell 10
 have c11 := b0.cell 11
 have c12 := b0.cell 12
 have c13 := b0.cell 13
 have c14 := b0.cell 14
 simp only [List.getElem?_toArray,List.getElem?_cons_zero,List.getElem?_cons_succ] at c0 c1 c2 c3 c4 c5 c6 c7 c8 c9 c10 c11 c12 c13 c14
 clear b0
 go_wp2
 refine wp_region_held_drew (S := fun w' => w'.cell? ⟨w1.heap.size,0,none⟩ = some (.string x.name) ∧ w'.cell? ⟨w1.heap.size,1,none⟩ = some (.slice ea en ec) ∧ w'.cell? ⟨w1.heap.size,2,none⟩ = some (.int .i64 ek) ∧ w'.cell? ⟨w1.heap.size,3,none⟩ = some (.string etb) ∧ w'.cell? ⟨w1.heap.size,4,none⟩ = some (.string enm) ∧ w'.cell? ⟨w1.heap.size,5,none⟩ = some (.slice eco1 eco2 eco3) ∧ w'.cell? ⟨w1.heap.size,6,none⟩ = some (.slice eta1 eta2 eta3) ∧ w'.cell? ⟨w1.heap.size,7,none⟩ = some (.slice eva1 eva2 eva3) ∧ w'.cell? ⟨w1.heap.size,8,none⟩ = some (.slice eit1 eit2 eit3) ∧ w'.cell? ⟨w1.heap.size,9,none⟩ = some (.string ejn) ∧ w'.cell? ⟨w1.heap.size,10,none⟩ = some (.slice eon1 eon2 eon3) ∧ w'.cell? ⟨w1.heap.size,11,none⟩ = some (.slice ewh1 ewh2 ewh3) ∧ w'.cell? ⟨w1.heap.size,12,none⟩ = some (.slice eod1 eod2 eod3) ∧ w'.cell? ⟨w1.heap.size,13,none⟩ = some (.bool eds) ∧ w'.cell? ⟨w1.heap.size,14,none⟩ = some (.slice ein1 ein2 ein3) ∧ w'.cell? ⟨q,1,none⟩ = some (.func (.func N) #[] #[]) ∧ w'.cell? ⟨r,0,none⟩ = some (.string name)) (by kernel_rfl) (⟨cell_later hY c0,cell_later hY c1,cell_later hY c2,cell_later hY c3,cell_later hY c4,cell_later hY c5,cell_later hY c6,cell_later hY c7,cell_later hY c8,cell_later hY c9,cell_later hY c10,cell_later hY c11,cell_later hY c12,cell_later hY c13,cell_later hY c14,cell_later hY g1,cell_later hY g2⟩) (fun hHeld => ?_)
 refine wpAnyH_take (i := 0) (v := ?tv11) rfl (by kernel_rfl) (by kernel_rfl) (by kernel_rfl) (fun _ _ _ h => h) (Or.inl ⟨by rfl,?hy11⟩) (by assumption) ?rs11
 case hy11 => (intro w9 hSw; (try dsimp only at hSw); go_simp; (try with_reducible rfl))
 (try simp only [Act.put,List.getElem_toArray,List.getElem_cons_zero,List.getElem_cons_succ,List.setIfInBounds_toArray,List.set_cons_zero,List.set_cons_succ])
 refine wpAnyH_take (i := 1) (v := ?tv12) rfl (by kernel_rfl) (by kernel_rfl) (by kernel_rfl) (fun _ _ _ h => h) (Or.inl ⟨by rfl,?hy12⟩) (by assumption) ?rs12
 case hy12 => (intro w9 hSw; (try dsimp only at hSw); go_simp; (try with_reducible rfl))
 (try simp only [Act.put,List.getElem_toArray,List.getElem_cons_zero,List.getElem_cons_succ,List.setIfInBounds_toArray,List.set_cons_zero,List.set_cons_succ])
 refine wpAnyH_take (i := 2) (v := ?tv13) rfl (by kernel_rfl) (by kernel_rfl) (by kernel_rfl) (fun _ _ _ h => h) (Or.inl ⟨by rfl,?hy13⟩) (by assumption) ?rs13
 case hy13 => (intro w9 hSw; (try dsimp only at hSw); go_simp; (try with_reducible rfl))
 (try simp only [Act.put,List.getElem_toArray,List.getElem_cons_zero,List.getElem_cons_succ,List.setIfInBounds_toArray,List.set_cons_zero,List.set_cons_succ])
 refine wpAnyH_take (i := 4) (v := ?tv14) rfl (by kernel_rfl) (by kernel_rfl) (by kernel_rfl) (fun _ _ _ h => h) (Or.inl ⟨by rfl,?hy14⟩) (by assumption) ?rs14
 case hy14 => (intro w9 hSw; (try dsimp only at hSw); go_simp; (try with_reducible rfl))
 (try simp only [Act.put,List.getElem_toArray,List.getElem_cons_zero,List.getElem_cons_succ,List.setIfInBounds_toArray,List.set_cons_zero,List.set_cons_succ])
 refine wpAnyH_ready (rs := [3]) (by kernel_rfl) (by simp) ?_
 refine AllReadyH.cons rfl (fun K hK => ?_) AllReadyH.nil
 go_simp
 go_wp2_with (first | ((refine Calls.mono (HX.out _ hY) ?_); rintro e y ⟨rfl,hby⟩; replace hY := Below.on hY hby))
 refine hK.out _ _ (⟨cell_later hY c0,cell_later hY c1,cell_later hY c2,cell_later hY c3,cell_later hY c4,cell_later hY c5,cell_later hY c6,cell_later hY c7,cell_later hY c8,cell_later hY c9,cell_later hY c10,cell_later hY c11,cell_later hY c12,cell_later hY c13,cell_later hY c14,cell_later hY g1,cell_later hY g2⟩) (fun hHeld => ?_)
 clear hK K
 (try simp only [Act.put,List.getElem_toArray,List.getElem_cons_zero,List.getElem_cons_succ,List.setIfInBounds_toArray,List.set_cons_zero,List.set_cons_succ])
 refine wpAnyH_take (i := 5) (v := ?tv15) rfl (by kernel_rfl) (by kernel_rfl) (by kernel_rfl) (fun _ _ _ h => h) (Or.inl ⟨by rfl,?hy15⟩) (by assumption) ?rs15
 case hy15 => (intro w9 hSw; (try dsimp only at hSw); go_simp; (try with_reducible rfl))
 (try simp only [Act.put,List.getElem_toArray,List.getElem_cons_zero,List.getElem_cons_succ,List.setIfInBounds_toArray,List.set_cons_zero,List.set_cons_succ])
 refine wpAnyH_ready (rs := [6]) (by kernel_rfl) (by simp) ?_
 refine AllReadyH.cons rfl (fun K hK => ?_) AllReadyH.nil
 go_simp
 refine hK.out _ _ (⟨cell_later hY c0,cell_later hY c1,cell_later hY c2,cell_later hY c3,cell_later hY c4,cell_later hY c5,cell_later hY c6,cell_later hY c7,cell_later hY c8,cell_later hY c9,cell_later hY c10,cell_later hY c11,cell_later hY c12,cell_later hY c13,cell_later hY c14,cell_later hY g1,cell_later hY g2⟩) (fun hHeld => ?_)
 clear hK K
 (try simp only [Act.put,List.getElem_toArray,List.getElem_cons_zero,List.getElem_cons_succ,List.setIfInBounds_toArray,List.set_cons_zero,List.set_cons_succ])
 refine wpAnyH_done (by kernel_rfl) ?_ _
 have hW := Below.trans hw (hY.mono hw.size)
 clear hY
 go_wp2
 go_ret
 exact ⟨rfl,hW⟩
set_option maxRecDepth 100000 in
set_option maxHeartbeats 1000000 in
theorem placeVw_any {l : List Vw} (hlen : l.length ≤ 500) {nm : Vw → ByteArray} {N C : Nat} (hN : NameZ eVw nm N) (name : ByteArray) {Q : Nat → Prop} {w : World} {ao : Option Addr} {n c : Nat} (h : RowIs eVw Q w (.slice ao n c) l) :
  Calls Tryz.prog 122 #[.agg #[.slice ao n c,.func (.func N) #[] #[],.func (.func C) #[] #[]],.string name] w fun en w' => en = .returned (.int .i64 (fidx (fun x => eqS (nm x) name) l)) ∧ Below w.heap.size w w' := by
 have hmf : ∀ (fn : Fn) (first cap : Array Value) (w : World),(Instr.makeFunc fn first cap).run Tryz.prog w = .ok (.func fn first cap) w := fun _ _ _ _ => rfl
 have hw : Below w.heap.size w ((w.alloc (.cells #[.slice ao n c,.func (.func N) #[] #[],.func (.func C) #[] #[]] 156)).alloc (.cells #[.string name] 9)) := bal (bal (Below.refl _ _) _) _
 have k1 : ((w.alloc (.cells #[.slice ao n c,.func (.func N) #[] #[],.func (.func C) #[] #[]] 156)).alloc (.cells #[.string name] 9)).cell? ⟨w.heap.size,1,none⟩ = some (.func (.func N) #[] #[]) := cell_later (bal (Below.refl _ _) _) (cell_new w _ _ _ 1)
 have k2 : ((w.alloc (.cells #[.slice ao n c,.func (.func N) #[] #[],.func (.func C) #[] #[]] 156)).alloc (.cells #[.string name] 9)).cell? ⟨w.heap.size + 1,0,none⟩ = some (.string name) := by
  have := cell_new (w.alloc (.cells #[.slice ao n c,.func (.func N) #[] #[],.func (.func C) #[] #[]] 156)) #[.string name] 9 (0,0) 0
  rw [World.size_alloc] at this
  exact this
 have HC : Hid _ := hid (idxVw_any hlen (h.keep (by decide) fun b _ hl => hw.block b hl) (suchVw hN k1 k2))
 clear h hN k1 k2
 go_enter Tryz.func122,Tryz.ntmps122
 go_wp2_with fail
 refine Calls.mono HC.out ?_
 rintro e w1 ⟨rfl,hb⟩
 have hW := Below.trans hw (hb.mono hw.size)
 clear HC hb hw
 go_wp2
 go_ret
 exact ⟨rfl,hW⟩

end Go.Proofs.YtljmlacnfnmjbaaGreat
namespace Go.Proofs.YtljmlacnfnmjbaaGreat
open Go.RowKit
set_option linter.unusedVariables false
set_option linter.unusedSimpArgs false

theorem fidx_any {α : Type} (p : α → Bool) (l : List α) : decide (0 ≤ fidx p l) = l.any p := by
 rw [fidx]
 by_cases h : l.findIdx p < l.length
 ·rw [if_pos h]
  have : l.any p = true := List.any_eq_true.2 ⟨_,List.getElem_mem h,List.findIdx_getElem⟩
  rw [this]
  simp
 ·rw [if_neg h]
  have : l.any p = false := by
   rw [List.any_eq_false]
   intro x hx hp
   exact h (List.findIdx_lt_length_of_exists ⟨x,hx,by simpa using hp⟩)
  rw [this]
  decide
theorem tables_any (ta : Option Addr) (tn tc : Nat) (vb : Option Addr) (vm vd : Nat) (w : World) : Calls Tryz.prog 87 #[.agg #[.slice ta tn tc,.slice vb vm vd]] w fun e w' => e = .returned (.agg #[.slice ta tn tc,.func (.func 109) #[] #[],.func (.func 110) #[] #[]]) ∧ Below w.heap.size w w' := by
 have hsf : ∀ (w : World) (a : Addr) (f : Fn) (x y : Array Value) (m : Mode),(store a (.func f x y) m).run Tryz.prog w = stored Tryz.prog w a (.func f x y) m := fun w a f x y m => run_store Tryz.prog w a _ m rfl
 go_enter Tryz.func87,Tryz.ntmps87
 go_wp2
 refine bodyPost_ret (v := .agg #[.slice ta tn tc,.func (.func 109) #[] #[],.func (.func 110) #[] #[]]) (by simp [results,Tryz.results87,go_sem]) rfl ⟨rfl,bal (bal (Below.refl _ _) _) _⟩

theorem views_any (ta : Option Addr) (tn tc : Nat) (vb : Option Addr) (vm vd : Nat) (w : World) : Calls Tryz.prog 100 #[.agg #[.slice ta tn tc,.slice vb vm vd]] w fun e w' => e = .returned (.agg #[.slice vb vm vd,.func (.func 120) #[] #[],.func (.func 121) #[] #[]]) ∧ Below w.heap.size w w' := by
 have hsf : ∀ (w : World) (a : Addr) (f : Fn) (x y : Array Value) (m : Mode),(store a (.func f x y) m).run Tryz.prog w = stored Tryz.prog w a (.func f x y) m := fun w a f x y m => run_store Tryz.prog w a _ m rfl
 go_enter Tryz.func100,Tryz.ntmps100
 go_wp2
 refine bodyPost_ret (v := .agg #[.slice vb vm vd,.func (.func 120) #[] #[],.func (.func 121) #[] #[]]) (by simp [results,Tryz.results100,go_sem]) rfl ⟨rfl,bal (bal (Below.refl _ _) _) _⟩

theorem columns_any (a : Option Addr) (n k : Nat) (w : World) : Calls Tryz.prog 118 #[.slice a n k] w fun e w' => e = .returned (.agg #[.slice a n k,.func (.func 131) #[] #[],.func (.func 127) #[] #[]]) ∧ Below w.heap.size w w' := by
 have hsf : ∀ (w : World) (a : Addr) (f : Fn) (x y : Array Value) (m : Mode),(store a (.func f x y) m).run Tryz.prog w = stored Tryz.prog w a (.func f x y) m := fun w a f x y m => run_store Tryz.prog w a _ m rfl
 go_enter Tryz.func118,Tryz.ntmps118
 go_wp2
 refine bodyPost_ret (v := .agg #[.slice a n k,.func (.func 131) #[] #[],.func (.func 127) #[] #[]]) (by simp [results,Tryz.results118,go_sem]) rfl ⟨rfl,bal (Below.refl _ _) _⟩

set_option maxRecDepth 100000 in
theorem column_any {l : List Co} (hlen : l.length ≤ 500) (nm name : ByteArray) {Q : Nat → Prop} {w : World} {a : Option Addr} {n k : Nat} (h : RowIs eCol Q w (.slice a n k) l) (a' : Option Addr) (n' k' : Nat) :
  Calls Tryz.prog 97 #[.agg #[.string nm,.slice a n k,.slice a' n' k'],.string name] w fun en w' => en = .returned (.int .i64 (fidx (fun c => eqS c.1 name) l)) ∧ Below w.heap.size w w' := by
 have HR : Hid (∀ w',Below w.heap.size w w' → RowIs eCol Q w' (.slice a n k) l) := hid fun w' hb => h.keep (by decide) fun b _ hl => hb.block b hl
 have H1 : Hid (∀ w,_) := hid fun w => columns_any a n k w
 have H2 : Hid (∀ w',Below w.heap.size w w' → _) := hid fun w' hb => placeCol_any hlen name_col name (C := 127) (HR.out w' hb)
 generalize fidx (fun c => eqS c.1 name) l = R at *
 clear h
 have hB := bal (Below.refl _ w) (.cells #[.string nm,.slice a n k,.slice a' n' k'] 58)
 go_enter Tryz.func97,Tryz.ntmps97
 go_wp2_with fail
 refine Calls.mono (H1.out _) ?_
 rintro e w1 ⟨rfl,hb⟩
 replace hB := Below.trans hB (hb.mono hB.size)
 go_wp2_with fail
 refine Calls.mono (H2.out _ hB) ?_
 rintro e w2 ⟨rfl,hb2⟩
 replace hB := Below.trans hB (hb2.mono hB.size)
 clear H1 H2 HR hb hb2
 go_wp2
 go_ret
 exact ⟨rfl,hB⟩

end Go.Proofs.YtljmlacnfnmjbaaGreat
namespace Go.Proofs.YtljmlacnfnmjbaaGreat
open Go.RowKit
set_option linter.unusedVariables false
set_option linter.unusedSimpArgs false

theorem empty_str (t : ByteArray) : t.toList.isEmpty = decide (t = ⟨#[]⟩) := by
 have h := same_str t ⟨#[]⟩
 rw [← h,ByteArray.toList_eq,ByteArray.toList_eq]
 cases t.data.toList <;> rfl
theorem ne_str {s t : ByteArray} (h : s ≠ t) : (s.toList == t.toList) = false := by rw [same_str]; simpa using h
theorem row_int {Q : Nat → Prop} {w : World} {ao : Option Addr} {n c : Nat} {l : List Int} (h : RowIs eInt Q w (.slice ao n c) l) : l.length = n ∧ n ≤ c ∧ c ≤ 9223372036854775807 ∧ (0 < n → ∃ b o,ao = some ⟨b,o,none⟩ ∧ Q b ∧ ∀ i (hi : i < l.length),w.cell? ⟨b,o + i,none⟩ = some (.int .i64 l[i])) := by
 obtain ⟨_,_,_,e,h1,h2,h3,h4⟩ := h
 cases e
 refine ⟨h1,h2,h3,fun hn => ?_⟩
 obtain ⟨b,o,e,hq,hi⟩ := h4 hn
 refine ⟨b,o,e,hq,fun i hi' => ?_⟩
 obtain ⟨cs,hE,hl,hc⟩ := hi i hi'
 have hE' : cs = [.int .i64 l[i]] := hE
 subst hE'
 have := hc 0 (show 0 < 1 from by decide)
 simpa [eInt] using this

set_option maxRecDepth 100000 in
set_option maxHeartbeats 2000000 in
theorem indexI_any {l : List Int} (hlen : l.length ≤ 500) (x : Int) {Q : Nat → Prop} {w : World} {ao : Option Addr} {n c : Nat} (h : RowIs eInt Q w (.slice ao n c) l) :
  Calls Tryz.prog 106 #[.slice ao n c,.int .i64 x] w fun en w' => en = .returned (.int .i64 (fidx (fun y => x == y) l)) ∧ Below w.heap.size w w' := by
 obtain ⟨hn,hnc,hc,hx⟩ := row_int h
 subst hn
 clear h
 obtain ⟨R,hR⟩ : ∃ R,fidx (fun y => x == y) l = R := ⟨_,rfl⟩
 have HF : Hid _ := hid hR
 rw [hR]
 clear hR
 have HXX : Hid _ := hid hx
 clear hx
 go_enter Tryz.func106,Tryz.ntmps106
 go_wp2
 go_loopw [5,8] (fun _ v8 wr => ∃ k : Nat,k ≤ l.length ∧ v8 = .int .i64 k ∧ Below w.heap.size w wr ∧ Hid (∀ i (hi : i < l.length),i < k → (x == l[i]) = false)) (fun _ i _ => l.length - (intOf i).toNat)
 case atStart => exact ⟨0,Nat.zero_le _,rfl,Below.refl _ _,hid fun i h hi => absurd hi (by omega)⟩
 case round =>
  obtain ⟨k,hk,rfl,hB,HE⟩ := hrel
  by_cases hlt : k < l.length
  ·obtain ⟨b,o,rfl,-,hi⟩ := HXX.out (by omega)
   obtain ⟨y,hy⟩ : ∃ y,l[k] = y := ⟨_,rfl⟩
   have c0 := cell_later hB (hi k hlt)
   rw [hy] at c0
   have hkm : (k : Int) < (l.length : Int) := by omega
   have hk5 : k ≤ 500 := by omega
   have HY : Hid _ := hid hy
   clear hi hy
   cases hp : (x == y) with
   | true =>
    have HP : Hid (fidx (fun y => x == y) l = k) := hid (fidx_hit hlt HE.out (by rw [HY.out]; exact hp))
    obtain rfl : x = y := by simpa using hp
    clear hp
    go_wp2
    go_ret
    exact ⟨ret_int (by rw [← HF.out,HP.out]),hB⟩
   | false =>
    have HN2 : Hid (∀ i (hi : i < l.length),i < k + 1 → (x == l[i]) = false) := hid fun i hi hik => by
     by_cases he : i < k
     ·exact HE.out i hi he
     ·obtain rfl : i = k := by omega
      rw [HY.out]; exact hp
    have hpd : decide (x = y) = false := by simpa using hp
    clear HE
    go_wp2
    go_roundw
    case rel => exact ⟨k + 1,hlt,by go_num,hB,HN2⟩
    case measure => simp only [intOf]; omega
  ·obtain rfl : k = l.length := by omega
   have HP : Hid (fidx (fun y => x == y) l = -1) := hid (fidx_none fun i hi => HE.out i hi hi)
   clear HE
   go_wp2
   go_ret
   exact ⟨ret_int (by rw [← HF.out,HP.out]),hB⟩
set_option maxRecDepth 100000 in
set_option maxHeartbeats 2000000 in
theorem containsI_any {l : List Int} (hlen : l.length ≤ 500) (x : Int) {Q : Nat → Prop} {w : World} {ao : Option Addr} {n c : Nat} (h : RowIs eInt Q w (.slice ao n c) l) :
  Calls Tryz.prog 85 #[.slice ao n c,.int .i64 x] w fun en w' => en = .returned (.bool (l.contains x)) ∧ Below w.heap.size w w' := by
 have HC : Hid _ := hid (indexI_any hlen x h)
 have he : decide (0 ≤ fidx (fun y => x == y) l) = l.contains x := by
  rw [fidx_any,List.contains_eq_any_beq]
 clear h
 generalize fidx (fun y => x == y) l = R at *
 have HE : Hid _ := hid he
 clear he
 go_enter Tryz.func85,Tryz.ntmps85
 go_wp2_with fail
 refine Calls.mono HC.out ?_
 rintro e w4 ⟨rfl,hb4⟩
 go_wp2
 go_ret
 exact ⟨ret_bool HE.out,hb4⟩

set_option maxRecDepth 100000 in
set_option maxHeartbeats 2000000 in
theorem alike1_any {l : List Int} (hl : 0 < l.length) (x : Int) {Q : Nat → Prop} {w : World} {ao : Option Addr} {n c bf : Nat} (h : RowIs eInt Q w (.slice ao n c) l) (hf : w.cell? ⟨bf,0,none⟩ = some (.slice ao n c)) :
  Calls Tryz.prog 104 #[.int .i64 x,.pointer (some ⟨bf,0,none⟩)] w fun en w' => en = .returned (.bool (x == l.headD 0)) ∧ Below w.heap.size w w' := by
 obtain ⟨hn,hnc,hc,hx⟩ := row_int h
 subst hn
 obtain ⟨b,o,rfl,-,hi⟩ := hx hl
 have c0 := hi 0 hl
 have e0 : l[0] = l.headD 0 := by
  cases l with
  | nil => simp at hl
  | cons y r => rfl
 rw [e0,Nat.add_zero] at c0
 clear h hx hi e0
 generalize l.headD 0 = y at *
 have hl' : (0 : Int) < (l.length : Int) := by omega
 go_enter Tryz.func104,Tryz.ntmps104
 go_wp2
 go_ret
 exact ⟨ret_bool (by first | rfl | (rw [Bool.eq_iff_iff]; simp)),Below.refl _ _⟩
set_option maxRecDepth 100000 in
set_option maxHeartbeats 2000000 in
theorem alike_any {l : List Int} (hlen : l.length ≤ 500) {Q : Nat → Prop} {w : World} {ao : Option Addr} {n c : Nat} (h : RowIs eInt Q w (.slice ao n c) l) :
  Calls Tryz.prog 82 #[.slice ao n c] w fun en w' => en = .returned (.bool (alikeP l)) ∧ Below w.heap.size w w' := by
 have hw := bal (Below.refl w.heap.size w) (.cells #[.slice ao n c] 23)
 have hf := cell_new w #[.slice ao n c] 23 (0,0) 0
 simp only [List.getElem?_toArray,List.getElem?_cons_zero] at hf
 have h1 : RowIs eInt Q (w.alloc (.cells #[.slice ao n c] 23)) (.slice ao n c) l := h.keep (by decide) fun b _ hl => hw.block b hl
 have HC := allIn hlen h1 (p := fun x => x == l.headD 0) (N := 104) (caps := #[.pointer (some ⟨w.heap.size,0,none⟩)])
  ⟨_,_,rfl,fun args w' => by rfl,fun x w' hx hb => alike1_any (List.length_pos_of_mem hx) x (h1.keep (by decide) fun b _ hl => hb.block b hl) (cell_later hb hf)⟩
 have hT : (l.all fun x => x == l.headD 0) = alikeP l := rfl
 rw [hT] at HC
 replace HC : Hid _ := hid HC
 clear h h1 hT
 generalize alikeP l = T at *
 go_enter Tryz.func82,Tryz.ntmps82
 go_wp2_with fail
 refine Calls.mono HC.out ?_
 rintro e w4 ⟨rfl,hb4⟩
 go_wp2
 go_ret
 exact ⟨rfl,Below.on hw hb4⟩
set_option maxRecDepth 100000 in
set_option maxHeartbeats 2000000 in
theorem takes1_any {f : List Int} (hlf : f.length ≤ 500) (x : Int) {Q : Nat → Prop} {w : World} {ao : Option Addr} {n c bf : Nat} (h : RowIs eInt Q w (.slice ao n c) f) (hf : w.cell? ⟨bf,1,none⟩ = some (.slice ao n c)) :
  Calls Tryz.prog 84 #[.int .i64 x,.pointer (some ⟨bf,0,none⟩)] w fun en w' => en = .returned (.bool (f.contains x)) ∧ Below w.heap.size w w' := by
 have HC : Hid _ := hid (containsI_any hlf x h)
 clear h
 generalize f.contains x = T at *
 go_enter Tryz.func84,Tryz.ntmps84
 go_wp2_with fail
 refine Calls.mono HC.out ?_
 rintro e w4 ⟨rfl,hb4⟩
 go_wp2
 go_ret
 exact ⟨rfl,hb4⟩
set_option maxRecDepth 100000 in
set_option maxHeartbeats 2000000 in
theorem takes_any {l f : List Int} (hlen : l.length ≤ 500) (hlf : f.length ≤ 500) {Q : Nat → Prop} {w : World} {ao : Option Addr} {n c : Nat} (h : RowIs eInt Q w (.slice ao n c) l) (u v : Int) {ao2 : Option Addr} {n2 c2 : Nat} (h2 : RowIs eInt Q w (.slice ao2 n2 c2) f) :
  Calls Tryz.prog 54 #[.agg #[.int .i64 u,.slice ao2 n2 c2,.int .i64 v],.slice ao n c] w fun en w' => en = .returned (.bool (takesP f l)) ∧ Below w.heap.size w w' := by
 have hw := bal (Below.refl w.heap.size w) (.cells #[.int .i64 u,.slice ao2 n2 c2,.int .i64 v] 103)
 have hf := cell_new w #[.int .i64 u,.slice ao2 n2 c2,.int .i64 v] 103 (0,0) 1
 simp only [List.getElem?_toArray,List.getElem?_cons_zero,List.getElem?_cons_succ] at hf
 have h1 : RowIs eInt Q (w.alloc (.cells #[.int .i64 u,.slice ao2 n2 c2,.int .i64 v] 103)) (.slice ao n c) l := h.keep (by decide) fun b _ hl => hw.block b hl
 have h3 : RowIs eInt Q (w.alloc (.cells #[.int .i64 u,.slice ao2 n2 c2,.int .i64 v] 103)) (.slice ao2 n2 c2) f := h2.keep (by decide) fun b _ hl => hw.block b hl
 have HA : Hid _ := hid (alike_any hlen h1)
 have HC : Hid (∀ w',Below (w.alloc (.cells #[.int .i64 u,.slice ao2 n2 c2,.int .i64 v] 103)).heap.size (w.alloc (.cells #[.int .i64 u,.slice ao2 n2 c2,.int .i64 v] 103)) w' → _) := hid fun w' hb' => allIn hlen (h1.keep (by decide) fun b _ hl => hb'.block b hl) (p := fun x => f.contains x) (N := 84) (caps := #[.pointer (some ⟨w.heap.size,0,none⟩)])
  ⟨_,_,rfl,fun args w' => by rfl,fun x w2 hx hb => takes1_any hlf x (h3.keep (by decide) fun b _ hl => (Below.on hb' hb).block b hl) (cell_later (Below.on hb' hb) hf)⟩
 have HT : Hid (takesP f l = (alikeP l && l.all fun x => f.contains x)) := hid rfl
 generalize takesP f l = T at *
 clear h h1 h2 h3
 cases ha : alikeP l with
 | true =>
  have HT2 : Hid (T = l.all fun x => f.contains x) := hid (by rw [HT.out,ha]; rfl)
  rw [ha] at HA
  generalize (l.all fun x => f.contains x) = A at *
  clear HT ha
  go_enter Tryz.func54,Tryz.ntmps54
  go_wp2_with fail
  refine Calls.mono HA.out ?_
  rintro e w4 ⟨rfl,hb4⟩
  have HC2 : Hid _ := hid (HC.out w4 hb4)
  clear HA HC
  go_wp2_with fail
  refine Calls.mono HC2.out ?_
  rintro e w5 ⟨rfl,hb5⟩
  go_wp2
  go_ret
  exact ⟨ret_bool HT2.out.symm,Below.on hw (Below.on hb4 hb5)⟩
 | false =>
  have HT2 : Hid (T = false) := hid (by rw [HT.out,ha]; rfl)
  rw [ha] at HA
  clear HT ha HC
  go_enter Tryz.func54,Tryz.ntmps54
  go_wp2_with fail
  refine Calls.mono HA.out ?_
  rintro e w4 ⟨rfl,hb4⟩
  clear HA
  go_wp2
  go_ret
  exact ⟨ret_bool HT2.out.symm,Below.on hw hb4⟩

set_option maxRecDepth 100000 in
set_option maxHeartbeats 2000000 in
theorem column1_any (tb nm : ByteArray) (x : Cl3) {w : World} {b1 b2 : Nat} (h1 : w.cell? ⟨b1,0,none⟩ = some (.string nm)) (h2 : w.cell? ⟨b2,0,none⟩ = some (.string tb)) :
  Calls Tryz.prog 79 #[.agg #[.string x.1,.string x.2.1,.int .i64 x.2.2],.pointer (some ⟨b1,0,none⟩),.pointer (some ⟨b2,0,none⟩)] w fun en w' => en = .returned (.bool (clmIs tb nm x)) ∧ Below w.heap.size w w' := by
 obtain ⟨x1,x2,x3⟩ := x
 have hb := bal (Below.refl w.heap.size w) (.cells #[.string x1,.string x2,.int .i64 x3] 100)
 have q1 := cell_later hb h1
 have q2 := cell_later hb h2
 have d0 := cell_new w #[.string x1,.string x2,.int .i64 x3] 100 (0,0) 0
 have d1 := cell_new w #[.string x1,.string x2,.int .i64 x3] 100 (0,0) 1
 simp only [List.getElem?_toArray,List.getElem?_cons_zero,List.getElem?_cons_succ] at d0 d1
 have HT : Hid (clmIs tb nm (x1,x2,x3) = (decide (x2 = nm) && (decide (tb = ⟨#[]⟩) || decide (x1 = tb)))) := hid rfl
 generalize clmIs tb nm (x1,x2,x3) = T at *
 clear h1 h2
 go_enter Tryz.func79,Tryz.ntmps79
 go_upto_region 1 with fail
 generalize w.alloc (.cells #[.string x1,.string x2,.int .i64 x3] 100) = W at *
 by_cases h1 : x2 = nm
 ·have HT2 : Hid (T = (decide (tb = ⟨#[]⟩) || decide (x1 = tb))) := hid (by rw [HT.out,h1]; simp)
  by_cases h2 : tb = ⟨#[]⟩
  ·have HT3 : Hid (T = true) := hid (by rw [HT2.out,h2]; simp)
   have e1 : decide (x2 = nm) = true := by simpa using h1
   have e2 : decide (tb = ⟨#[]⟩) = true := by simpa using h2
   subst h1
   subst h2
   clear HT HT2
   go_wp2
   go_ret
   exact ⟨ret_bool HT3.out.symm,hb⟩
  ·have HT3 : Hid (T = decide (x1 = tb)) := hid (by rw [HT2.out]; simp [h2])
   have e2 : tb.toList.isEmpty = false := by rw [empty_str]; simpa using h2
   have e3 : (x1.toList == tb.toList) = T := by rw [HT3.out,same_str]
   subst h1
   clear HT HT2
   go_wp2
   go_ret
   exact ⟨rfl,hb⟩
 ·have HT3 : Hid (T = false) := hid (by rw [HT.out]; simp [h1])
  have e1 : (x2.toList == nm.toList) = false := ne_str h1
  clear HT
  go_wp2
  go_ret
  exact ⟨ret_bool HT3.out.symm,hb⟩

end Go.Proofs.YtljmlacnfnmjbaaGreat
namespace Go.Proofs.YtljmlacnfnmjbaaGreat
open Go.RowKit
set_option linter.unusedVariables false
set_option linter.unusedSimpArgs false

theorem Tryz.infoZStr : (Tryz.prog.info? 9).map (fun i => (i.zero,i.size,i.bytes)) = some (some (.string ⟨#[]⟩),1,16) := by kernel_rfl
set_option maxRecDepth 100000 in
set_option maxHeartbeats 4000000 in
theorem copiesStr_own {l : List ByteArray} (hcp : ∀ x ∈ l,StrB x) (hlen : l.length ≤ 500) {Q : Nat → Prop} {w : World} {ao : Option Addr} {n c : Nat} (h : RowIs eStr Q w (.slice ao n c) l) :
  Calls Tryz.prog 128 #[.slice ao n c,.func (.func 125) #[] #[]] w (TeO eStr 9 w l) := by
 have HC : Hid (∀ x ∈ l,StrB x) := hid hcp
 have HR : Hid (∀ w',Below w.heap.size w w' → RowIs eStr Q w' (.slice ao n c) l) := hid fun w' hb => h.keep (by decide) fun b _ hl => hb.block b hl
 obtain ⟨ao',n',c',e',hn,hnc,hc,_⟩ := h
 cases e'
 subst hn
 clear hcp
 go_enter Tryz.func128,Tryz.ntmps128
 go_wp2
 go_loopw [5,10] (fun v5 v10 wr => ∃ (k : Nat) (css : List (List Value)),k ≤ l.length ∧ v10 = .int .i64 k ∧ Below w.heap.size w wr ∧ OwnR 9 1 w.heap.size wr v5 css ∧ css.length = k ∧ Hid (∀ i (h1 : i < l.length) (h2 : i < css.length),(eStr).E (fun b => w.heap.size ≤ b ∧ some b ≠ v5.ownBlock) wr l[i] css[i])) (fun _ i _ => l.length - (intOf i).toNat)
 case atStart => exact ⟨0,[],Nat.zero_le _,rfl,Below.refl _ _,OwnR.nil _ _ _ _,rfl,hid fun i h1 h2 => by simp at h2⟩
 case round =>
  obtain ⟨k,css,hk,rfl,hB,ho,hcl,HE⟩ := hrel
  by_cases hlt : k < l.length
  ·have hcl' : css.length ≤ 500 := by omega
   obtain ⟨_,_,_,e',_,_,_,hx⟩ := HR.out wr hB
   cases e'
   obtain ⟨b,o,rfl,hq,hi⟩ := hx (by omega)
   obtain ⟨cs,hEx,h2,h3⟩ := hi k hlt
   obtain ⟨x,hxl,hxm⟩ : ∃ x,l[k] = x ∧ x ∈ l := ⟨_,rfl,List.getElem_mem hlt⟩
   rw [hxl] at hEx
   have hEx' := hEx
   obtain rfl := hEx'
   have c0 : wr.cell? ⟨b,o + k,none⟩ = some (.string x) := by
    have := h3 0 (by simp)
    have e1 : o + k * eStr.k + 0 = o + k := by show o + k * 1 + 0 = o + k; omega
    rw [e1] at this
    exact this
   have HX : Hid _ := hid (clone_any x (HC.out x hxm) wr)
   have HXl : Hid _ := hid hxl
   have hsz := hB.size
   have hblk := ho.blk
   have Hcl : Hid _ := hid hcl
   have hkm : (k : Int) < (l.length : Int) := by omega
   clear hEx h2 h3 hi hx hxm hxl hcl
   go_wp2_with fail
   refine Calls.mono HX.out ?_
   rintro e w4 ⟨rfl,hb4'⟩
   have hB4 : Below w.heap.size w w4 := Below.trans hB (hb4'.mono hsz)
   have ho4 := ho.later hb4'
   have ho5 := ho4.alloc (.cells #[.string x] 9)
   have hB5 := bal hB4 (.cells #[.string x] 9)
   have hs4 := hb4'.size
   have HE4 : Hid (∀ i (h1 : i < l.length) (h2 : i < css.length),(eStr).E (fun b => w.heap.size ≤ b ∧ some b ≠ u5.ownBlock) (w4.alloc (.cells #[.string x] 9)) l[i] css[i]) := hid fun i h1 h2 => (eStr).keep (fun b _ hl => (bal (Below.refl _ w4) _).block b hl) ((eStr).keep (fun b _ hl => hb4'.block b hl) (HE.out i h1 h2))
   have HEn : Hid ((eStr).E (fun b => w.heap.size ≤ b ∧ some b ≠ u5.ownBlock) (w4.alloc (.cells #[.string x] 9)) x [.string x]) := hid rfl
   clear HE ho ho4 hB4 HX hb4'
   go_wp2_with (first | (at_builtin; refine wpList_appR Tryz.underlying56 Tryz.infoZStr rfl (by decide) (by decide) rfl (.tmp 14) (.tmp 18) rfl _ css w4.heap.size [.string x] rfl rfl ho5 rfl (by simp [Value.oneCell']) ?_ (by omega) hB5.size ?_) | fail)
   ·intro j hj
    have hj' : j < 1 := hj
    match j,hj' with
    | 0,_ => exact cell_new w4 _ _ _ 0
   ·intro v' w6 hO6 hg6 hown
    have hB6 := Below.grownR hB5 hB5.size hg6 fun k e => (hblk k e).1
    have HN : Hid (∀ i (h1 : i < l.length) (h2 : i < (css ++ [([.string x] : List Value)]).length),(eStr).E (fun b => w.heap.size ≤ b ∧ some b ≠ v'.ownBlock) w6 l[i] (css ++ [([.string x] : List Value)])[i]) := hid fun i h1 h2 => by
     by_cases hi : i < css.length
     ·rw [List.getElem_append_left hi]
      exact (eStr).grow (HE4.out i h1 hi) hg6 (by simpa using hown)
     ·rw [List.length_append,List.length_singleton] at h2
      obtain rfl : i = css.length := by omega
      rw [List.getElem_append_right (Nat.le_refl _)]
      have hx' : l[css.length] = x := by
       have := HXl.out
       have hk' := Hcl.out
       subst hk'
       exact this
      rw [hx']
      simpa using (eStr).grow HEn.out hg6 (by simpa using hown)
    clear HE4 HEn hg6 hown ho5 hB5 hblk
    go_wp2
    go_roundw
    case rel => exact ⟨k + 1,css ++ [([.string x] : List Value)],hlt,by go_num,hB6,hO6,by rw [List.length_append,List.length_singleton,Hcl.out],HN⟩
    case measure => simp only [intOf]; omega
  ·obtain rfl : k = l.length := by omega
   obtain ⟨a5,n5,d5,rfl⟩ := ho.sl
   go_wp2
   go_ret
   exact ⟨_,_,_,css,rfl,ho,hcl,HE.out,hB⟩
theorem copiesStr_any {l : List ByteArray} (hcp : ∀ x ∈ l,StrB x) (hlen : l.length ≤ 500) {Q : Nat → Prop} {w : World} {ao : Option Addr} {n c : Nat} (h : RowIs eStr Q w (.slice ao n c) l) :
  Calls Tryz.prog 128 #[.slice ao n c,.func (.func 125) #[] #[]] w (TeR eStr w l) := (copiesStr_own hcp hlen h).mono fun _ _ h => h.row


end Go.Proofs.YtljmlacnfnmjbaaGreat
