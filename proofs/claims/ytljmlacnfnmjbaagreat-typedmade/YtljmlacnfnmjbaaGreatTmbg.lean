import Derived.Test.YtljmlacnfnmjbaaGreatTmbf
namespace Go.Proofs.YtljmlacnfnmjbaaGreat
open Go.RowKit
set_option linter.unusedVariables false
set_option linter.unusedSimpArgs false

def itT (t : Tbl) : List It := t.cols.map fun c => (0,t.name,c.1)
def kiT (t : Tbl) : List Int := t.cols.map fun c => c.2.1
theorem itT_len (t : Tbl) : (itT t).length = t.cols.length := by unfold itT; rw [List.length_map]
theorem kiT_len (t : Tbl) : (kiT t).length = t.cols.length := by unfold kiT; rw [List.length_map]
theorem pair_cols (n : ByteArray) : ∀ l : List Co,pairP (l.map fun c => (0,n,c.1)) (l.map fun c => c.2.1) = l.map fun c => (n,c.1,c.2.1)
 | [] => rfl
 | c :: l => by
  have := pair_cols n l
  unfold pairP at *
  simp only [List.map_cons,List.zip_cons_cons]
  rw [this]
theorem pairT (t : Tbl) : pairP (itT t) (kiT t) = colsT t := pair_cols _ _
theorem pairT2 (t u : Tbl) : pairP (itT t ++ itT u) (kiT t ++ kiT u) = colsT t ++ colsT u := by
 rw [← pairT t,← pairT u]
 unfold pairP
 rw [List.zip_append (by rw [itT_len,kiT_len]),List.map_append]
theorem own_items {B : Nat} {w : World} {a : Option Addr} {m d : Nat} {l : List It} (h : OwnR 66 3 B w (.slice a m d) (l.map itC)) : RowIs eItem (fun _ => True) w (.slice a m d) l :=
 OwnR.rowE (e := eItem) h (by simp) (fun _ _ _ => trivial) fun i h1 h2 => by
  simp [eItem,itC]
theorem own_ints {B : Nat} {w : World} {a : Option Addr} {m d : Nat} {l : List Int} (h : OwnR 3 1 B w (.slice a m d) (l.map fun x => [.int .i64 x])) : RowIs eInt (fun _ => True) w (.slice a m d) l :=
 OwnR.rowE (e := eInt) h (by simp) (fun _ _ _ => trivial) fun i h1 h2 => by
  simp [eInt]

set_option maxRecDepth 100000 in
set_option maxHeartbeats 4000000 in
theorem rcolumn_any {L : List Co} (hL : L.length ≤ 500) (tn nm : ByteArray) {Q : Nat → Prop} {w : World} {a : Option Addr} {n c : Nat} (h : RowIs eCol Q w (.slice a n c) L) (xa : Option Addr) (xn xc : Nat) :
  Calls Tryz.prog 75 #[.agg #[.string tn,.slice a n c,.slice xa xn xc],.string nm] w fun en w' => en = .returned (.int .i64 (fidx (fun c => eqS c.1 nm) L)) ∧ Below w.heap.size w w' := by
 have hw := bal (Below.refl w.heap.size w) (.cells #[.string tn,.slice a n c,.slice xa xn xc] 58)
 have bx := Bk.new w (.cells #[.string tn,.slice a n c,.slice xa xn xc] 58)
 generalize hW : w.alloc (.cells #[.string tn,.slice a n c,.slice xa xn xc] 58) = W at hw bx
 have d1 := bx.cell 1
 simp only [List.getElem?_toArray,List.getElem?_cons_zero,List.getElem?_cons_succ] at d1
 obtain ⟨l1,l2,l3⟩ := h.lens
 have HR : Hid (∀ w',Below W.heap.size W w' → RowIs eCol Q w' (.slice a n c) L) := hid fun w' hb => h.keep (by decide) fun b _ hl => (Below.on hw hb).block b hl
 have HH : Hid (∀ k (hk : k < L.length),(∀ i (hi : i < L.length),i < k → eqS L[i].1 nm = false) → eqS L[k].1 nm = true → fidx (fun c => eqS c.1 nm) L = k) := hid fun k hk h1 h2 => fidx_hit (p := fun c : Co => eqS c.1 nm) hk h1 h2
 have HN : Hid ((∀ i (hi : i < L.length),i < L.length → eqS L[i].1 nm = false) → fidx (fun c => eqS c.1 nm) L = -1) := hid fun h1 => fidx_none (p := fun c : Co => eqS c.1 nm) fun i hi => h1 i hi hi
 generalize fidx (fun c => eqS c.1 nm) L = R at *
 clear h bx
 subst l1
 go_enter Tryz.func75,Tryz.ntmps75
 go_upto_region 1 with fail
 go_wp2
 clear hW
 generalize w.heap.size = q at d1 ⊢
 go_loopw [5] (fun v wr => ∃ i : Nat,i ≤ L.length ∧ v = .int .i64 i ∧ Hid (∀ j (hj : j < L.length),j < i → eqS L[j].1 nm = false) ∧ Below W.heap.size W wr) (fun i _ => L.length - (intOf i).toNat)
 case atStart => exact ⟨0,Nat.zero_le _,rfl,hid (fun j hj hji => absurd hji (by omega)),Below.refl _ _⟩
 case round =>
  obtain ⟨i,hi,rfl,HI,hB⟩ := hrel
  have e1 := cell_later hB d1
  by_cases hlt : i < L.length
  ·obtain ⟨_,_,_,e',_,_,_,hx⟩ := HR.out wr hB
   cases e'
   obtain ⟨b,o,rfl,-,hxi⟩ := hx (by omega)
   obtain ⟨cs,hE,-,hcc⟩ := hxi i hlt
   have hE' : cs = [.string L[i].1,.int .i64 L[i].2.1,.string L[i].2.2] := hE
   subst hE'
   have c0 : wr.cell? ⟨b,o + i * 3,none⟩ = some (.string L[i].1) := hcc 0 (show 0 < 3 by decide)
   have HM : Hid (eqS L[i].1 nm = false → ∀ j (hj : j < L.length),j < i + 1 → eqS L[j].1 nm = false) := hid fun hn j hj hji => by
    by_cases hji' : j < i
    ·exact HI.out j hj hji'
    ·obtain rfl : j = i := by omega
     exact hn
   have HT : Hid (eqS L[i].1 nm = true → R = i) := hid fun hn => HH.out i hlt HI.out hn
   have n1 := same_str L[i].1 nm
   have hS : eqS L[i].1 nm = decide (L[i].1 = nm) := rfl
   generalize L[i].1 = xt at *
   generalize eqS xt nm = S at *
   have hic' : (i : Int) < (L.length : Int) := by omega
   have hi5 : i < 500 := by omega
   clear hE hcc hxi hx HI
   by_cases hn1 : xt = nm
   ·have f1 : (xt.toList == nm.toList) = true := by rw [n1]; simpa using hn1
    obtain rfl : S = true := by rw [hS]; simpa using hn1
    have hr : Hid _ := hid (HT.out rfl)
    clear n1 hS hn1 HT HM
    go_wp2
    go_ret
    exact ⟨ret_int hr.out.symm,Below.on hw hB⟩
   ·have f1 : (xt.toList == nm.toList) = false := by rw [n1]; simpa using hn1
    obtain rfl : S = false := by rw [hS]; simpa using hn1
    clear n1 hS hn1 HT
    go_wp2
    go_roundw
    case rel => exact ⟨i + 1,by omega,by go_num,hid (HM.out rfl),hB⟩
    case measure => simp only [intOf]; omega
  ·obtain rfl : i = L.length := by omega
   have hr : Hid _ := hid (HN.out HI.out)
   clear HI HH HN HR
   go_wp2
   go_ret
   exact ⟨ret_int hr.out.symm,Below.on hw hB⟩

/-- What the document's looking up tells. -/
def TeD (w : World) (r : Option Tbl) (e : Ending) (w' : World) : Prop :=
 ∃ s a n c a' n' c' is,e = .returned (.tuple #[.agg #[.string s,.slice a n c,.slice a' n' c'],.bool is]) ∧ is = r.isSome ∧ (∀ t,r = some t → s = t.name ∧ RowIs eCol (fun _ => True) w' (.slice a n c) t.cols) ∧ Below w.heap.size w w'
theorem look_hit {T : List Tbl} {nm : ByteArray} {k : Nat} (hk : k < T.length) (h : ∀ i (hi : i < T.length),i < k → eqS T[i].name nm = false) (hp : eqS T[k].name nm = true) : lookT T nm = some T[k] :=
 lookT_at hk (fidx_hit (p := fun t : Tbl => eqS t.name nm) hk h hp)
theorem look_miss {T : List Tbl} {nm : ByteArray} (h : ∀ i (hi : i < T.length),i < T.length → eqS T[i].name nm = false) : lookT T nm = none :=
 lookT_none (fidx_none (p := fun t : Tbl => eqS t.name nm) fun i hi => h i hi hi)

set_option maxRecDepth 100000 in
set_option maxHeartbeats 4000000 in
theorem rtable_any {T : List Tbl} (hL : T.length ≤ 500) (nm : ByteArray) {w : World} {a : Option Addr} {n c : Nat} (h : RowIs eTbl (fun _ => True) w (.slice a n c) T) (vb : Option Addr) (vm vd : Nat) :
  Calls Tryz.prog 36 #[.agg #[.slice a n c,.slice vb vm vd],.string nm] w (TeD w (lookT T nm)) := by
 have hw := bal (bal (Below.refl w.heap.size w) (.cells #[.slice a n c,.slice vb vm vd] 38)) (.cells #[.string ⟨#[]⟩,.slice none 0 0,.slice none 0 0] 58)
 have bs := (Bk.new w (.cells #[.slice a n c,.slice vb vm vd] 38)).later (bal (Below.refl _ _) (.cells #[.string ⟨#[]⟩,.slice none 0 0,.slice none 0 0] 58))
 have bx := Bk.new (w.alloc (.cells #[.slice a n c,.slice vb vm vd] 38)) (.cells #[.string ⟨#[]⟩,.slice none 0 0,.slice none 0 0] 58)
 rw [World.size_alloc] at bx
 generalize hW : (w.alloc (.cells #[.slice a n c,.slice vb vm vd] 38)).alloc (.cells #[.string ⟨#[]⟩,.slice none 0 0,.slice none 0 0] 58) = W at hw bs bx
 have d0 := bs.cell 0
 simp only [List.getElem?_toArray,List.getElem?_cons_zero,List.getElem?_cons_succ] at d0
 obtain ⟨l1,l2,l3⟩ := h.lens
 have HR : Hid (∀ w',Below W.heap.size W w' → RowIs eTbl (fun b => b < w.heap.size) w' (.slice a n c) T) := hid fun w' hb => (h.mono (Q' := fun b => b < w.heap.size) (by decide) fun b _ hl => hl).keep (by decide) fun b _ hl => (Below.on hw hb).block b hl
 have HH : Hid (∀ k (hk : k < T.length),(∀ i (hi : i < T.length),i < k → eqS T[i].name nm = false) → eqS T[k].name nm = true → lookT T nm = some T[k]) := hid fun k hk h1 h2 => look_hit hk h1 h2
 have HN : Hid ((∀ i (hi : i < T.length),i < T.length → eqS T[i].name nm = false) → lookT T nm = none) := hid fun h1 => look_miss h1
 generalize lookT T nm = R at *
 clear h bs
 subst l1
 go_enter Tryz.func36,Tryz.ntmps36
 go_upto_region 1 with fail
 go_wp2
 clear hW
 obtain ⟨z,hz⟩ : ∃ z,w.heap.size + 1 = z := ⟨_,rfl⟩
 simp only [World.size_alloc,hz] at bx ⊢
 have hzw : w.heap.size < z := by omega
 go_loopw [6] (fun v wr => ∃ i : Nat,i ≤ T.length ∧ v = .int .i64 i ∧ Hid (∀ j (hj : j < T.length),j < i → eqS T[j].name nm = false) ∧ Below W.heap.size W wr) (fun i _ => T.length - (intOf i).toNat)
 case atStart => exact ⟨0,Nat.zero_le _,rfl,hid (fun j hj hji => absurd hji (by omega)),Below.refl _ _⟩
 case round =>
  obtain ⟨i,hi,rfl,HI,hB⟩ := hrel
  have e0 := cell_later hB d0
  have bz := bx.later hB
  have z0 := bz.cell 0
  have z1 := bz.cell 1
  have z2 := bz.cell 2
  have f0 := bz.free 0
  have f1 := bz.free 1
  have f2 := bz.free 2
  simp only [List.getElem?_toArray,List.getElem?_cons_zero,List.getElem?_cons_succ] at z0 z1 z2
  have hzs := bz.lt
  by_cases hlt : i < T.length
  ·have hrow := HR.out wr hB
   obtain ⟨_,_,_,e',_,_,_,hx⟩ := hrow
   cases e'
   obtain ⟨b,o,rfl,-,hxi⟩ := hx (by omega)
   obtain ⟨cs,hE,-,hcc⟩ := hxi i hlt
   obtain ⟨ca,cn,cc,xa,xn,xc,rfl,hcol,-⟩ := hE
   have c0 : wr.cell? ⟨b,o + i * 3,none⟩ = some (.string T[i].name) := hcc 0 (show 0 < 3 by decide)
   have c1 : wr.cell? ⟨b,o + i * 3 + 1,none⟩ = some (.slice ca cn cc) := hcc 1 (show 1 < 3 by decide)
   have c2 : wr.cell? ⟨b,o + i * 3 + 2,none⟩ = some (.slice xa xn xc) := hcc 2 (show 2 < 3 by decide)
   have HM : Hid (eqS T[i].name nm = false → ∀ j (hj : j < T.length),j < i + 1 → eqS T[j].name nm = false) := hid fun hn j hj hji => by
    by_cases hji' : j < i
    ·exact HI.out j hj hji'
    ·obtain rfl : j = i := by omega
     exact hn
   have HT : Hid (eqS T[i].name nm = true → R = some T[i]) := hid fun hn => HH.out i hlt HI.out hn
   have n1 := same_str T[i].name nm
   have hS : eqS T[i].name nm = decide (T[i].name = nm) := rfl
   generalize hti : T[i] = tt at *
   have HTi : Hid _ := hid hti
   clear hti
   obtain ⟨tnm,tcols,tix⟩ := tt
   dsimp only at *
   generalize eqS tnm nm = S at *
   have hic' : (i : Int) < (T.length : Int) := by omega
   have hi5 : i < 500 := by omega
   have HCo : Hid (∀ x0 x1 x2,RowIs eCol (fun _ => True) (((wr.setCell ⟨z,0,none⟩ x0).setCell ⟨z,1,none⟩ x1).setCell ⟨z,2,none⟩ x2) (.slice ca cn cc) tcols) := hid fun x0 x1 x2 => (hcol.keep (by decide) fun b' hb' _ => heapK3 (by have hb2 : b' < w.heap.size := hb'; omega)).mono (by decide) fun _ _ _ => trivial
   clear hcc hxi hx HI hcol
   by_cases hn1 : tnm = nm
   ·have g1 : (tnm.toList == nm.toList) = true := by rw [n1]; simpa using hn1
    obtain rfl : S = true := by rw [hS]; simpa using hn1
    have hr : Hid _ := hid (HT.out rfl)
    clear n1 hS HT HM hn1
    go_wp2
    refine bodyPost_ret (v := .tuple #[.agg #[.string tnm,.slice ca cn cc,.slice xa xn xc],.bool true]) (by simp [results,Tryz.results36,go_sem,z0,z1,z2]) rfl ⟨tnm,ca,cn,cc,xa,xn,xc,true,rfl,by rw [hr.out]; rfl,?_,(((Below.on hw hB).setCell (by show w.heap.size ≤ z; omega) _).setCell (by show w.heap.size ≤ z; omega) _).setCell (by show w.heap.size ≤ z; omega) _⟩
    intro t ht
    rw [hr.out] at ht
    cases ht
    exact ⟨rfl,HCo.out _ _ _⟩
   ·have g1 : (tnm.toList == nm.toList) = false := by rw [n1]; simpa using hn1
    obtain rfl : S = false := by rw [hS]; simpa using hn1
    clear n1 hS hn1 HT
    go_wp2
    go_roundw
    case rel => exact ⟨i + 1,by omega,by go_num,hid (HM.out rfl),hB⟩
    case measure => simp only [intOf]; omega
  ·obtain rfl : i = T.length := by omega
   have hr : Hid _ := hid (HN.out HI.out)
   clear HI HH HN HR
   go_wp2
   refine bodyPost_ret (v := .tuple #[.agg #[.string ⟨#[]⟩,.slice none 0 0,.slice none 0 0],.bool false]) (by simp [results,Tryz.results36,go_sem,z0,z1,z2]) rfl ⟨⟨#[]⟩,none,0,0,none,0,0,false,rfl,by rw [hr.out]; rfl,(fun t ht => by rw [hr.out] at ht; cases ht),(((Below.on hw hB).setCell (by show w.heap.size ≤ z; omega) _).setCell (by show w.heap.size ≤ z; omega) _).setCell (by show w.heap.size ≤ z; omega) _⟩

end Go.Proofs.YtljmlacnfnmjbaaGreat
