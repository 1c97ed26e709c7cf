import Derived.Test.YtljmlacnfnmjbaaGreatTmak
import Derived.Test.YtljmlacnfnmjbaaGreatTmac
namespace Go.Proofs.YtljmlacnfnmjbaaGreat
open Go.RowKit
set_option linter.unusedVariables false
set_option linter.unusedSimpArgs false

/-- Where the first such one stands; -1: there is none. -/
def fidx {α : Type} (p : α → Bool) (l : List α) : Int := if l.findIdx p < l.length then (l.findIdx p : Int) else -1
theorem fidx_hit {α : Type} {p : α → Bool} {l : List α} {k : Nat} (hk : k < l.length) (h : ∀ i (hi : i < l.length),i < k → p l[i] = false) (hp : p l[k] = true) : fidx p l = k := by
 have : l.findIdx p = k := (List.findIdx_eq hk).2 ⟨hp,fun j hj => by simpa using h j (by omega) hj⟩
 rw [fidx,this,if_pos hk]
theorem fidx_none {α : Type} {p : α → Bool} {l : List α} (h : ∀ i (hi : i < l.length),p l[i] = false) : fidx p l = -1 := by
 have : l.findIdx p = l.length := List.findIdx_eq_length.2 fun x hx => by
  obtain ⟨i,hi,rfl⟩ := List.mem_iff_getElem.1 hx
  simpa using h i hi
 rw [fidx,this,if_neg (Nat.lt_irrefl _)]
theorem fidx_vals {α : Type} (p : α → Bool) (l : List α) : fidx p l = -1 ∨ ∃ k : Nat,fidx p l = k ∧ k < l.length := by
 unfold fidx
 split
 ·exact .inr ⟨_,rfl,by assumption⟩
 ·exact .inl rfl
/-- A function value that answers p of a thing in memory. -/
def SuchZ {α : Type} (e : Ek α) (p : α → Bool) (w : World) (v : Value) : Prop := ∃ N caps,v = .func (.func N) #[] caps ∧ (∀ args w',(callFunc N args).run Tryz.prog w' = .ok (.enter N args) w') ∧ ∀ (x : α) (Q : Nat → Prop) (cs : List Value) (w' : World),Below w.heap.size w w' → e.E Q w' x cs → Calls Tryz.prog N (#[.agg cs.toArray] ++ caps) w' fun en w'' => en = .returned (.bool (p x)) ∧ Below w'.heap.size w' w''
/-- A function that tells a name. -/
def NameZ {α : Type} (e : Ek α) (nm : α → ByteArray) (N : Nat) : Prop := (∀ args w',(callFunc N args).run Tryz.prog w' = .ok (.enter N args) w') ∧ ∀ (x : α) (Q : Nat → Prop) (cs : List Value) (w : World),e.E Q w x cs → Calls Tryz.prog N #[.agg cs.toArray] w fun en w' => en = .returned (.string (nm x)) ∧ Below w.heap.size w w'

set_option maxRecDepth 100000 in
set_option maxHeartbeats 2000000 in
theorem idxCol_any {l : List Co} {p : Co → Bool} (hlen : l.length ≤ 500) {Q : Nat → Prop} {w : World} {ao : Option Addr} {n c : Nat} (h : RowIs eCol Q w (.slice ao n c) l) {v : Value} (hv : SuchZ eCol p w v) :
  Calls Tryz.prog 132 #[.slice ao n c,v] w fun en w' => en = .returned (.int .i64 (fidx p l)) ∧ Below w.heap.size w w' := by
 have HR : Hid (∀ w',Below w.heap.size w w' → RowIs eCol Q w' (.slice ao n c) l) := hid fun w' hb => h.keep (by decide) fun b _ hl => hb.block b hl
 obtain ⟨N,caps,rfl,hcf,hN⟩ := hv
 have HN : Hid (∀ (x : Co) (Q : Nat → Prop) (cs : List Value) (w' : World),Below w.heap.size w w' → _) := hid hN
 obtain ⟨ao',n',c',e',hn,hnc,hc,_⟩ := h
 cases e'
 subst hn
 obtain ⟨R,hR⟩ : ∃ R,fidx p l = R := ⟨_,rfl⟩
 have HF : Hid _ := hid hR
 rw [hR]
 clear hN hR
 go_enter Tryz.func132,Tryz.ntmps132
 go_wp2
 go_loopw [5,8] (fun _ v8 wr => ∃ k : Nat,k ≤ l.length ∧ v8 = .int .i64 k ∧ Below w.heap.size w wr ∧ Hid (∀ i (hi : i < l.length),i < k → p l[i] = false)) (fun _ i _ => l.length - (intOf i).toNat)
 case atStart => exact ⟨0,Nat.zero_le _,rfl,Below.refl _ _,hid fun i h hi => absurd hi (by omega)⟩
 case round =>
  obtain ⟨k,hk,rfl,hB,HE⟩ := hrel
  by_cases hlt : k < l.length
  ·obtain ⟨_,_,_,e',_,_,_,hx⟩ := HR.out wr hB
   cases e'
   obtain ⟨b,o,rfl,hq,hi⟩ := hx (by omega)
   obtain ⟨cs,hEx,h2,h3⟩ := hi k hlt
   obtain ⟨x,hxl⟩ : ∃ x,l[k] = x := ⟨_,rfl⟩
   rw [hxl] at hEx
   have hEx' := hEx
   obtain rfl := hEx'
   have c0 : wr.cell? ⟨b,o + k * 3,none⟩ = some (.string x.1) := h3 0 (show 0 < 3 by decide)
   have c1 : wr.cell? ⟨b,o + k * 3 + 1,none⟩ = some (.int .i64 x.2.1) := h3 1 (show 1 < 3 by decide)
   have c2 : wr.cell? ⟨b,o + k * 3 + 2,none⟩ = some (.string x.2.2) := h3 2 (show 2 < 3 by decide)
   have HX := HN.out x _ _ wr hB hEx
   have hkm : (k : Int) < (l.length : Int) := by omega
   have hk5 : k ≤ 500 := by omega
   have HXl : Hid _ := hid hxl
   clear hEx h2 h3 hi hx hxl
   cases hp : p x with
   | true =>
    rw [hp] at HX
    have HP : Hid (fidx p l = k) := hid (fidx_hit hlt HE.out (by rw [HXl.out]; exact hp))
    replace HX : Hid _ := hid HX
    clear hp
    go_wp2_with fail
    refine Calls.mono HX.out ?_
    rintro e w4 ⟨rfl,hb4⟩
    have hB4 : Below w.heap.size w w4 := Below.on hB hb4
    clear HX hb4 hB
    go_wp2
    go_ret
    exact ⟨ret_int (by rw [← HF.out,HP.out]),hB4⟩
   | false =>
    rw [hp] at HX
    have HN2 : Hid (∀ i (hi : i < l.length),i < k + 1 → p l[i] = false) := hid fun i hi hik => by
     by_cases he : i < k
     ·exact HE.out i hi he
     ·obtain rfl : i = k := by omega
      rw [HXl.out]; exact hp
    replace HX : Hid _ := hid HX
    clear hp HE
    go_wp2_with fail
    refine Calls.mono HX.out ?_
    rintro e w4 ⟨rfl,hb4⟩
    have hB4 : Below w.heap.size w w4 := Below.on hB hb4
    clear HX hb4 hB
    go_wp2
    go_roundw
    case rel => exact ⟨k + 1,hlt,by go_num,hB4,HN2⟩
    case measure => simp only [intOf]; omega
  ·obtain rfl : k = l.length := by omega
   have HP : Hid (fidx p l = -1) := hid (fidx_none fun i hi => HE.out i hi hi)
   clear HE
   go_wp2
   go_ret
   exact ⟨ret_int (by rw [← HF.out,HP.out]),hB⟩


set_option maxRecDepth 100000 in
set_option maxHeartbeats 2000000 in
theorem idxTbl_any {l : List Tbl} {p : Tbl → Bool} (hlen : l.length ≤ 500) {Q : Nat → Prop} {w : World} {ao : Option Addr} {n c : Nat} (h : RowIs eTbl Q w (.slice ao n c) l) {v : Value} (hv : SuchZ eTbl p w v) :
  Calls Tryz.prog 129 #[.slice ao n c,v] w fun en w' => en = .returned (.int .i64 (fidx p l)) ∧ Below w.heap.size w w' := by
 have HR : Hid (∀ w',Below w.heap.size w w' → RowIs eTbl Q w' (.slice ao n c) l) := hid fun w' hb => h.keep (by decide) fun b _ hl => hb.block b hl
 obtain ⟨N,caps,rfl,hcf,hN⟩ := hv
 have HN : Hid (∀ (x : Tbl) (Q : Nat → Prop) (cs : List Value) (w' : World),Below w.heap.size w w' → _) := hid hN
 obtain ⟨ao',n',c',e',hn,hnc,hc,_⟩ := h
 cases e'
 subst hn
 obtain ⟨R,hR⟩ : ∃ R,fidx p l = R := ⟨_,rfl⟩
 have HF : Hid _ := hid hR
 rw [hR]
 clear hN hR
 go_enter Tryz.func129,Tryz.ntmps129
 go_wp2
 go_loopw [5,8] (fun _ v8 wr => ∃ k : Nat,k ≤ l.length ∧ v8 = .int .i64 k ∧ Below w.heap.size w wr ∧ Hid (∀ i (hi : i < l.length),i < k → p l[i] = false)) (fun _ i _ => l.length - (intOf i).toNat)
 case atStart => exact ⟨0,Nat.zero_le _,rfl,Below.refl _ _,hid fun i h hi => absurd hi (by omega)⟩
 case round =>
  obtain ⟨k,hk,rfl,hB,HE⟩ := hrel
  by_cases hlt : k < l.length
  ·obtain ⟨_,_,_,e',_,_,_,hx⟩ := HR.out wr hB
   cases e'
   obtain ⟨b,o,rfl,hq,hi⟩ := hx (by omega)
   obtain ⟨cs,hEx,h2,h3⟩ := hi k hlt
   obtain ⟨x,hxl⟩ : ∃ x,l[k] = x := ⟨_,rfl⟩
   rw [hxl] at hEx
   have hEx' := hEx
   obtain ⟨ea,en,ec,ea',en',ec',rfl,er1,er2⟩ := hEx'
   have c0 : wr.cell? ⟨b,o + k * 3,none⟩ = some (.string x.name) := h3 0 (show 0 < 3 by decide)
   have c1 : wr.cell? ⟨b,o + k * 3 + 1,none⟩ = some (.slice ea en ec) := h3 1 (show 1 < 3 by decide)
   have c2 : wr.cell? ⟨b,o + k * 3 + 2,none⟩ = some (.slice ea' en' ec') := h3 2 (show 2 < 3 by decide)
   have HX := HN.out x _ _ wr hB hEx
   have hkm : (k : Int) < (l.length : Int) := by omega
   have hk5 : k ≤ 500 := by omega
   have HXl : Hid _ := hid hxl
   clear hEx h2 h3 hi hx hxl er1 er2
   cases hp : p x with
   | true =>
    rw [hp] at HX
    have HP : Hid (fidx p l = k) := hid (fidx_hit hlt HE.out (by rw [HXl.out]; exact hp))
    replace HX : Hid _ := hid HX
    clear hp
    go_wp2_with fail
    refine Calls.mono HX.out ?_
    rintro e w4 ⟨rfl,hb4⟩
    have hB4 : Below w.heap.size w w4 := Below.on hB hb4
    clear HX hb4 hB
    go_wp2
    go_ret
    exact ⟨ret_int (by rw [← HF.out,HP.out]),hB4⟩
   | false =>
    rw [hp] at HX
    have HN2 : Hid (∀ i (hi : i < l.length),i < k + 1 → p l[i] = false) := hid fun i hi hik => by
     by_cases he : i < k
     ·exact HE.out i hi he
     ·obtain rfl : i = k := by omega
      rw [HXl.out]; exact hp
    replace HX : Hid _ := hid HX
    clear hp HE
    go_wp2_with fail
    refine Calls.mono HX.out ?_
    rintro e w4 ⟨rfl,hb4⟩
    have hB4 : Below w.heap.size w w4 := Below.on hB hb4
    clear HX hb4 hB
    go_wp2
    go_roundw
    case rel => exact ⟨k + 1,hlt,by go_num,hB4,HN2⟩
    case measure => simp only [intOf]; omega
  ·obtain rfl : k = l.length := by omega
   have HP : Hid (fidx p l = -1) := hid (fidx_none fun i hi => HE.out i hi hi)
   clear HE
   go_wp2
   go_ret
   exact ⟨ret_int (by rw [← HF.out,HP.out]),hB⟩


set_option maxRecDepth 100000 in
set_option maxHeartbeats 2000000 in
theorem idxVw_any {l : List Vw} {p : Vw → Bool} (hlen : l.length ≤ 500) {Q : Nat → Prop} {w : World} {ao : Option Addr} {n c : Nat} (h : RowIs eVw Q w (.slice ao n c) l) {v : Value} (hv : SuchZ eVw p w v) :
  Calls Tryz.prog 136 #[.slice ao n c,v] w fun en w' => en = .returned (.int .i64 (fidx p l)) ∧ Below w.heap.size w w' := by
 have HR : Hid (∀ w',Below w.heap.size w w' → RowIs eVw Q w' (.slice ao n c) l) := hid fun w' hb => h.keep (by decide) fun b _ hl => hb.block b hl
 obtain ⟨N,caps,rfl,hcf,hN⟩ := hv
 have HN : Hid (∀ (x : Vw) (Q : Nat → Prop) (cs : List Value) (w' : World),Below w.heap.size w w' → _) := hid hN
 obtain ⟨ao',n',c',e',hn,hnc,hc,_⟩ := h
 cases e'
 subst hn
 obtain ⟨R,hR⟩ : ∃ R,fidx p l = R := ⟨_,rfl⟩
 have HF : Hid _ := hid hR
 rw [hR]
 clear hN hR
 go_enter Tryz.func136,Tryz.ntmps136
 go_wp2
 go_loopw [5,8] (fun _ v8 wr => ∃ k : Nat,k ≤ l.length ∧ v8 = .int .i64 k ∧ Below w.heap.size w wr ∧ Hid (∀ i (hi : i < l.length),i < k → p l[i] = false)) (fun _ i _ => l.length - (intOf i).toNat)
 case atStart => exact ⟨0,Nat.zero_le _,rfl,Below.refl _ _,hid fun i h hi => absurd hi (by omega)⟩
 case round =>
  obtain ⟨k,hk,rfl,hB,HE⟩ := hrel
  by_cases hlt : k < l.length
  ·obtain ⟨_,_,_,e',_,_,_,hx⟩ := HR.out wr hB
   cases e'
   obtain ⟨b,o,rfl,hq,hi⟩ := hx (by omega)
   obtain ⟨cs,hEx,h2,h3⟩ := hi k hlt
   obtain ⟨x,hxl⟩ : ∃ x,l[k] = x := ⟨_,rfl⟩
   rw [hxl] at hEx
   have hEx' := hEx
   obtain ⟨ea,en,ec,⟨ek,etb,enm,⟨eco1,eco2,eco3⟩,⟨eta1,eta2,eta3⟩,⟨eva1,eva2,eva3⟩,⟨eit1,eit2,eit3⟩,ejn,⟨eon1,eon2,eon3⟩,⟨ewh1,ewh2,ewh3⟩,⟨eod1,eod2,eod3⟩,eds,⟨ein1,ein2,ein3⟩⟩,rfl,er1,er2,er3⟩ := hEx'
   have c0 : wr.cell? ⟨b,o + k * 15,none⟩ = some (.string x.name) := h3 0 (show 0 < 15 by decide)
   have c1 : wr.cell? ⟨b,o + k * 15 + 1,none⟩ = some (.slice ea en ec) := h3 1 (show 1 < 15 by decide)
   have c2 : wr.cell? ⟨b,o + k * 15 + 2,none⟩ = some (.int .i64 ek) := h3 2 (show 2 < 15 by decide)
   have c3 : wr.cell? ⟨b,o + k * 15 + 3,none⟩ = some (.string etb) := h3 3 (show 3 < 15 by decide)
   have c4 : wr.cell? ⟨b,o + k * 15 + 4,none⟩ = some (.string enm) := h3 4 (show 4 < 15 by decide)
   have c5 : wr.cell? ⟨b,o + k * 15 + 5,none⟩ = some (.slice eco1 eco2 eco3) := h3 5 (show 5 < 15 by decide)
   have c6 : wr.cell? ⟨b,o + k * 15 + 6,none⟩ = some (.slice eta1 eta2 eta3) := h3 6 (show 6 < 15 by decide)
   have c7 : wr.cell? ⟨b,o + k * 15 + 7,none⟩ = some (.slice eva1 eva2 eva3) := h3 7 (show 7 < 15 by decide)
   have c8 : wr.cell? ⟨b,o + k * 15 + 8,none⟩ = some (.slice eit1 eit2 eit3) := h3 8 (show 8 < 15 by decide)
   have c9 : wr.cell? ⟨b,o + k * 15 + 9,none⟩ = some (.string ejn) := h3 9 (show 9 < 15 by decide)
   have c10 : wr.cell? ⟨b,o + k * 15 + 10,none⟩ = some (.slice eon1 eon2 eon3) := h3 10 (show 10 < 15 by decide)
   have c11 : wr.cell? ⟨b,o + k * 15 + 11,none⟩ = some (.slice ewh1 ewh2 ewh3) := h3 11 (show 11 < 15 by decide)
   have c12 : wr.cell? ⟨b,o + k * 15 + 12,none⟩ = some (.slice eod1 eod2 eod3) := h3 12 (show 12 < 15 by decide)
   have c13 : wr.cell? ⟨b,o + k * 15 + 13,none⟩ = some (.bool eds) := h3 13 (show 13 < 15 by decide)
   have c14 : wr.cell? ⟨b,o + k * 15 + 14,none⟩ = some (.slice ein1 ein2 ein3) := h3 14 (show 14 < 15 by decide)
   have HX := HN.out x _ _ wr hB hEx
   have hkm : (k : Int) < (l.length : Int) := by omega
   have hk5 : k ≤ 500 := by omega
   have HXl : Hid _ := hid hxl
   clear hEx h2 h3 hi hx hxl er1 er2 er3
   cases hp : p x with
   | true =>
    rw [hp] at HX
    have HP : Hid (fidx p l = k) := hid (fidx_hit hlt HE.out (by rw [HXl.out]; exact hp))
    replace HX : Hid _ := hid HX
    clear hp
    go_wp2_with fail
    refine Calls.mono HX.out ?_
    rintro e w4 ⟨rfl,hb4⟩
    have hB4 : Below w.heap.size w w4 := Below.on hB hb4
    clear HX hb4 hB
    go_wp2
    go_ret
    exact ⟨ret_int (by rw [← HF.out,HP.out]),hB4⟩
   | false =>
    rw [hp] at HX
    have HN2 : Hid (∀ i (hi : i < l.length),i < k + 1 → p l[i] = false) := hid fun i hi hik => by
     by_cases he : i < k
     ·exact HE.out i hi he
     ·obtain rfl : i = k := by omega
      rw [HXl.out]; exact hp
    replace HX : Hid _ := hid HX
    clear hp HE
    go_wp2_with fail
    refine Calls.mono HX.out ?_
    rintro e w4 ⟨rfl,hb4⟩
    have hB4 : Below w.heap.size w w4 := Below.on hB hb4
    clear HX hb4 hB
    go_wp2
    go_roundw
    case rel => exact ⟨k + 1,hlt,by go_num,hB4,HN2⟩
    case measure => simp only [intOf]; omega
  ·obtain rfl : k = l.length := by omega
   have HP : Hid (fidx p l = -1) := hid (fidx_none fun i hi => HE.out i hi hi)
   clear HE
   go_wp2
   go_ret
   exact ⟨ret_int (by rw [← HF.out,HP.out]),hB⟩


end Go.Proofs.YtljmlacnfnmjbaaGreat
namespace Go.Proofs.YtljmlacnfnmjbaaGreat
open Go.RowKit
set_option linter.unusedVariables false
set_option linter.unusedSimpArgs false

/-- An expression without what stands in it: its way and its other fields. -/
abbrev Pg := Int × Pay
/-- Rows of expressions: the first one,what stands in it,those behind it. -/
abbrev Tg := Go.Deep.BT Pg
def toL : Tg → List (Pg × Tg)
 | .nil => []
 | .node _ _ p l r => (p,l) :: toL r
/-- The row's expressions lie from place o on in block b. -/
def FoG (Q : Nat → Prop) (w : World) : Tg → Nat → Nat → Prop
 | .nil,_,_ => True
 | .node _ _ p l r,b,o => (∃ ao n c,Ce w b o p.1 p.2 (.slice ao n c) ∧ (toL l).length = n ∧ n ≤ c ∧ c ≤ 9223372036854775807 ∧ (0 < n → ∃ b' o',ao = some ⟨b',o',none⟩ ∧ Q b' ∧ FoG Q w l b' o')) ∧ FoG Q w r b (o + 7)
theorem FoG.keep {Q : Nat → Prop} {w w' : World} (hk : ∀ k,Q k → k < w.heap.size → w'.heap[k]? = w.heap[k]?) : ∀ {f : Tg} {b o : Nat},Q b → FoG Q w f b o → FoG Q w' f b o := by
 intro f
 induction f with
 | nil => intro b o _ _; trivial
 | node x y p l r ihl ihr =>
  rintro b o hb ⟨⟨ao,n,c,h1,h2,h3,h4,h5⟩,h6⟩
  refine ⟨⟨ao,n,c,h1.keep (hk b hb h1.lt),h2,h3,h4,fun hn => ?_⟩,ihr hb h6⟩
  obtain ⟨b',o',e,hq,hf⟩ := h5 hn
  exact ⟨b',o',e,hq,ihl hq hf⟩
theorem FoG.lt {Q : Nat → Prop} {w : World} {f : Tg} {b o : Nat} (h : FoG Q w f b o) (hn : 0 < (toL f).length) : b < w.heap.size := by
 cases f with
 | nil => simp [toL] at hn
 | node _ _ q l' r' =>
  obtain ⟨⟨_,_,_,hc,_⟩,_⟩ := h
  exact hc.lt
theorem FoG.mono {Q Q' : Nat → Prop} {w : World} (hk : ∀ k,Q k → k < w.heap.size → Q' k) : ∀ {f : Tg} {b o : Nat},FoG Q w f b o → FoG Q' w f b o := by
 intro f
 induction f with
 | nil => intro b o _; trivial
 | node x y p l r ihl ihr =>
  rintro b o ⟨⟨ao,n,c,h1,h2,h3,h4,h5⟩,h6⟩
  refine ⟨⟨ao,n,c,h1,h2,h3,h4,fun hn => ?_⟩,ihr h6⟩
  obtain ⟨b',o',e,hq,hf⟩ := h5 hn
  exact ⟨b',o',e,hk b' hq (FoG.lt hf (by omega)),ihl hf⟩
/-- A slice of expressions that reads as the row. -/
def SlF (Q : Nat → Prop) (w : World) (ao : Option Addr) (n c : Nat) (f : Tg) : Prop := (toL f).length = n ∧ n ≤ c ∧ c ≤ 9223372036854775807 ∧ (0 < n → ∃ b o,ao = some ⟨b,o,none⟩ ∧ Q b ∧ FoG Q w f b o)
/-- An expression of any form. -/
def eG : Ek (Pg × Tg) := ⟨7,fun Q w t cs => ∃ a n c,cs = exC t.1.1 t.1.2 (.slice a n c) ∧ SlF Q w a n c t.2,
 fun hk ⟨a,n,c,h1,h2,h3,h4,h5⟩ => ⟨a,n,c,h1,h2,h3,h4,fun hn => by
  obtain ⟨b,o,e,hq,hf⟩ := h5 hn
  exact ⟨b,o,e,hq,FoG.keep hk hq hf⟩⟩,
 fun hk ⟨a,n,c,h1,h2,h3,h4,h5⟩ => ⟨a,n,c,h1,h2,h3,h4,fun hn => by
  obtain ⟨b,o,e,hq,hf⟩ := h5 hn
  exact ⟨b,o,e,hk b hq (FoG.lt hf (by omega)),FoG.mono hk hf⟩⟩⟩
theorem FoG.at {Q : Nat → Prop} {w : World} : ∀ {f : Tg} {b o : Nat},FoG Q w f b o → ∀ i (h : i < (toL f).length),∃ cs,eG.E Q w (toL f)[i] cs ∧ cs.length = 7 ∧ ∀ j (hj : j < cs.length),w.cell? ⟨b,o + i * 7 + j,none⟩ = some cs[j] := by
 intro f
 induction f with
 | nil => intro b o _ i h; simp [toL] at h
 | node x y p l r ihl ihr =>
  rintro b o ⟨⟨ao,n,c,h1,h2,h3,h4,h5⟩,h6⟩ i h
  cases i with
  | zero =>
   refine ⟨exC p.1 p.2 (.slice ao n c),⟨ao,n,c,rfl,h2,h3,h4,h5⟩,rfl,fun j hj => ?_⟩
   obtain ⟨c0,c1,c2,c3,c4,c5,c6⟩ := h1
   have hj' : j < 7 := hj
   rw [show o + 0 * 7 + j = o + j from by omega]
   match j,hj' with
   | 0,_ => exact c0
   | 1,_ => exact c1
   | 2,_ => exact c2
   | 3,_ => exact c3
   | 4,_ => exact c4
   | 5,_ => exact c5
   | 6,_ => exact c6
  | succ i =>
   obtain ⟨cs,g1,g2,g3⟩ := ihr h6 i (by simpa [toL] using h)
   refine ⟨cs,by simpa [toL] using g1,g2,fun j hj => ?_⟩
   rw [show o + (i + 1) * 7 + j = o + 7 + i * 7 + j from by omega]
   exact g3 j hj
theorem SlF.row {Q : Nat → Prop} {w : World} {ao : Option Addr} {n c : Nat} {f : Tg} (h : SlF Q w ao n c f) : RowIs eG Q w (.slice ao n c) (toL f) := by
 obtain ⟨h1,h2,h3,h4⟩ := h
 refine ⟨ao,n,c,rfl,h1,h2,h3,fun hn => ?_⟩
 obtain ⟨b,o,e,hq,hf⟩ := h4 hn
 exact ⟨b,o,e,hq,fun i hi => hf.at i hi⟩
/-- A statement's expression,of any form. -/
def gT : Tr → Tg → Tg
 | .nil,s => s
 | .node _ op p l r,s => .node 0 0 ((op : Int),p) (gT l (gT r .nil)) s
def gP : Tr → Pg × Tg
 | .nil => ((0,0,0,⟨#[]⟩,⟨#[]⟩,⟨#[]⟩),.nil)
 | .node _ op p l r => (((op : Int),p),gT l (gT r .nil))
theorem gT_cons {t : Tr} (h : noT t = false) (s : Tg) : toL (gT t s) = gP t :: toL s := by
 cases t with
 | nil => cases h
 | node => rfl
theorem gT_nil {t : Tr} (h : noT t = true) (s : Tg) : gT t s = s := by
 cases t with
 | nil => rfl
 | node => cases h
theorem Ex.fo {Q : Nat → Prop} {w : World} : ∀ {t : Tr} {op1 : Int} {p1 : Pay} {a1 : Option Addr} {n1 c1 : Nat} {b o : Nat} {s : Tg},Ex Q w t (exV op1 p1 (.slice a1 n1 c1)) → Ce w b o op1 p1 (.slice a1 n1 c1) → FoG Q w s b (o + 7) → FoG Q w (gT t s) b o := by
 intro t
 induction t with
 | nil => intro _ _ _ _ _ _ _ _ h; exact h.elim
 | node x op p l r ihl ihr =>
  rintro op1 p1 a1 n1 c1 b o s ⟨ao,n,c,hv,hn,hc,h⟩ hce hs
  simp only [exV,Value.agg.injEq] at hv
  obtain ⟨k1,k2,k3,k4,k5⟩ := p
  obtain ⟨m1,m2,m3,m4,m5⟩ := p1
  simp only [Array.mk.injEq,List.cons.injEq,Value.int.injEq,Value.string.injEq,Value.slice.injEq,true_and,and_true] at hv
  obtain ⟨rfl,rfl,rfl,rfl,rfl,rfl,rfl,rfl,rfl⟩ := hv
  refine ⟨⟨a1,n1,c1,hce,?_,hn,hc,fun h0 => ?_⟩,hs⟩
  ·rcases h with ⟨h1,h2,h3⟩ | ⟨h1,h2,h3,_⟩ | ⟨h1,h2,h3,_⟩
   ·rw [gT_nil h1,gT_nil h2,h3]; rfl
   ·rw [gT_cons h1,gT_nil h2,h3]; rfl
   ·rw [gT_cons h1,gT_cons h2,h3]; rfl
  ·rcases h with ⟨h1,h2,h3⟩ | ⟨h1,h2,h3,b',o',op1',p1',a1',n1',c1',ha,hq,hx,hl⟩ | ⟨h1,h2,h3,b',o',op1',p1',a1',n1',c1',op2,p2,a2,n2,c2,ha,hq,hx,hy,hl,hr⟩
   ·omega
   ·rw [gT_nil h2]
    exact ⟨b',o',ha,hq,ihl hl hx trivial⟩
   ·exact ⟨b',o',ha,hq,ihl hl hx (ihr hr hy trivial)⟩
theorem Ex.g {Q : Nat → Prop} {w : World} {t : Tr} {op : Int} {p : Pay} {a : Option Addr} {n c : Nat} (h : Ex Q w t (exV op p (.slice a n c))) : eG.E Q w (gP t) (exC op p (.slice a n c)) := by
 cases t with
 | nil => exact h.elim
 | node x op' p' l r =>
  obtain ⟨ao,n',c',hv,hn,hc,h⟩ := h
  simp only [exV,Value.agg.injEq] at hv
  obtain ⟨k1,k2,k3,k4,k5⟩ := p
  obtain ⟨m1,m2,m3,m4,m5⟩ := p'
  simp only [Array.mk.injEq,List.cons.injEq,Value.int.injEq,Value.string.injEq,Value.slice.injEq,true_and,and_true] at hv
  obtain ⟨rfl,rfl,rfl,rfl,rfl,rfl,rfl,rfl,rfl⟩ := hv
  refine ⟨a,n,c,rfl,?_,hn,hc,fun h0 => ?_⟩
  ·rcases h with ⟨h1,h2,h3⟩ | ⟨h1,h2,h3,_⟩ | ⟨h1,h2,h3,_⟩
   ·show (toL (gT l (gT r .nil))).length = n
    rw [gT_nil h1,gT_nil h2,h3]; rfl
   ·show (toL (gT l (gT r .nil))).length = n
    rw [gT_cons h1,gT_nil h2,h3]; rfl
   ·show (toL (gT l (gT r .nil))).length = n
    rw [gT_cons h1,gT_cons h2,h3]; rfl
  ·rcases h with ⟨h1,h2,h3⟩ | ⟨h1,h2,h3,b',o',op1',p1',a1',n1',c1',ha,hq,hx,hl⟩ | ⟨h1,h2,h3,b',o',op1',p1',a1',n1',c1',op2,p2,a2,n2,c2,ha,hq,hx,hy,hl,hr⟩
   ·omega
   ·refine ⟨b',o',ha,hq,?_⟩
    show FoG Q w (gT l (gT r .nil)) b' o'
    rw [gT_nil h2]
    exact Ex.fo hl hx trivial
   ·exact ⟨b',o',ha,hq,Ex.fo hl hx (Ex.fo hr hy trivial)⟩
theorem row_g {Q : Nat → Prop} {w : World} {v : Value} {l : List Tr} (h : RowIs eExpr Q w v l) : RowIs eG Q w v (l.map gP) := by
 obtain ⟨ao,n,c,e,h1,h2,h3,h4⟩ := h
 refine ⟨ao,n,c,e,by simpa using h1,h2,h3,fun hn => ?_⟩
 obtain ⟨b,o,ea,hq,hi⟩ := h4 hn
 refine ⟨b,o,ea,hq,fun i hi' => ?_⟩
 obtain ⟨cs,⟨op,p,a',n',c',e',hx⟩,hl,hc⟩ := hi i (by simpa using hi')
 refine ⟨cs,?_,hl,hc⟩
 rw [List.getElem_map,e']
 exact Ex.g hx

/-- The columns that an expression may name: table,name,kind. -/
abbrev Cl3 := ByteArray × ByteArray × Int
def eClm : Ek Cl3 := ⟨3,fun _ _ c cs => cs = [.string c.1,.string c.2.1,.int .i64 c.2.2],fun _ h => h,fun _ h => h⟩
/-- Is it the column of that name? -/
def clmIs (tb nm : ByteArray) (c : Cl3) : Bool := eqS c.2.1 nm && (eqS tb ⟨#[]⟩ || eqS c.1 tb)
def clmK (S : List Cl3) (tb nm : ByteArray) : Int × Int :=
 match S.filter (clmIs tb nm) with
 | [c] => (c.2.2,0)
 | _ => (0,10)
/-- What a way asks of its parts: how many,of which kinds,and what it makes of them. -/
def wayA (op : Int) : Option (Int × List Int × Int) :=
 if op = 1 then some (0,[],0) else if op = 2 then some (0,[],0) else if op = 3 then some (1,[1],1) else if op = 4 then some (1,[3],3)
 else if op = 5 then some (2,[1],1) else if op = 6 then some (2,[1],1) else if op = 7 then some (2,[1],1)
 else if op = 8 then some (2,[1,2],3) else if op = 9 then some (2,[1,2],3) else if op = 10 then some (2,[1,2],3) else if op = 11 then some (2,[1,2],3) else if op = 12 then some (2,[1,2],3) else if op = 13 then some (2,[1,2],3)
 else if op = 14 then some (2,[3],3) else if op = 15 then some (2,[3],3) else none
def alikeP (l : List Int) : Bool := l.all fun x => x == l.headD 0
def takesP (f : List Int) (l : List Int) : Bool := alikeP l && l.all fun k => f.contains k
/-- The first error of a list. -/
def erL : List Int → Int
 | [] => 0
 | e :: l => if e = 0 then erL l else e
def kd1 (S : List Cl3) (p : Pg) (ks : List (Int × Int)) : Int × Int :=
 match wayA p.1 with
 | none => (0,1)
 | some v =>
  if (ks.length : Int) ≠ v.1 then (0,1)
  else if p.1 = 1 then (p.2.1,0)
  else if p.1 = 2 then clmK S p.2.2.2.2.1 p.2.2.2.2.2
  else if erL (ks.map (·.2)) ≠ 0 then (0,erL (ks.map (·.2)))
  else if takesP v.2.1 (ks.map (·.1)) then (v.2.2,0) else (0,11)
def kds (S : List Cl3) : Tg → List (Int × Int)
 | .nil => []
 | .node _ _ p l r => kd1 S p (kds S l) :: kds S r
def kdT (S : List Cl3) (t : Pg × Tg) : Int × Int := kd1 S t.1 (kds S t.2)
theorem kds_map (S : List Cl3) : ∀ f : Tg,kds S f = (toL f).map (kdT S) := by
 intro f
 induction f with
 | nil => rfl
 | node x y p l r ihl ihr => rw [kds,toL,List.map_cons,← ihr]; rfl
/-- The first error ahead of place n. -/
def erO (er : Nat → Int) (n : Nat) : Int := erL ((List.range n).map er)
theorem erL_app (l m : List Int) : erL (l ++ m) = if erL l = 0 then erL m else erL l := by
 induction l with
 | nil => rfl
 | cons x l ih =>
  rw [List.cons_append,erL,erL]
  split
  ·exact ih
  ·rfl
theorem erO_succ (er : Nat → Int) (n : Nat) : erO er (n + 1) = if erO er n = 0 then er n else erO er n := by
 rw [erO,List.range_succ,List.map_append,erL_app]
 by_cases h : erL ((List.range n).map er) = 0
 ·rw [if_pos h,if_pos (show erO er n = 0 from h)]
  show (if er n = 0 then 0 else er n) = er n
  split
  ·exact Eq.symm (by assumption)
  ·rfl
 ·rw [if_neg h,if_neg (show ¬ erO er n = 0 from h)]; rfl
theorem erO_stop {er : Nat → Int} {k n : Nat} (hk : k < n) (h0 : erO er k = 0) (he : er k ≠ 0) : erO er n = er k := by
 induction n with
 | zero => omega
 | succ n ih =>
  rw [erO_succ]
  by_cases h : k = n
  ·subst h; rw [if_pos h0]
  ·rw [ih (by omega),if_neg he]
theorem erO_list {l : List Int} {er : Nat → Int} (h : ∀ i (hi : i < l.length),er i = l[i]) : erO er l.length = erL l := by
 have : (List.range l.length).map er = l := by
  apply List.ext_getElem
  ·simp
  ·intro i h1 h2
   rw [List.getElem_map,List.getElem_range,h i h2]
 rw [erO,this]

end Go.Proofs.YtljmlacnfnmjbaaGreat
