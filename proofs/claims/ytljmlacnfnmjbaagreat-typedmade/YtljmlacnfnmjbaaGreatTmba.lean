import Derived.Test.YtljmlacnfnmjbaaGreatTmaz
import Derived.Test.YtljmlacnfnmjbaaGreatTmbc
import Derived.Test.YtljmlacnfnmjbaaGreatTmat
import Derived.Test.YtljmlacnfnmjbaaGreatTmar
namespace Go.Proofs.YtljmlacnfnmjbaaGreat
open Go.RowKit
set_option linter.unusedVariables false
set_option linter.unusedSimpArgs false

/-- Is it the column of that name? -/
def itIs (tb nm : ByteArray) (c : It) : Bool := eqS c.2.2 nm && (eqS tb ⟨#[]⟩ || eqS tb c.2.1)
/-- Ahead of place i: none is it; or the one at k alone. -/
def AtI (C : List It) (tb nm : ByteArray) (i : Nat) (k : Int) : Prop := (k = -1 ∧ ∀ j (hj : j < C.length),j < i → itIs tb nm C[j] = false) ∨ ∃ q : Nat,k = q ∧ q < i ∧ (∃ hq : q < C.length,itIs tb nm C[q] = true) ∧ ∀ j (hj : j < C.length),j < i → j ≠ q → itIs tb nm C[j] = false
theorem AtI.miss {C : List It} {tb nm : ByteArray} {i : Nat} {k : Int} (h : AtI C tb nm i k) (hi : i < C.length) (hn : itIs tb nm C[i] = false) : AtI C tb nm (i + 1) k := by
 rcases h with ⟨rfl,h⟩ | ⟨q,rfl,hq,hx,h⟩
 ·refine .inl ⟨rfl,fun j hj hji => ?_⟩
  by_cases e : j = i
  ·subst e; exact hn
  ·exact h j hj (by omega)
 ·refine .inr ⟨q,rfl,by omega,hx,fun j hj hji hne => ?_⟩
  by_cases e : j = i
  ·subst e; exact hn
  ·exact h j hj (by omega) hne
theorem AtI.hit {C : List It} {tb nm : ByteArray} {i : Nat} {k : Int} (h : AtI C tb nm i k) (hk : k < 0) (hi : i < C.length) (hn : itIs tb nm C[i] = true) : AtI C tb nm (i + 1) i := by
 rcases h with ⟨rfl,h⟩ | ⟨q,rfl,hq,hx,h⟩
 ·exact .inr ⟨i,rfl,by omega,⟨hi,hn⟩,fun j hj hji hne => h j hj (by omega)⟩
 ·omega
/-- What at tells. -/
def atR (C : List It) (n : Nat) (tb nm : ByteArray) (r e : Int) : Prop := ∀ K : List Int,K.length = n → (∃ q : Nat,∃ hq : q < K.length,r = q ∧ e = 0 ∧ clmK (pairP C K) tb nm = (K[q],0)) ∨ (r = -1 ∧ e = 10 ∧ clmK (pairP C K) tb nm = (0,10))
theorem pairP_is {C : List It} {K : List Int} {tb nm : ByteArray} {j : Nat} (h1 : j < C.length) (h2 : j < K.length) (h : j < (pairP C K).length) : clmIs tb nm (pairP C K)[j] = itIs tb nm C[j] := by
 have e : (pairP C K)[j] = (C[j].2.1,C[j].2.2,K[j]) := by simp only [pairP,List.getElem_map,List.getElem_zip]
 rw [e]
 unfold clmIs itIs
 show (eqS C[j].2.2 nm && (eqS tb ⟨#[]⟩ || eqS C[j].2.1 tb)) = _
 rw [show eqS C[j].2.1 tb = eqS tb C[j].2.1 from by unfold eqS; rw [decide_eq_decide]; exact ⟨Eq.symm,Eq.symm⟩]
theorem filter_none {α : Type} {p : α → Bool} {l : List α} (h : ∀ j (hj : j < l.length),p l[j] = false) : l.filter p = [] := by
 rw [List.filter_eq_nil_iff]
 intro x hx
 obtain ⟨j,hj,rfl⟩ := List.mem_iff_getElem.1 hx
 rw [h j hj]
 simp
theorem filter_only {α : Type} {p : α → Bool} : ∀ {l : List α} {q : Nat} (hq : q < l.length),p l[q] = true → (∀ j (hj : j < l.length),j ≠ q → p l[j] = false) → l.filter p = [l[q]]
 | [],q,hq,_,_ => by simp at hq
 | x :: l,0,hq,h1,h2 => by
  have hx : p x = true := h1
  rw [List.filter_cons_of_pos hx,filter_none fun j hj => h2 (j + 1) (by simpa using hj) (by omega)]
  rfl
 | x :: l,q + 1,hq,h1,h2 => by
  have hx : ¬ p x = true := by have := h2 0 (by simp) (by omega); simpa using this
  rw [List.filter_cons_of_neg hx]
  exact filter_only (l := l) (q := q) (by simpa using hq) (by simpa using h1) fun j hj hne => h2 (j + 1) (by simpa using hj) (by omega)
theorem filter_two {α : Type} {p : α → Bool} {l : List α} {q r : Nat} (hq : q < l.length) (hr : r < l.length) (hqr : q < r) (h1 : p l[q] = true) (h2 : p l[r] = true) : 2 ≤ (l.filter p).length := by
 have e : l = l.take r ++ l.drop r := (List.take_append_drop r l).symm
 have hd : l.drop r = l[r] :: l.drop (r + 1) := List.drop_eq_getElem_cons hr
 rw [e,List.filter_append,List.length_append,hd,List.filter_cons_of_pos h2,List.length_cons]
 have hm : l[q] ∈ (l.take r).filter p := by
  rw [List.mem_filter]
  refine ⟨?_,h1⟩
  rw [List.mem_take_iff_getElem]
  exact ⟨q,by omega,rfl⟩
 have := List.length_pos_of_mem hm
 omega
theorem atR_two {C : List It} {n : Nat} {tb nm : ByteArray} {i : Nat} {k : Int} (h : AtI C tb nm i k) (hk : 0 ≤ k) (hi : i < C.length) (hin : i < n) (hn : itIs tb nm C[i] = true) : atR C n tb nm (-1) 10 := by
 intro K hK
 refine .inr ⟨rfl,rfl,?_⟩
 rcases h with ⟨rfl,h⟩ | ⟨q,rfl,hq,⟨hqc,hx⟩,h⟩
 ·omega
 ·have l1 : q < (pairP C K).length := by rw [pairP_len]; omega
  have l2 : i < (pairP C K).length := by rw [pairP_len]; omega
  have := filter_two (p := clmIs tb nm) l1 l2 hq (by rw [pairP_is hqc (by omega)]; exact hx) (by rw [pairP_is hi (by omega)]; exact hn)
  rcases clm_one (pairP C K) tb nm with ⟨h1,_⟩ | ⟨_,h2⟩
  ·omega
  ·exact h2
theorem atR_none {C : List It} {n : Nat} {tb nm : ByteArray} {k : Int} (h : AtI C tb nm (min C.length n) k) (hk : k < 0) : atR C n tb nm (-1) 10 := by
 intro K hK
 refine .inr ⟨rfl,rfl,?_⟩
 rcases h with ⟨rfl,h⟩ | ⟨q,rfl,_⟩
 ·have : (pairP C K).filter (clmIs tb nm) = [] := filter_none fun j hj => by
   have hj2 := hj
   rw [pairP_len] at hj2
   rw [pairP_is (by omega) (by omega)]
   exact h j (by omega) (by omega)
  unfold clmK
  rw [this]
 ·omega
theorem atR_one {C : List It} {n : Nat} {tb nm : ByteArray} {k : Int} (h : AtI C tb nm (min C.length n) k) (hk : 0 ≤ k) : atR C n tb nm k 0 := by
 intro K hK
 rcases h with ⟨rfl,h⟩ | ⟨q,rfl,hq,⟨hqc,hx⟩,h⟩
 ·omega
 ·refine .inl ⟨q,by omega,rfl,rfl,?_⟩
  have l1 : q < (pairP C K).length := by rw [pairP_len]; omega
  have : (pairP C K).filter (clmIs tb nm) = [(pairP C K)[q]] := filter_only l1 (by rw [pairP_is hqc (by omega)]; exact hx) fun j hj hne => by
   have hj2 := hj
   rw [pairP_len] at hj2
   rw [pairP_is (by omega) (by omega)]
   exact h j (by omega) (by omega) hne
  unfold clmK
  rw [this]
  show ((pairP C K)[q].2.2,0) = _
  have e : (pairP C K)[q] = (C[q].2.1,C[q].2.2,K[q]) := by simp only [pairP,List.getElem_map,List.getElem_zip]
  rw [e]

set_option maxRecDepth 100000 in
set_option maxHeartbeats 4000000 in
theorem at_any {C : List It} (hC : C.length ≤ 500) (m : Nat) (hm : m ≤ 9223372036854775807) (x : Pg × Tg) {Q : Nat → Prop} {w : World} {a : Option Addr} {n c : Nat} (h : RowIs eItem Q w (.slice a n c) C) (ea : Option Addr) (en ec : Nat) :
  Calls Tryz.prog 27 #[.slice a n c,.int .i64 (m : Int),.agg #[.int .i64 x.1.1,.int .i64 x.1.2.1,.int .i64 x.1.2.2.1,.string x.1.2.2.2.1,.string x.1.2.2.2.2.1,.string x.1.2.2.2.2.2,.slice ea en ec]] w fun e w' => ∃ r er,e = .returned (.tuple #[.int .i64 r,.int .i64 er]) ∧ atR C m x.1.2.2.2.2.1 x.1.2.2.2.2.2 r er ∧ Below w.heap.size w w' := by
 obtain ⟨⟨op,k1,k2,k3,tb,nm⟩,f⟩ := x
 dsimp only
 have hw := bal (Below.refl w.heap.size w) (.cells #[.int .i64 op,.int .i64 k1,.int .i64 k2,.string k3,.string tb,.string nm,.slice ea en ec] 28)
 have bx := Bk.new w (.cells #[.int .i64 op,.int .i64 k1,.int .i64 k2,.string k3,.string tb,.string nm,.slice ea en ec] 28)
 generalize hW : w.alloc (.cells #[.int .i64 op,.int .i64 k1,.int .i64 k2,.string k3,.string tb,.string nm,.slice ea en ec] 28) = W at hw bx
 have d4 := bx.cell 4
 have d5 := bx.cell 5
 simp only [List.getElem?_toArray,List.getElem?_cons_zero,List.getElem?_cons_succ] at d4 d5
 obtain ⟨l1,l2,l3⟩ := h.lens
 have HR : Hid (∀ w',Below W.heap.size W w' → RowIs eItem Q w' (.slice a n c) C) := hid fun w' hb => h.keep (by decide) fun b _ hl => (Below.on hw hb).block b hl
 subst l1
 obtain ⟨r,hr⟩ : ∃ r,min C.length m = r := ⟨_,rfl⟩
 have hmi : min (C.length : Int) (m : Int) = (r : Int) := by omega
 have hrC : r ≤ C.length := by omega
 have HA2 : Hid (∀ i k,AtI C tb nm i k → 0 ≤ k → ∀ hi : i < C.length,i < r → itIs tb nm C[i] = true → atR C m tb nm (-1) 10) := hid fun i k h hk hi hir hn => atR_two h hk hi (by omega) hn
 have HA0 : Hid (∀ k,AtI C tb nm r k → k < 0 → atR C m tb nm (-1) 10) := hid fun k h hk => atR_none (hr ▸ h) hk
 have HA1 : Hid (∀ k,AtI C tb nm r k → 0 ≤ k → atR C m tb nm k 0) := hid fun k h hk => atR_one (hr ▸ h) hk
 replace hr : Hid _ := hid hr
 clear h bx
 go_enter Tryz.func27,Tryz.ntmps27
 go_upto_region 1 with fail
 go_wp2
 clear hW
 generalize w.heap.size = q at d4 d5 ⊢
 go_loopw [8,9] (fun v8 v9 wr => ∃ (i : Nat) (k : Int),i ≤ r ∧ v9 = .int .i64 i ∧ v8 = .int .i64 k ∧ Hid (AtI C tb nm i k) ∧ -1 ≤ k ∧ k < 500 ∧ Below W.heap.size W wr) (fun _ i _ => r - (intOf i).toNat)
 case atStart => exact ⟨0,-1,Nat.zero_le _,rfl,rfl,hid (.inl ⟨rfl,fun j hj hji => absurd hji (by omega)⟩),by omega,by omega,Below.refl _ _⟩
 case round =>
  obtain ⟨i,k,hi,rfl,rfl,HI,hk1,hk2,hB⟩ := hrel
  have e4 := cell_later hB d4
  have e5 := cell_later hB d5
  by_cases hlt : i < r
  ·have hic : i < C.length := by omega
   obtain ⟨_,_,_,e',_,_,_,hx⟩ := HR.out wr hB
   cases e'
   obtain ⟨b,o,rfl,-,hxi⟩ := hx (by omega)
   obtain ⟨cs,hE,-,hcc⟩ := hxi i hic
   have hE' : cs = [.int .i64 C[i].1,.string C[i].2.1,.string C[i].2.2] := hE
   subst hE'
   have c1 : wr.cell? ⟨b,o + i * 3 + 1,none⟩ = some (.string C[i].2.1) := hcc 1 (show 1 < 3 by decide)
   have c2 : wr.cell? ⟨b,o + i * 3 + 2,none⟩ = some (.string C[i].2.2) := hcc 2 (show 2 < 3 by decide)
   have hIs : itIs tb nm C[i] = (eqS C[i].2.2 nm && (eqS tb ⟨#[]⟩ || eqS tb C[i].2.1)) := rfl
   have HM : Hid (itIs tb nm C[i] = false → AtI C tb nm (i + 1) k) := hid fun hn => HI.out.miss hic hn
   have HH : Hid (k < 0 → itIs tb nm C[i] = true → AtI C tb nm (i + 1) i) := hid fun hk hn => HI.out.hit hk hic hn
   have HTw : Hid (0 ≤ k → itIs tb nm C[i] = true → atR C m tb nm (-1) 10) := hid fun hk hn => HA2.out i k HI.out hk hic hlt hn
   have n1 := same_str C[i].2.2 nm
   have n2 := empty_str tb
   have n3 := same_str tb C[i].2.1
   generalize itIs tb nm C[i] = B at *
   generalize C[i].2.1 = xt at *
   generalize C[i].2.2 = xn at *
   have him : (i : Int) < (r : Int) := by omega
   have hic' : (i : Int) < (C.length : Int) := by omega
   have hi5 : i < 500 := by omega
   clear hE hcc hxi hx
   by_cases hn1 : xn = nm
   ·have e1 : (xn.toList == nm.toList) = true := by rw [n1]; simpa using hn1
    by_cases hn2 : tb = ⟨#[]⟩
    ·have e2 : tb.toList.isEmpty = true := by rw [n2]; simpa using hn2
     obtain rfl : B = true := by rw [hIs]; unfold eqS; simp [hn1,hn2]
     by_cases hk : k < 0
     ·have gk : ¬ (0 : Int) ≤ k := by omega
      have gd : decide ((0 : Int) ≤ k) = false := by simpa using gk
      clear n1 n2 n3 hIs
      clear hn1 hn2
      go_wp2
      go_quiet (fail)
      go_wp2
      go_roundw
      case rel => exact ⟨i + 1,i,by omega,by go_num,rfl,hid (HH.out hk (by first | rfl | trivial)),by omega,by omega,by first | exact hB | exact below_drewN hB _ | exact hB.drew⟩
      case measure => simp only [intOf]; omega
     ·replace hk : (0 : Int) ≤ k := by omega
      clear n1 n2 n3 hIs
      clear hn1 hn2
      go_wp2
      go_quiet (fail)
      go_wp2
      exact bodyPost_ret (v := .tuple #[.int .i64 (-1),.int .i64 10]) (by simp [results,Tryz.results27]) rfl ⟨-1,10,rfl,HTw.out hk (by first | rfl | trivial),by first | exact Below.on hw hB | exact Below.on hw (below_drewN hB _) | exact Below.on hw hB.drew⟩
    ·have e2 : tb.toList.isEmpty = false := by rw [n2]; simpa using hn2
     by_cases hn3 : tb = xt
     ·have e3 : (tb.toList == xt.toList) = true := by rw [n3]; simpa using hn3
      obtain rfl : B = true := by rw [hIs]; unfold eqS; simp [hn1,hn3]
      by_cases hk : k < 0
      ·have gk : ¬ (0 : Int) ≤ k := by omega
       have gd : decide ((0 : Int) ≤ k) = false := by simpa using gk
       clear n1 n2 n3 hIs
       clear hn1 hn2 hn3
       go_wp2
       go_quiet (fail)
       go_wp2
       go_roundw
       case rel => exact ⟨i + 1,i,by omega,by go_num,rfl,hid (HH.out hk (by first | rfl | trivial)),by omega,by omega,by first | exact hB | exact below_drewN hB _ | exact hB.drew⟩
       case measure => simp only [intOf]; omega
      ·replace hk : (0 : Int) ≤ k := by omega
       clear n1 n2 n3 hIs
       clear hn1 hn2 hn3
       go_wp2
       go_quiet (fail)
       go_wp2
       exact bodyPost_ret (v := .tuple #[.int .i64 (-1),.int .i64 10]) (by simp [results,Tryz.results27]) rfl ⟨-1,10,rfl,HTw.out hk (by first | rfl | trivial),by first | exact Below.on hw hB | exact Below.on hw (below_drewN hB _) | exact Below.on hw hB.drew⟩
     ·have e3 : (tb.toList == xt.toList) = false := by rw [n3]; simpa using hn3
      obtain rfl : B = false := by rw [hIs]; unfold eqS; simp [hn2,hn3]
      clear n1 n2 n3 hIs
      clear hn1 hn2 hn3
      go_wp2
      go_quiet (fail)
      go_wp2
      go_roundw
      case rel => exact ⟨i + 1,k,by omega,by go_num,rfl,hid (HM.out (by first | rfl | trivial)),hk1,hk2,by first | exact hB | exact below_drewN hB _ | exact hB.drew⟩
      case measure => simp only [intOf]; omega
   ·have e1 : (xn.toList == nm.toList) = false := by rw [n1]; simpa using hn1
    obtain rfl : B = false := by rw [hIs]; unfold eqS; simp [hn1]
    clear n1 n2 n3 hIs
    clear hn1
    go_wp2
    go_quiet (fail)
    go_wp2
    go_roundw
    case rel => exact ⟨i + 1,k,by omega,by go_num,rfl,hid (HM.out (by first | rfl | trivial)),hk1,hk2,by first | exact hB | exact below_drewN hB _ | exact hB.drew⟩
    case measure => simp only [intOf]; omega
  ·obtain rfl : i = r := by omega
   by_cases hk : k < 0
   ·go_wp2
    exact bodyPost_ret (v := .tuple #[.int .i64 (-1),.int .i64 10]) (by simp [results,Tryz.results27]) rfl ⟨-1,10,rfl,HA0.out k HI.out hk,Below.on hw hB⟩
   ·have gk : ¬ k < 0 := hk
    have gd : decide (k < 0) = false := by simpa using gk
    go_wp2
    exact bodyPost_ret (v := .tuple #[.int .i64 k,.int .i64 0]) (by simp [results,Tryz.results27]) rfl ⟨k,0,rfl,HA1.out k HI.out (by omega),Below.on hw hB⟩

end Go.Proofs.YtljmlacnfnmjbaaGreat
namespace Go.Proofs.YtljmlacnfnmjbaaGreat
open Go.RowKit
set_option linter.unusedVariables false
set_option linter.unusedSimpArgs false

set_option maxRecDepth 100000 in
set_option maxHeartbeats 4000000 in
theorem findVw_none (name : ByteArray) (w : World) :
  Calls Tryz.prog 101 #[.agg #[.slice none 0 0,.func (.func 120) #[] #[],.func (.func 121) #[] #[]],.string name] w fun e w' => e = .returned (.tuple #[.agg #[.string ⟨#[]⟩,.slice none 0 0,.int .i64 0,.string ⟨#[]⟩,.string ⟨#[]⟩,.slice none 0 0,.slice none 0 0,.slice none 0 0,.slice none 0 0,.string ⟨#[]⟩,.slice none 0 0,.slice none 0 0,.slice none 0 0,.bool false,.slice none 0 0],.bool false]) ∧ Below w.heap.size w w' := by
 have hw : Below w.heap.size w ((w.alloc (.cells #[.slice none 0 0,.func (.func 120) #[] #[],.func (.func 121) #[] #[]] 156)).alloc (.cells #[.string ⟨#[]⟩,.slice none 0 0,.int .i64 0,.string ⟨#[]⟩,.string ⟨#[]⟩,.slice none 0 0,.slice none 0 0,.slice none 0 0,.slice none 0 0,.string ⟨#[]⟩,.slice none 0 0,.slice none 0 0,.slice none 0 0,.bool false,.slice none 0 0] 76)) := bal (bal (Below.refl _ _) _) _
 have HP := placeVw_any (l := []) (by simp) name_vw name (C := 121) (RowIs.nil eVw (fun _ => True) ((w.alloc (.cells #[.slice none 0 0,.func (.func 120) #[] #[],.func (.func 121) #[] #[]] 156)).alloc (.cells #[.string ⟨#[]⟩,.slice none 0 0,.int .i64 0,.string ⟨#[]⟩,.string ⟨#[]⟩,.slice none 0 0,.slice none 0 0,.slice none 0 0,.slice none 0 0,.string ⟨#[]⟩,.slice none 0 0,.slice none 0 0,.slice none 0 0,.bool false,.slice none 0 0] 76)))
 have bx := Bk.new (w.alloc (.cells #[.slice none 0 0,.func (.func 120) #[] #[],.func (.func 121) #[] #[]] 156)) (.cells #[.string ⟨#[]⟩,.slice none 0 0,.int .i64 0,.string ⟨#[]⟩,.string ⟨#[]⟩,.slice none 0 0,.slice none 0 0,.slice none 0 0,.slice none 0 0,.string ⟨#[]⟩,.slice none 0 0,.slice none 0 0,.slice none 0 0,.bool false,.slice none 0 0] 76)
 rw [World.size_alloc] at bx
 rw [show fidx (fun t : Vw => eqS t.name name) [] = -1 from rfl] at HP
 replace HP : Hid _ := hid HP
 go_enter Tryz.func101,Tryz.ntmps101
 go_wp2_with fail
 refine Calls.mono HP.out ?_
 rintro e U ⟨rfl,hb⟩
 have hwU := Below.trans hw (hb.mono hw.size)
 replace bx := bx.later hb
 generalize hz : w.heap.size + 1 = z at bx ⊢
 have hzw : w.heap.size < z := by omega
 clear HP hb hw
 have z0 := bx.cell 0
 have f0 := bx.free 0
 have z1 := bx.cell 1
 have f1 := bx.free 1
 have z2 := bx.cell 2
 have f2 := bx.free 2
 have z3 := bx.cell 3
 have f3 := bx.free 3
 have z4 := bx.cell 4
 have f4 := bx.free 4
 have z5 := bx.cell 5
 have f5 := bx.free 5
 have z6 := bx.cell 6
 have f6 := bx.free 6
 have z7 := bx.cell 7
 have f7 := bx.free 7
 have z8 := bx.cell 8
 have f8 := bx.free 8
 have z9 := bx.cell 9
 have f9 := bx.free 9
 have z10 := bx.cell 10
 have f10 := bx.free 10
 have z11 := bx.cell 11
 have f11 := bx.free 11
 have z12 := bx.cell 12
 have f12 := bx.free 12
 have z13 := bx.cell 13
 have f13 := bx.free 13
 have z14 := bx.cell 14
 have f14 := bx.free 14
 simp only [List.getElem?_toArray,List.getElem?_cons_zero,List.getElem?_cons_succ] at z0 z1 z2 z3 z4 z5 z6 z7 z8 z9 z10 z11 z12 z13 z14
 clear bx
 go_wp2
 exact bodyPost_ret (v := .tuple #[.agg #[.string ⟨#[]⟩,.slice none 0 0,.int .i64 0,.string ⟨#[]⟩,.string ⟨#[]⟩,.slice none 0 0,.slice none 0 0,.slice none 0 0,.slice none 0 0,.string ⟨#[]⟩,.slice none 0 0,.slice none 0 0,.slice none 0 0,.bool false,.slice none 0 0],.bool false]) (by simp [results,Tryz.results101,go_sem,z0,z1,z2,z3,z4,z5,z6,z7,z8,z9,z10,z11,z12,z13,z14]) rfl ⟨rfl,(((((((((((((((hwU.setCell (by show w.heap.size ≤ z; omega) _).setCell (by show w.heap.size ≤ z; omega) _).setCell (by show w.heap.size ≤ z; omega) _).setCell (by show w.heap.size ≤ z; omega) _).setCell (by show w.heap.size ≤ z; omega) _).setCell (by show w.heap.size ≤ z; omega) _).setCell (by show w.heap.size ≤ z; omega) _).setCell (by show w.heap.size ≤ z; omega) _).setCell (by show w.heap.size ≤ z; omega) _).setCell (by show w.heap.size ≤ z; omega) _).setCell (by show w.heap.size ≤ z; omega) _).setCell (by show w.heap.size ≤ z; omega) _).setCell (by show w.heap.size ≤ z; omega) _).setCell (by show w.heap.size ≤ z; omega) _).setCell (by show w.heap.size ≤ z; omega) _)⟩
set_option maxRecDepth 100000 in
set_option maxHeartbeats 4000000 in
theorem view_none (name : ByteArray) (ta : Option Addr) (tn tc : Nat) (w : World) :
  Calls Tryz.prog 71 #[.agg #[.slice ta tn tc,.slice none 0 0],.string name] w fun e w' => e = .returned (.tuple #[.agg #[.string ⟨#[]⟩,.slice none 0 0,.int .i64 0,.string ⟨#[]⟩,.string ⟨#[]⟩,.slice none 0 0,.slice none 0 0,.slice none 0 0,.slice none 0 0,.string ⟨#[]⟩,.slice none 0 0,.slice none 0 0,.slice none 0 0,.bool false,.slice none 0 0],.bool false]) ∧ Below w.heap.size w w' := by
 have H1 : Hid (∀ w,_) := hid fun w => views_any ta tn tc none 0 0 w
 have hw : Below w.heap.size w ((w.alloc (.cells #[.slice ta tn tc,.slice none 0 0] 38)).alloc (.cells #[.string ⟨#[]⟩,.slice none 0 0,.int .i64 0,.string ⟨#[]⟩,.string ⟨#[]⟩,.slice none 0 0,.slice none 0 0,.slice none 0 0,.slice none 0 0,.string ⟨#[]⟩,.slice none 0 0,.slice none 0 0,.slice none 0 0,.bool false,.slice none 0 0] 76)) := bal (bal (Below.refl _ _) _) _
 have H2 : Hid (∀ w',_) := hid fun w' => findVw_none name w'
 have bx := Bk.new (w.alloc (.cells #[.slice ta tn tc,.slice none 0 0] 38)) (.cells #[.string ⟨#[]⟩,.slice none 0 0,.int .i64 0,.string ⟨#[]⟩,.string ⟨#[]⟩,.slice none 0 0,.slice none 0 0,.slice none 0 0,.slice none 0 0,.string ⟨#[]⟩,.slice none 0 0,.slice none 0 0,.slice none 0 0,.bool false,.slice none 0 0] 76)
 rw [World.size_alloc] at bx
 go_enter Tryz.func71,Tryz.ntmps71
 go_wp2_with fail
 refine Calls.mono (H1.out _) ?_
 rintro e U0 ⟨rfl,hb⟩
 have hwU0 := Below.trans hw (hb.mono hw.size)
 replace bx := bx.later hb
 generalize hz : w.heap.size + 1 = z at bx ⊢
 have hzw : w.heap.size < z := by omega
 clear H1 hb hw
 go_wp2_with fail
 refine Calls.mono (H2.out _) ?_
 rintro e U ⟨rfl,hb⟩
 have hwU := Below.trans hwU0 (hb.mono hwU0.size)
 replace bx := bx.later hb
 have z0 := bx.cell 0
 have f0 := bx.free 0
 have z1 := bx.cell 1
 have f1 := bx.free 1
 have z2 := bx.cell 2
 have f2 := bx.free 2
 have z3 := bx.cell 3
 have f3 := bx.free 3
 have z4 := bx.cell 4
 have f4 := bx.free 4
 have z5 := bx.cell 5
 have f5 := bx.free 5
 have z6 := bx.cell 6
 have f6 := bx.free 6
 have z7 := bx.cell 7
 have f7 := bx.free 7
 have z8 := bx.cell 8
 have f8 := bx.free 8
 have z9 := bx.cell 9
 have f9 := bx.free 9
 have z10 := bx.cell 10
 have f10 := bx.free 10
 have z11 := bx.cell 11
 have f11 := bx.free 11
 have z12 := bx.cell 12
 have f12 := bx.free 12
 have z13 := bx.cell 13
 have f13 := bx.free 13
 have z14 := bx.cell 14
 have f14 := bx.free 14
 simp only [List.getElem?_toArray,List.getElem?_cons_zero,List.getElem?_cons_succ] at z0 z1 z2 z3 z4 z5 z6 z7 z8 z9 z10 z11 z12 z13 z14
 clear H2 bx hb hwU0
 go_wp2
 exact bodyPost_ret (v := .tuple #[.agg #[.string ⟨#[]⟩,.slice none 0 0,.int .i64 0,.string ⟨#[]⟩,.string ⟨#[]⟩,.slice none 0 0,.slice none 0 0,.slice none 0 0,.slice none 0 0,.string ⟨#[]⟩,.slice none 0 0,.slice none 0 0,.slice none 0 0,.bool false,.slice none 0 0],.bool false]) (by simp [results,Tryz.results71,go_sem,z0,z1,z2,z3,z4,z5,z6,z7,z8,z9,z10,z11,z12,z13,z14]) rfl ⟨rfl,(((((((((((((((hwU.setCell (by show w.heap.size ≤ z; omega) _).setCell (by show w.heap.size ≤ z; omega) _).setCell (by show w.heap.size ≤ z; omega) _).setCell (by show w.heap.size ≤ z; omega) _).setCell (by show w.heap.size ≤ z; omega) _).setCell (by show w.heap.size ≤ z; omega) _).setCell (by show w.heap.size ≤ z; omega) _).setCell (by show w.heap.size ≤ z; omega) _).setCell (by show w.heap.size ≤ z; omega) _).setCell (by show w.heap.size ≤ z; omega) _).setCell (by show w.heap.size ≤ z; omega) _).setCell (by show w.heap.size ≤ z; omega) _).setCell (by show w.heap.size ≤ z; omega) _).setCell (by show w.heap.size ≤ z; omega) _).setCell (by show w.heap.size ≤ z; omega) _)⟩
set_option maxRecDepth 100000 in
set_option maxHeartbeats 4000000 in
theorem mayCall_none {T : List Tbl} {m : Sq} (hB : SqB m) {w : World} {ta : Option Addr} {tn tc : Nat} (hT : IsT w T ta tn tc) {s : Sv} (hm : IsQ w m s) :
  Calls Tryz.prog 33 #[.agg #[.slice ta tn tc,.slice none 0 0],stV s] w fun en w' => en = .returned (.int .i64 22) ∧ Below w.heap.size w w' := by
 have hw := bal (bal (Below.refl w.heap.size w) (.cells #[.slice ta tn tc,.slice none 0 0] 38)) (svO s)
 have bs := (Bk.new w (.cells #[.slice ta tn tc,.slice none 0 0] 38)).later (bal (Below.refl _ _) (svO s))
 have bq := Bk.new (w.alloc (.cells #[.slice ta tn tc,.slice none 0 0] 38)) (svO s)
 rw [World.size_alloc] at bq
 generalize hW : (w.alloc (.cells #[.slice ta tn tc,.slice none 0 0] 38)).alloc (svO s) = W at hw bs bq
 replace hT := hT.later hw
 replace hm := hm.later hw
 have y0 := bs.cell 0
 have y1 := bs.cell 1
 have z0 := bq.cell 0
 have z1 := bq.cell 1
 have z2 := bq.cell 2
 have z3 := bq.cell 3
 have z4 := bq.cell 4
 have z5 := bq.cell 5
 have z6 := bq.cell 6
 have z7 := bq.cell 7
 have z8 := bq.cell 8
 have z9 := bq.cell 9
 have z10 := bq.cell 10
 have z11 := bq.cell 11
 have z12 := bq.cell 12
 simp only [List.getElem?_toArray,List.getElem?_cons_zero,List.getElem?_cons_succ] at y0 y1 z0 z1 z2 z3 z4 z5 z6 z7 z8 z9 z10 z11 z12
 have HO : Hid _ := hid (view_none s.nm ta tn tc W)
 clear hT hm hB bs bq
 obtain ⟨sk,stb,snm,sco,sta,sva,sit,sjn,son,swh,sod,sds,sinn⟩ := s
 dsimp only [stV,svO] at *
 go_enter Tryz.func33,Tryz.ntmps33
 go_upto_region 1 with fail
 go_wp2_with fail
 refine Calls.mono HO.out ?_
 rintro e w4 ⟨rfl,hb4⟩
 clear HO z0 z1 z2 z3 z4 z5 z6 z7 z8 z9 z10 z11 z12 y0 y1
 go_wp2
 go_ret
 exact ⟨rfl,bal (Below.on hw hb4) _⟩

end Go.Proofs.YtljmlacnfnmjbaaGreat
namespace Go.Proofs.YtljmlacnfnmjbaaGreat
open Go.RowKit
set_option linter.unusedVariables false
set_option linter.unusedSimpArgs false

set_option maxRecDepth 100000 in
theorem slice_cols1 {b o n c : Nat} (h1 : 1 ≤ n) (h2 : n ≤ c) (w' : World) : (Instr.slice 39 (.slice (some ⟨b,o,none⟩) n c) (some (.int .i64 1)) none none).run Tryz.prog w' = .ok (.slice (if c = 1 then some ⟨b,o,none⟩ else some ⟨b,o + 3,none⟩) (n - 1) (c - 1)) w' := by
 have g2 : 1 ≤ c := by omega
 have g3 : (1 : Int) ≤ (n : Int) := by omega
 have g4 : (n : Int) ≤ (c : Int) := by omega
 have g5 : ¬ (n : Int) < 1 := by omega
 go_simp
/-- Columns behind the first. -/
theorem cols_off {w : World} {Q : Nat → Prop} {ao : Option Addr} {n c : Nat} {x : Co} {L : List Co} (h : RowIs eCol Q w (.slice ao n c) (x :: L)) :
  ∃ b o,ao = some ⟨b,o,none⟩ ∧ ∃ ao' p d,(∀ w',(Instr.slice 39 (.slice ao n c) (some (.int .i64 1)) none none).run Tryz.prog w' = .ok (.slice ao' p d) w') ∧ (∀ w',RowIs eCol Q w' (.slice ao n c) (x :: L) → RowIs eCol Q w' (.slice ao' p d) L) := by
 obtain ⟨ao',n',c',e',h1,h2,h3,hx⟩ := h
 cases e'
 have hn : 0 < n := by rw [← h1]; simp
 obtain ⟨b,o,rfl,hq,hc⟩ := hx hn
 have hn1 : n = L.length + 1 := by rw [← h1]; simp
 refine ⟨b,o,rfl,(if c = 1 then some ⟨b,o,none⟩ else some ⟨b,o + 3,none⟩),n - 1,c - 1,fun w' => ?_,fun w' h' => ?_⟩
 ·exact slice_cols1 hn h2 w'
 ·obtain ⟨_,_,_,e'',k1,k2,k3,kx⟩ := h'
  cases e''
  refine ⟨_,n - 1,c - 1,rfl,by omega,by omega,by omega,fun hp => ?_⟩
  obtain ⟨b',o',e2,hq',hc'⟩ := kx hn
  cases e2
  rw [if_neg (by omega)]
  refine ⟨b,o + 3,rfl,hq',fun i hi => ?_⟩
  obtain ⟨cs,r1,r2,r3⟩ := hc' (i + 1) (by simpa using hi)
  refine ⟨cs,r1,r2,fun j hj => ?_⟩
  have := r3 j hj
  rw [← this]
  congr 2
  show o + 3 + i * 3 + j = o + (i + 1) * 3 + j
  omega

end Go.Proofs.YtljmlacnfnmjbaaGreat
namespace Go.Proofs.YtljmlacnfnmjbaaGreat
open Go.RowKit
set_option linter.unusedVariables false
set_option linter.unusedSimpArgs false

set_option maxRecDepth 100000 in
set_option maxHeartbeats 4000000 in
theorem insert1_any (x : Pg × Tg) {y : Co} {L : List Co} {Q R : Nat → Prop} {w : World} {cs : List Value} {a : Option Addr} {n c : Nat} {bt : Nat} (hs : w.cell? ⟨bt,0,none⟩ = some (.slice none 0 0)) (hR : RowIs eCol R w (.slice a n c) (y :: L)) (hx : eG.E Q w x cs) :
  Calls Tryz.prog 60 #[.slice a n c,.agg cs.toArray,.pointer (some ⟨bt,0,none⟩)] w fun en w' => ∃ a2 m2 d2,en = .returned (.tuple #[.slice a2 m2 d2,.int .i64 (fitsP [] x y.2.1)]) ∧ Below w.heap.size w w' ∧ RowIs eCol R w' (.slice a2 m2 d2) L := by
 have hx0 := hx
 obtain ⟨ea,en,ec,rfl,-⟩ := hx0
 simp only [exC] at *
 have hw := bal (Below.refl w.heap.size w) (.cells #[.int .i64 x.1.1,.int .i64 x.1.2.1,.int .i64 x.1.2.2.1,.string x.1.2.2.2.1,.string x.1.2.2.2.2.1,.string x.1.2.2.2.2.2,.slice ea en ec] 28)
 have bx := Bk.new w (.cells #[.int .i64 x.1.1,.int .i64 x.1.2.1,.int .i64 x.1.2.2.1,.string x.1.2.2.2.1,.string x.1.2.2.2.2.1,.string x.1.2.2.2.2.2,.slice ea en ec] 28)
 generalize hW : w.alloc (.cells #[.int .i64 x.1.1,.int .i64 x.1.2.1,.int .i64 x.1.2.2.1,.string x.1.2.2.2.1,.string x.1.2.2.2.2.1,.string x.1.2.2.2.2.2,.slice ea en ec] 28) = W at hw bx
 have d0 := bx.cell 0
 have d1 := bx.cell 1
 have d2 := bx.cell 2
 have d3 := bx.cell 3
 have d4 := bx.cell 4
 have d5 := bx.cell 5
 have d6 := bx.cell 6
 simp only [List.getElem?_toArray,List.getElem?_cons_zero,List.getElem?_cons_succ] at d0 d1 d2 d3 d4 d5 d6
 have HF : Hid (∀ w',Below W.heap.size W w' → _) := hid fun w' hb => fits_any (S := []) (by simp) x y.2.1 (RowIs.nil eClm (fun _ => True) w') (eG.keep (fun b _ hl => (Below.on hw hb).block b hl) hx)
 obtain ⟨l1,l2,l3⟩ := hR.lens
 have hn0 : 0 < n := by rw [← l1]; simp
 have HRl : Hid (∀ w',Below w.heap.size w w' → RowIs eCol R w' (.slice a n c) (y :: L)) := hid fun w' hb => hR.keep (by decide) fun b _ hl => hb.block b hl
 obtain ⟨cb,co,rfl,a2,p2,t2,hsl,hkeep⟩ := cols_off hR
 have HK : Hid _ := hid hkeep
 obtain ⟨k,hk⟩ : ∃ k,W.cell? ⟨cb,co + 1,none⟩ = some (.int .i64 k) ∧ k = y.2.1 := by
  obtain ⟨_,_,_,e',_,_,_,hxx⟩ := HRl.out W hw
  cases e'
  obtain ⟨b,o,e2,_,hxi⟩ := hxx hn0
  cases e2
  obtain ⟨cs,rfl,-,hcc⟩ := hxi 0 (by simp)
  have := hcc 1 (show 1 < 3 by decide)
  simp only [Nat.zero_mul,Nat.add_zero] at this
  exact ⟨_,this,rfl⟩
 obtain ⟨hk,rfl⟩ := hk
 replace hs := cell_later hw hs
 generalize y.2.1 = k at *
 generalize fitsP [] x k = E at *
 have hC : Below W.heap.size W W.drew := (Below.refl _ W).drew
 have hn1 : (0 : Int) < (n : Int) := by omega
 clear hkeep hx bx hR l1
 go_enter Tryz.func60,Tryz.ntmps60
 go_upto_region 1 with fail
 clear hW
 have hwq := hw
 have HW0 : Hid (Below w.heap.size w W) := hid hw
 have HG : Hid (∀ w',Below W.heap.size W w' → Below w.heap.size w w' ∧ RowIs eCol R w' (.slice a2 p2 t2) L) := hid fun w' hb => ⟨Below.on hw hb,HK.out _ (HRl.out _ (Below.on hw hb))⟩
 clear hwq hw HW0 HK HRl
 generalize hq : w.heap.size = q at d0 d1 d2 d3 d4 d5 d6 ⊢
 go_region_held (fun w' => w'.cell? ⟨q,0,none⟩ = some (.int .i64 x.1.1) ∧ w'.cell? ⟨q,1,none⟩ = some (.int .i64 x.1.2.1) ∧ w'.cell? ⟨q,2,none⟩ = some (.int .i64 x.1.2.2.1) ∧ w'.cell? ⟨q,3,none⟩ = some (.string x.1.2.2.2.1) ∧ w'.cell? ⟨q,4,none⟩ = some (.string x.1.2.2.2.2.1) ∧ w'.cell? ⟨q,5,none⟩ = some (.string x.1.2.2.2.2.2) ∧ w'.cell? ⟨q,6,none⟩ = some (.slice ea en ec) ∧ w'.cell? ⟨bt,0,none⟩ = some (.slice none 0 0) ∧ w'.cell? ⟨cb,co + 1,none⟩ = some (.int .i64 k))
  (exact ⟨cell_later hC d0,cell_later hC d1,cell_later hC d2,cell_later hC d3,cell_later hC d4,cell_later hC d5,cell_later hC d6,cell_later hC hs,cell_later hC hk⟩)
  (first
  | (go_at_call 61; with_reducible refine Calls.mono (HF.out _ hC) ?_; rintro e z1 ⟨rfl,hb1⟩; replace hC := Below.on hC hb1))
 all_goals
  go_wp2
  refine bodyPost_ret (v := .tuple #[.slice a2 p2 t2,.int .i64 E]) (by simp [results,Tryz.results60]) rfl ⟨a2,p2,t2,rfl,(by first | exact (HG.out _ hC).1 | exact hq ▸ (HG.out _ hC).1),(HG.out _ hC).2⟩

end Go.Proofs.YtljmlacnfnmjbaaGreat
