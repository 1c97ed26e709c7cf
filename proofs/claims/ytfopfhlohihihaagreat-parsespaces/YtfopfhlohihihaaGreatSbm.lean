import Derived.Test.YtfopfhlohihihaaGreatSbe
import Derived.Test.YtfopfhlohihihaaGreatSbf
import Derived.Test.YtfopfhlohihihaaGreatSbb
import Derived.Test.YtfopfhlohihihaaGreatSar
import Derived.Test.YtfopfhlohihihaaGreatSat
import Derived.Test.YtfopfhlohihihaaGreatSbh
namespace Go.Proofs.YtfopfhlohihihaaGreat
open Go.RowKit
set_option linter.unusedVariables false
set_option linter.unusedSimpArgs false
def chkL (s : ByteArray) : Bool := match bs s with | [] => false | c :: n => isL c && n.all isN && decide (n.length < 16)
theorem chkL_of {s : ByteArray} (h : chkL s = true) : ∃ c n,s = ⟨(c :: n).toArray⟩ ∧ isL c = true ∧ n.all isN = true ∧ n.length < 16 := by
 unfold chkL at h
 split at h
 ·cases h
 ·rename_i c n e
  rw [Bool.and_eq_true,Bool.and_eq_true,decide_eq_true_eq] at h
  exact ⟨c,n,bs_ext (by rw [e,bs_mk]),h.1.1,h.1.2,h.2⟩
theorem ok_kw {s : ByteArray} (h : chkL s = true) (hw : isW s = true) : WdOK (kw s) := by
 obtain ⟨c,n,rfl,h1,h2,h3⟩ := chkL_of h
 have := WdOK.name c n h1 h2 h3
 rwa [hw] at this
theorem ok_nm {s : ByteArray} (h : chkL s = true) (hw : isW s = false) : WdOK (nm s) := by
 obtain ⟨c,n,rfl,h1,h2,h3⟩ := chkL_of h
 have := WdOK.name c n h1 h2 h3
 rwa [hw] at this
def NmC (C : Cl2) : Prop := ∀ x ∈ C,(WdOK (nm x.1.2.1) ∧ x.1.2.1.size ≤ 2) ∧ WdOK (nm x.1.2.2) ∧ x.1.2.2.size ≤ 2
theorem nmC_T : NmC (colsOf tabT) := by
 intro x hx
 simp only [colsOf,tabT,List.map_cons,List.map_nil,List.mem_cons,List.not_mem_nil,or_false] at hx
 rcases hx with rfl | rfl | rfl
 all_goals exact ⟨⟨ok_nm (by decide +kernel) (by decide +kernel),by decide⟩,ok_nm (by decide +kernel) (by decide +kernel),by decide⟩
theorem nmC_U : NmC (colsOf tabU) := by
 intro x hx
 simp only [colsOf,tabU,List.map_cons,List.map_nil,List.mem_cons,List.not_mem_nil,or_false] at hx
 rcases hx with rfl | rfl | rfl
 all_goals exact ⟨⟨ok_nm (by decide +kernel) (by decide +kernel),by decide⟩,ok_nm (by decide +kernel) (by decide +kernel),by decide⟩
theorem NmC.app {C D : Cl2} (h : NmC C) (k : NmC D) : NmC (C ++ D) := fun x hx => (List.mem_append.1 hx).elim (h x) (k x)
theorem leaf_or {C : Cl2} {kind : Int} {t : Tr} (h : LeafOK C kind t) : (∃ tb n,t = tCol tb n ∧ ColOK C kind tb n) ∨ (∃ s,t = tText s ∧ s ∈ [⟨#[97]⟩,⟨#[98]⟩,⟨#[]⟩,⟨#[105,116,39,115]⟩,⟨#[122,122]⟩]) ∨ (∃ i : Int,t = tInt i ∧ ((0 ≤ i ∧ i < 11) ∨ i = 9223372036854775807)) := by
 rcases h with h | ⟨i,s,rfl,⟨rfl,rfl,h⟩ | ⟨rfl,rfl,h⟩⟩
 ·exact .inl h
 ·exact .inr (.inl ⟨s,rfl,h⟩)
 ·exact .inr (.inr ⟨i,rfl,h⟩)
theorem pl_ind {C : Cl2} {M : Nat → Tr → Prop} (leaf : ∀ n kind t,LeafOK C kind t → M n t) (one : ∀ n o l,(o = 3 ∨ o = 4) → M n l → M (n + 1) (tOne o l)) (two : ∀ n j l r,j < 11 → M n l → M n r → M (n + 1) (tTwo (j + 5) l r)) :
  ∀ n kind t,Pl C n kind t → M n t
 | 0,kind,t,h => leaf 0 kind t h.2
 | n + 1,kind,t,h => by
  rcases h with ⟨_,h⟩ | ⟨_,⟨l,rfl,h⟩ | ⟨a,l,r,ha,rfl,h,k⟩⟩ | ⟨_,⟨l,rfl,h⟩ | ⟨a,l,r,ha,rfl,h,k⟩ | ⟨a,q,l,r,ha,_,rfl,h,k⟩⟩
  ·exact leaf _ kind t h
  ·exact one n 3 l (.inl rfl) (pl_ind leaf one two n _ _ h)
  ·exact two n a l r (by omega) (pl_ind leaf one two n _ _ h) (pl_ind leaf one two n _ _ k)
  ·exact one n 4 l (.inr rfl) (pl_ind leaf one two n _ _ h)
  ·exact two n (a + 9) l r (by omega) (pl_ind leaf one two n _ _ h) (pl_ind leaf one two n _ _ k)
  ·exact two n (a + 3) l r (by omega) (pl_ind leaf one two n _ _ h) (pl_ind leaf one two n _ _ k)
theorem pl_cn {C : Cl2} {n : Nat} {kind : Int} {t : Tr} (h : Pl C n kind t) : Cn (2 * n) t := by
 refine pl_ind (M := fun n t => Cn (2 * n) t) ?_ ?_ ?_ n kind t h
 ·intro n kind t h
  rcases leaf_or h with ⟨tb,m,rfl,_⟩ | ⟨s,rfl,_⟩ | ⟨i,rfl,_⟩
  ·exact .col _ _ _
  ·exact .text _ _
  ·exact .int _ _
 ·intro n o l ho h
  rcases ho with rfl | rfl
  ·exact .neg h
  ·exact .not h
 ·intro n j l r hj h k
  exact (Cn.two hj h k).mono (by omega)
theorem pl_cnd {C : Cl2} {n : Nat} {kind : Int} {t : Tr} (h : Pl C n kind t) (hn : n ≤ 5) (D : Prop) : CnD D t := ⟨_,pl_cn h,.inl (by omega)⟩
theorem ok_op : ∀ j,j < 11 → WdOK (opW j) := by
 intro j hj
 match j,hj with
 | 0,_ => exact .sign 43 (by decide)
 | 1,_ => exact .sign 45 (by decide)
 | 2,_ => exact .sign 42 (by decide)
 | 3,_ => exact .sign 61 (by decide)
 | 4,_ => exact .ang 60 [62] (.inr (.inl ⟨rfl,.inr rfl⟩))
 | 5,_ => exact .ang 60 [] (.inl ⟨.inl rfl,rfl⟩)
 | 6,_ => exact .ang 60 [61] (.inr (.inl ⟨rfl,.inl rfl⟩))
 | 7,_ => exact .ang 62 [] (.inl ⟨.inr rfl,rfl⟩)
 | 8,_ => exact .ang 62 [61] (.inr (.inr ⟨rfl,rfl⟩))
 | 9,_ => exact ok_kw (s := ⟨#[97,110,100]⟩) (by decide +kernel) (by decide +kernel)
 | 10,_ => exact ok_kw (s := ⟨#[111,114]⟩) (by decide +kernel) (by decide +kernel)
theorem col_ok {C : Cl2} (hC : NmC C) {kind : Int} {tb n : ByteArray} (h : ColOK C kind tb n) : (tb = ⟨#[]⟩ ∨ WdOK (nm tb)) ∧ WdOK (nm n) ∧ tb.size ≤ 2 ∧ n.size ≤ 2 := by
 obtain ⟨x,hx,_,rfl,rfl | ⟨rfl,_⟩⟩ := h
 ·exact ⟨.inr (hC x hx).1.1,(hC x hx).2.1,(hC x hx).1.2,(hC x hx).2.2⟩
 ·exact ⟨.inl rfl,(hC x hx).2.1,Nat.zero_le _,(hC x hx).2.2⟩
theorem col_words_ok {tb n : ByteArray} (h : tb = ⟨#[]⟩ ∨ WdOK (nm tb)) (k : WdOK (nm n)) : ∀ w ∈ wdE (tCol tb n),WdOK w := by
 intro w hw
 by_cases h0 : tb = ⟨#[]⟩
 ·subst h0
  have hw' : w ∈ [nm n] := hw
  rw [List.mem_singleton] at hw'
  subst hw'
  exact k
 ·have e : wdE (tCol tb n) = [nm tb,(5,⟨#[46]⟩,0),nm n] := by show (if tb = ⟨#[]⟩ then _ else _) = _; rw [if_neg h0]; rfl
  rw [e] at hw
  simp only [List.mem_cons,List.not_mem_nil,or_false] at hw
  rcases hw with rfl | rfl | rfl
  ·exact h.resolve_left h0
  ·exact .sign 46 (by decide)
  ·exact k
theorem text_ok {s : ByteArray} (h : s ∈ [⟨#[97]⟩,⟨#[98]⟩,⟨#[]⟩,⟨#[105,116,39,115]⟩,⟨#[122,122]⟩]) : WdOK (4,s,0) ∧ s.size ≤ 4 := by
 simp only [List.mem_cons,List.not_mem_nil,or_false] at h
 rcases h with rfl | rfl | rfl | rfl | rfl
 ·exact ⟨.text [97] (by decide) (by decide),by decide⟩
 ·exact ⟨.text [98] (by decide) (by decide),by decide⟩
 ·exact ⟨.text [] (by decide) (by decide),by decide⟩
 ·exact ⟨.text [105,116,39,115] (by decide) (by decide),by decide⟩
 ·exact ⟨.text [122,122] (by decide) (by decide),by decide⟩
theorem int_ok {i : Int} (h : (0 ≤ i ∧ i < 11) ∨ i = 9223372036854775807) : Fits i ∧ 0 ≤ i ∧ WdOK (3,⟨#[]⟩,i) := by
 have h0 : 0 ≤ i := by omega
 have hf : Fits i := ⟨by omega,by omega⟩
 refine ⟨hf,h0,?_⟩
 obtain ⟨k,rfl⟩ := Int.eq_ofNat_of_zero_le h0
 exact .num k hf
theorem wdE_one3 (l : Tr) : wdE (tOne 3 l) = (5,⟨#[40]⟩,0) :: (5,⟨#[45]⟩,0) :: (wdE l ++ [(5,⟨#[41]⟩,0)]) := rfl
theorem wdE_one4 (l : Tr) : wdE (tOne 4 l) = (5,⟨#[40]⟩,0) :: (2,⟨#[110,111,116]⟩,0) :: (wdE l ++ [(5,⟨#[41]⟩,0)]) := rfl
theorem pl_words {C : Cl2} (hC : NmC C) {n : Nat} {kind : Int} {t : Tr} (h : Pl C n kind t) : ∀ w ∈ wdE t,WdOK w := by
 have hop : WdOK (5,⟨#[40]⟩,0) := .sign 40 (by decide)
 have hcl : WdOK (5,⟨#[41]⟩,0) := .sign 41 (by decide)
 refine pl_ind (M := fun _ t => ∀ w ∈ wdE t,WdOK w) ?_ ?_ ?_ n kind t h
 ·intro n kind t h
  rcases leaf_or h with ⟨tb,m,rfl,hc⟩ | ⟨s,rfl,hc⟩ | ⟨i,rfl,hc⟩
  ·exact col_words_ok (col_ok hC hc).1 (col_ok hC hc).2.1
  ·intro w hw
   have hw' : w ∈ [((4 : Int),s,(0 : Int))] := hw
   rw [List.mem_singleton] at hw'
   subst hw'
   exact (text_ok hc).1
  ·intro w hw
   have hw' : w ∈ [((3 : Int),(⟨#[]⟩ : ByteArray),i)] := hw
   rw [List.mem_singleton] at hw'
   subst hw'
   exact (int_ok hc).2.2
 ·intro n o l ho h w hw
  rcases ho with rfl | rfl
  ·rw [wdE_one3] at hw
   simp only [List.mem_cons,List.mem_append,List.not_mem_nil,or_false] at hw
   rcases hw with rfl | rfl | hw | rfl
   ·exact hop
   ·exact .sign 45 (by decide)
   ·exact h w hw
   ·exact hcl
  ·rw [wdE_one4] at hw
   simp only [List.mem_cons,List.mem_append,List.not_mem_nil,or_false] at hw
   rcases hw with rfl | rfl | hw | rfl
   ·exact hop
   ·exact ok_kw (s := ⟨#[110,111,116]⟩) (by decide +kernel) (by decide +kernel)
   ·exact h w hw
   ·exact hcl
 ·intro n j l r hj h k w hw
  rw [wdE_two] at hw
  simp only [List.mem_cons,List.mem_append,List.not_mem_nil,or_false] at hw
  rcases hw with rfl | hw | rfl | hw | rfl
  ·exact hop
  ·exact h w hw
  ·exact ok_op j hj
  ·exact k w hw
  ·exact hcl
def szN : Nat → Nat
 | 0 => 21
 | n + 1 => 2 * szN n + 7
theorem szN_pos : ∀ n,21 ≤ szN n
 | 0 => Nat.le_refl _
 | n + 1 => by have := szN_pos n; rw [szN]; omega
theorem leaf_size {C : Cl2} (hC : NmC C) {kind : Int} {t : Tr} (h : LeafOK C kind t) : (shE t).size ≤ 21 := by
 rcases leaf_or h with ⟨tb,m,rfl,hc⟩ | ⟨s,rfl,hc⟩ | ⟨i,rfl,hc⟩
 ·obtain ⟨_,_,h1,h2⟩ := col_ok hC hc
  show (coB tb m).size ≤ 21
  rw [coB]
  split
  ·omega
  ·rw [ByteArray.size_append,ByteArray.size_append]
   have : (⟨#[46]⟩ : ByteArray).size = 1 := rfl
   omega
 ·have h4 := (text_ok hc).2
  have e : shE (tText s) = quB s := rfl
  rw [e]
  have := quB_size s
  omega
 ·obtain ⟨hf,h0,_⟩ := int_ok hc
  have e : shE (tInt i) = if (1 : Int) = 1 ∧ i < 0 then ⟨#[]⟩ else ⟨(Lib.itoa i).toArray⟩ := rfl
  rw [e,if_neg (by omega)]
  have := Lib.itoa_length_le i hf.1 hf.2
  show (Lib.itoa i).toArray.size ≤ 21
  simpa using this
theorem pl_size {C : Cl2} (hC : NmC C) {n : Nat} {kind : Int} {t : Tr} (h : Pl C n kind t) : (shE t).size ≤ szN n := by
 refine pl_ind (M := fun n t => (shE t).size ≤ szN n) ?_ ?_ ?_ n kind t h
 ·intro n kind t h
  exact Nat.le_trans (leaf_size hC h) (szN_pos n)
 ·intro n o l ho h
  have := szN_pos n
  rcases ho with rfl | rfl
  ·have e : shE (tOne 3 l) = (⟨#[40,45]⟩ ++ shE l) ++ ⟨#[41]⟩ := rfl
   have e1 : (⟨#[40,45]⟩ : ByteArray).size = 2 := rfl
   have e2 : (⟨#[41]⟩ : ByteArray).size = 1 := rfl
   rw [e,ByteArray.size_append,ByteArray.size_append,szN]
   omega
  ·have e : shE (tOne 4 l) = (⟨#[40,110,111,116,32]⟩ ++ shE l) ++ ⟨#[41]⟩ := rfl
   have e1 : (⟨#[40,110,111,116,32]⟩ : ByteArray).size = 5 := rfl
   have e2 : (⟨#[41]⟩ : ByteArray).size = 1 := rfl
   rw [e,ByteArray.size_append,ByteArray.size_append,szN]
   omega
 ·intro n j l r hj h k
  have e : shE (tTwo (j + 5) l r) = (((((⟨#[40]⟩ ++ shE l) ++ ⟨#[32]⟩) ++ opT j) ++ ⟨#[32]⟩) ++ shE r) ++ ⟨#[41]⟩ := by
   show (if j + 5 = 1 then _ else if j + 5 = 2 then _ else if j + 5 = 3 then _ else if j + 5 = 4 then _ else _) = _
   rw [if_neg (by omega),if_neg (by omega),if_neg (by omega),if_neg (by omega)]
   rfl
  have e1 : (⟨#[40]⟩ : ByteArray).size = 1 := rfl
  have e2 : (⟨#[32]⟩ : ByteArray).size = 1 := rfl
  have e3 : (⟨#[41]⟩ : ByteArray).size = 1 := rfl
  have := opT_size j
  rw [e,ByteArray.size_append,ByteArray.size_append,ByteArray.size_append,ByteArray.size_append,ByteArray.size_append,ByteArray.size_append,szN]
  omega
theorem pl_wf {C : Cl2} (hC : NmC C) {n : Nat} {kind : Int} {t : Tr} (h : Pl C n kind t) : WfT t := by
 have f0 : Fits 0 := ⟨by decide,by decide⟩
 refine pl_ind (M := fun _ t => WfT t) ?_ ?_ ?_ n kind t h
 ·intro n kind t h
  rcases leaf_or h with ⟨tb,m,rfl,hc⟩ | ⟨s,rfl,hc⟩ | ⟨i,rfl,hc⟩
  ·obtain ⟨_,_,h1,h2⟩ := col_ok hC hc
   exact ⟨⟨f0,Nat.zero_le _,Nat.le_trans h1 (by decide),Nat.le_trans h2 (by decide)⟩,.inl (.inr rfl)⟩
  ·exact ⟨⟨f0,Nat.le_trans (text_ok hc).2 (by decide),Nat.zero_le _,Nat.zero_le _⟩,.inl (.inl rfl)⟩
  ·exact ⟨⟨(int_ok hc).1,Nat.zero_le _,Nat.zero_le _,Nat.zero_le _⟩,.inl (.inl rfl)⟩
 ·intro n o l ho h
  exact ⟨⟨f0,Nat.zero_le _,Nat.zero_le _,Nat.zero_le _⟩,.inr (.inl ⟨ho,h⟩)⟩
 ·intro n j l r hj h k
  exact ⟨⟨f0,Nat.zero_le _,Nat.zero_le _,Nat.zero_le _⟩,.inr (.inr ⟨by omega,by omega,h,k⟩)⟩
theorem told_pcs {m : Sf} (h : SfOK False m) {l : List Pc} (hl : l.map Prod.snd = wF m) (hf : Fl false l) {s : ByteArray} {j : Nat} (hs : bs s = ren l ++ List.replicate j 32) (h4 : s.size ≤ 400) : ∀ X a f,PaR s X a f → f = 0 ∧ X = some m := by
 intro X a f hp
 obtain ⟨ts,b,e,h1,h2⟩ := hp
 obtain ⟨rfl,rfl,rfl⟩ := (lexR_pcs hf hs h4).det h1
 have hb := parse_back h hl (s.size : Int)
 rcases h2 with ⟨he,_⟩ | ⟨_,⟨x,hx,_,_,_,_⟩ | ⟨m',r,hx,rfl,rfl,rfl⟩⟩
 ·exact absurd rfl he
 ·rw [hb] at hx; cases hx
 ·rw [hb] at hx
  cases hx
  exact ⟨rfl,rfl⟩
theorem told_shown {m : Sf} (h : SfOK False m) (hw : ∀ w ∈ wF m,WdOK w) {s : ByteArray} (hs : bs s = ren (pcF m)) (h4 : s.size ≤ 400) : ∀ X a f,PaR s X a f → f = 0 ∧ X = some m :=
 told_pcs h (l := pcF m) rfl (Fl.of (ad_f m) hw) (j := 0) (by rw [hs]; simp) h4
end Go.Proofs.YtfopfhlohihihaaGreat
namespace Go.Proofs.YtfopfhlohihihaaGreat
open Go.RowKit
set_option linter.unusedVariables false
set_option linter.unusedSimpArgs false
theorem nums_of {w : World} {a : Option Addr} {len cap : Nat} {xs : List Int} (h : Rd .u8 w a len cap xs) (hx : ∀ x ∈ xs,0 ≤ x ∧ x ≤ 255) : Nums w w.heap.size a len := fun hp => by
 obtain ⟨b,o,ha,hc⟩ := h.cells hp
 have hb : b < w.heap.size := World.block_lt_of_cell? _ _ (hc 0 hp)
 refine ⟨b,o,ha,hb,hb,fun k hk => ?_⟩
 have hk' : k < xs.length := by rw [h.len]; exact hk
 have hm : nth xs k ∈ xs := by rw [nth,List.getElem?_eq_getElem hk']; exact List.getElem_mem _
 exact ⟨nth xs k,(hx _ hm).1,(hx _ hm).2,hc k hk⟩
set_option maxRecDepth 100000 in
set_option maxHeartbeats 1000000 in
theorem made_any {w : World} {a : Option Addr} {len cap : Nat} (h1 : len ≤ cap) (h2 : cap ≤ 9223372036854775807) (h3 : Nums w w.heap.size a len) :
  Calls Tryz.prog 8 #[.slice a len cap] w fun e w' => e = .returned (.pointer (some ⟨w.heap.size,0,none⟩)) ∧ Pk w' w.heap.size len ∧ Below w.heap.size w w' := by
 have hb := bal (Below.refl _ w) (.cells #[.slice a len cap,.int .i64 ((0 : Nat) : Int)] 67)
 have hp : Pk (w.alloc (.cells #[.slice a len cap,.int .i64 ((0 : Nat) : Int)] 67)) w.heap.size len := ⟨a,len,cap,0,⟨heap_alloc_new w _⟩,by omega,h1,h2,h3.keep (by have := hb.size; omega) fun k hk => hb.block k hk⟩
 have T : Hid _ := hid (And.intro hp hb)
 clear hp hb h3
 go_enter Tryz.func8,Tryz.ntmps8
 go_wp2
 go_ret
 exact ⟨rfl,T.out.1,T.out.2⟩
end Go.Proofs.YtfopfhlohihihaaGreat
