import Derived.Test.YtfopfhlohihihaaGreatSaz
namespace Go.Proofs.YtfopfhlohihihaaGreat
open Go.RowKit
set_option linter.unusedVariables false
set_option linter.unusedSimpArgs false
def IsCol (t : Tr) : Prop := ∃ a n,t = tCol a n
theorem rds_col' {D : Prop} {t : Tr} (h : IsCol t) {S : List ByteArray} (hS : ⟨#[46]⟩ ∉ S) : Rds D columnP (wdE t) t (some S) := by
 obtain ⟨a,n,rfl⟩ := h
 exact rds_col a n hS
def ItOK (x : It) : Prop := x.1 = 0 ∨ x = (1,⟨#[]⟩,⟨#[]⟩) ∨ x.1 = 2 ∨ x.1 = 3 ∨ x.1 = 4
def CoOK (c : Co) : Prop := c.2.1 = 1 ∨ c.2.1 = 2
def TaOK (z : Int) : Prop := 0 ≤ z ∧ z ≤ 65535
def One (D : Prop) (l : List Tr) : Prop := l = [] ∨ ∃ t,l = [t] ∧ CnD D t
def wIt (x : It) : List Wd := (pcItem 0 x).map Prod.snd
def wCo (c : Co) : List Wd := (pcCol 0 c).map Prod.snd
theorem item_words (k : Nat) (x : It) : (pcItem k x).map Prod.snd = wIt x := by
 rw [wIt,pcItem,pcItem]
 split
 ·rw [pcE_words,pcE_words]
 ·split <;> rfl
theorem col_words (k : Nat) (c : Co) : (pcCol k c).map Prod.snd = wCo c := rfl
def itF : List ByteArray := [⟨#[44]⟩,⟨#[102,114,111,109]⟩]
theorem wdE_head {t n : ByteArray} {ts R : List Tk} (hm : ts.map wdOf = wdE (tCol t n)) : kdOf (ts ++ R) = 1 := by
 by_cases h0 : t = ⟨#[]⟩
 ·subst h0
  obtain ⟨a,l',rfl,h1,h2⟩ := List.map_eq_cons_iff.1 (show ts.map wdOf = [(1,n,0)] from hm)
  rw [tk_eta h1]; rfl
 ·have hm' : ts.map wdOf = [(1,t,0),(5,⟨#[46]⟩,0),(1,n,0)] := hm.trans (by show (if t = ⟨#[]⟩ then _ else _) = _; rw [if_neg h0])
  obtain ⟨a,l',rfl,h1,h2⟩ := List.map_eq_cons_iff.1 hm'
  rw [tk_eta h1]; rfl
theorem name_no {X : List Tk} (h : kdOf X = 1) (s : ByteArray) : isTk s X = false := by
 cases X with
 | nil => rfl
 | cons a X => have h' : a.1 = 1 := h; simp [isTk,h']
theorem name_ops {X : List Tk} (h : kdOf X = 1) : ∀ l : List (ByteArray × Int),oneOf l X = 0
 | [] => rfl
 | c :: l => by rw [oneOf,if_neg (by rw [name_no h]; simp),name_ops h l]
theorem rds_item {D : Prop} {x : It} (h : ItOK x) : Rds D itemP (wIt x) x (some itF) := by
 obtain ⟨g,t,n⟩ := x
 intro ts R hm hR
 rcases h with h | h | h
 ·have h' : g = 0 := h
  subst h'
  have hm' : ts.map wdOf = wdE (tCol t n) := hm.trans (by rw [wIt,pcItem,if_pos rfl,pcE_words])
  have hk := wdE_head (R := R) hm'
  rw [itemP,if_neg (by rw [name_no hk]; simp),if_pos (name_ops hk _)]
  exact (rds_col t n (S := itF) (nmem_of rfl) ts R hm' hR).map (itemC 0)
 ·cases h
  have hm' : ts.map wdOf = [kw ⟨#[99,111,117,110,116]⟩,sg ⟨#[40]⟩,sg ⟨#[42]⟩,sg ⟨#[41]⟩] := hm
  obtain ⟨a,l1,rfl,h1,h2⟩ := List.map_eq_cons_iff.1 hm'
  obtain ⟨b,l2,rfl,h3,h4⟩ := List.map_eq_cons_iff.1 h2
  obtain ⟨c,l3,rfl,h5,h6⟩ := List.map_eq_cons_iff.1 h4
  obtain ⟨d,l4,rfl,h7,h8⟩ := List.map_eq_cons_iff.1 h6
  obtain rfl := List.map_eq_nil_iff.1 h8
  rw [tk_eta h1,tk_eta h3,tk_eta h5,tk_eta h7]
  exact .inl rfl
 ·have hg : g = 2 ∨ g = 3 ∨ g = 4 := h
  have hm' : ts.map wdOf = kw (aggW g) :: (sg ⟨#[40]⟩ :: (wdE (tCol t n) ++ [sg ⟨#[41]⟩])) := hm.trans (by
   rw [wIt,pcItem,if_neg (show ¬ g = 0 by omega),if_neg (show ¬ g = 1 by omega)]
   simp [pcE_words])
  obtain ⟨a,l1,rfl,h1,h2⟩ := List.map_eq_cons_iff.1 hm'
  have hx := Rds.seq (D := D) (f := fun (_ : Unit) x => itemC g x) (rds_want (w := sg ⟨#[40]⟩) (.inr rfl)) (Rds.seq (f := fun x (_ : Unit) => x) (rds_col t n (S := [⟨#[41]⟩]) (nmem_of rfl)) (rds_want (w := sg ⟨#[41]⟩) (.inr rfl)) ⟨.inr rfl,mem_of rfl⟩) trivial l1 R h2 trivial
  have e1 : isTk ⟨#[99,111,117,110,116]⟩ (a :: (l1 ++ R)) = false := by rw [tk_eta h1]; rcases hg with rfl | rfl | rfl <;> rfl
  have e2 : oneOf opsAgg (a :: (l1 ++ R)) = g := by rw [tk_eta h1]; rcases hg with rfl | rfl | rfl <;> rfl
  rw [List.cons_append,itemP,if_neg (by rw [e1]; simp),e2,if_neg (by omega)]
  exact hx
theorem rds_coldef {D : Prop} {c : Co} (h : CoOK c) : Rds D colP (wCo c) c (some [⟨#[44]⟩,⟨#[41]⟩]) := by
 obtain ⟨n,k,r⟩ := c
 have hk : k = 1 ∨ k = 2 := h
 have h1 : Rds D (choiceP opsKind) [kw (kindW k)] k none := by
  intro ts R hm _
  obtain ⟨a,l1,rfl,h1,h2⟩ := List.map_eq_cons_iff.1 hm
  obtain rfl := List.map_eq_nil_iff.1 h2
  have e2 : oneOf opsKind (a :: ([] ++ R)) = k := by rw [tk_eta h1]; rcases hk with rfl | rfl <;> rfl
  rw [List.cons_append,choiceP,e2,if_neg (by omega)]
  exact .inl rfl
 by_cases hr : r = ⟨#[]⟩
 ·subst hr
  exact Rds.seq (f := fun n (x : Int × ByteArray) => ((n,x.1,x.2) : Co)) (rds_name n) (Rds.seq (f := Prod.mk) h1 (rds_opt_no (s := ⟨#[114,101,102]⟩) (z := (⟨#[]⟩ : ByteArray)) (P := nameP) (S := [⟨#[44]⟩,⟨#[41]⟩]) (nmem_of rfl)) trivial) trivial
 ·have e : wCo (n,k,r) = [nm n] ++ ([kw (kindW k)] ++ (kw ⟨#[114,101,102]⟩ :: [nm r])) := by
   rw [wCo,pcCol,if_neg hr]; rfl
  rw [e]
  exact (Rds.seq (f := fun n (x : Int × ByteArray) => ((n,x.1,x.2) : Co)) (rds_name n) (Rds.seq (f := Prod.mk) h1 (rds_opt (w := kw ⟨#[114,101,102]⟩) (.inl rfl) (z := (⟨#[]⟩ : ByteArray)) (rds_name r)) trivial) trivial).mono trivial
def whF : List ByteArray := [⟨#[111,114,100,101,114]⟩,⟨#[41]⟩]
def joF : List ByteArray := [⟨#[119,104,101,114,101]⟩,⟨#[111,114,100,101,114]⟩,⟨#[41]⟩]
def fiF : List ByteArray := [⟨#[41]⟩]
def wWh (l : List Tr) : List Wd := (pcWh l).map Prod.snd
theorem rds_where {D : Prop} {l : List Tr} (h : One D l) : Rds D behindP (wWh l) l (some whF) := by
 rcases h with rfl | ⟨t,rfl,ht⟩
 ·exact rds_opt_no (nmem_of rfl)
 ·have e : wWh [t] = kw ⟨#[119,104,101,114,101]⟩ :: wdE t := by rw [wWh,pcWh,List.map_cons,pcE_words]
  rw [e]
  exact rds_opt (w := kw ⟨#[119,104,101,114,101]⟩) (.inl rfl) (((rds_expr ht).mono ⟨_,rfl,sub_of rfl⟩).map fun x => [x])
def wJo (j : ByteArray) (l : List Tr) : List Wd := (pcJoin j l).map Prod.snd
def JoOK (j : ByteArray) (l : List Tr) : Prop := (j = ⟨#[]⟩ ∧ l = []) ∨ ∃ a b,l = [a,b] ∧ IsCol a ∧ IsCol b
theorem rds_join {D : Prop} {j : ByteArray} {l : List Tr} (h : JoOK j l) : Rds D joinP (wJo j l) (j,l) (some joF) := by
 rcases h with ⟨rfl,rfl⟩ | ⟨a,b,rfl,ha,hb⟩
 ·exact rds_opt_no (nmem_of rfl)
 ·have e : wJo j [a,b] = kw ⟨#[106,111,105,110]⟩ :: ([nm j] ++ ([kw ⟨#[111,110]⟩] ++ (wdE a ++ ([sg ⟨#[61]⟩] ++ wdE b)))) := by
   rw [wJo,pcJoin]
   simp [pcE_words]
  rw [e]
  exact rds_opt (w := kw ⟨#[106,111,105,110]⟩) (.inl rfl) (Rds.seq (f := Prod.mk) (rds_name j) (Rds.seq (f := fun (_ : Unit) l => l) (rds_want (w := kw ⟨#[111,110]⟩) (.inl rfl)) (Rds.seq (f := fun a b => [a,b]) (rds_col' ha (S := [⟨#[61]⟩]) (nmem_of rfl)) (Rds.seq (f := fun (_ : Unit) b => b) (rds_want (w := sg ⟨#[61]⟩) (.inr rfl)) (rds_col' hb (nmem_of rfl)) trivial) ⟨.inr rfl,mem_of rfl⟩) trivial) trivial)
def wOr (d : Bool) (l : List Tr) : List Wd := (pcOrd d l).map Prod.snd
def OrOK (d : Bool) (l : List Tr) : Prop := (d = false ∧ l = []) ∨ ∃ a,l = [a] ∧ IsCol a
theorem rds_desc {D : Prop} (d : Bool) : Rds D descP (if d then [kw ⟨#[100,101,115,99]⟩] else []) d (some fiF) := by
 intro ts R hm hR
 refine .inl ?_
 cases d with
 | false =>
  obtain rfl := List.map_eq_nil_iff.1 (show ts.map wdOf = [] from hm)
  have := hR.no (s := ⟨#[100,101,115,99]⟩) (nmem_of rfl)
  rw [List.nil_append,descP,this]
  rfl
 | true =>
  obtain ⟨a,l1,rfl,h1,h2⟩ := List.map_eq_cons_iff.1 (show ts.map wdOf = [kw ⟨#[100,101,115,99]⟩] from hm)
  obtain rfl := List.map_eq_nil_iff.1 h2
  rw [tk_eta h1]
  rfl
theorem rds_order {D : Prop} {d : Bool} {l : List Tr} (h : OrOK d l) : Rds D ordP (wOr d l) (l,d) (some fiF) := by
 rcases h with ⟨rfl,rfl⟩ | ⟨a,rfl,ha⟩
 ·exact rds_opt_no (nmem_of rfl)
 ·have e : wOr d [a] = kw ⟨#[111,114,100,101,114]⟩ :: (([kw ⟨#[98,121]⟩] ++ wdE a) ++ (if d then [kw ⟨#[100,101,115,99]⟩] else [])) := by
   rw [wOr,pcOrd]
   cases d <;> simp [pcE_words]
  rw [e]
  have h1 : Rds D orderP ([kw ⟨#[98,121]⟩] ++ wdE a) [a] (some [⟨#[100,101,115,99]⟩,⟨#[41]⟩]) := Rds.seq (f := fun (_ : Unit) l => l) (rds_want (w := kw ⟨#[98,121]⟩) (.inl rfl)) ((rds_col' ha (nmem_of rfl)).map fun x => [x]) trivial
  refine rds_opt (w := kw ⟨#[111,114,100,101,114]⟩) (.inl rfl) (Rds.seq (f := Prod.mk) h1 (rds_desc d) ?_)
  cases d with
  | false => exact ⟨fiF,rfl,sub_of rfl⟩
  | true => exact ⟨.inl rfl,mem_of rfl⟩
def wSt (l : List It) : List Wd := (pcStar l).map Prod.snd
theorem jw_item (k : Nat) (l : List It) : (jp pcItem k l).map Prod.snd = jw wIt l := jp_words item_words k l
theorem item_head {x : It} (h : ItOK x) {ts R : List Tk} (hm : ts.map wdOf = wIt x) : isTk ⟨#[42]⟩ (ts ++ R) = false := by
 obtain ⟨g,t,n⟩ := x
 rcases h with h | h | h
 ·have h' : g = 0 := h
  subst h'
  exact name_no (wdE_head (R := R) (hm.trans (by rw [wIt,pcItem,if_pos rfl,pcE_words]))) _
 ·cases h
  obtain ⟨a,l1,rfl,h1,h2⟩ := List.map_eq_cons_iff.1 (show ts.map wdOf = [kw ⟨#[99,111,117,110,116]⟩,sg ⟨#[40]⟩,sg ⟨#[42]⟩,sg ⟨#[41]⟩] from hm)
  rw [tk_eta h1]; rfl
 ·have hg : g = 2 ∨ g = 3 ∨ g = 4 := h
  have hm' : ts.map wdOf = kw (aggW g) :: (sg ⟨#[40]⟩ :: (wdE (tCol t n) ++ [sg ⟨#[41]⟩])) := hm.trans (by
   rw [wIt,pcItem,if_neg (show ¬ g = 0 by omega),if_neg (show ¬ g = 1 by omega)]
   simp [pcE_words])
  obtain ⟨a,l1,rfl,h1,h2⟩ := List.map_eq_cons_iff.1 hm'
  rw [tk_eta h1]; rcases hg with rfl | rfl | rfl <;> rfl
theorem rds_star {D : Prop} {l : List It} (h : ∀ x ∈ l,ItOK x) : Rds D starP (wSt l) l (some [⟨#[102,114,111,109]⟩]) := by
 by_cases h0 : l = []
 ·subst h0
  intro ts R hm _
  obtain ⟨a,l1,rfl,h1,h2⟩ := List.map_eq_cons_iff.1 (show ts.map wdOf = [sg ⟨#[42]⟩] from hm)
  obtain rfl := List.map_eq_nil_iff.1 h2
  rw [tk_eta h1]
  exact .inl rfl
 ·have e : wSt l = jw wIt l := by rw [wSt,pcStar,if_neg h0,jw_item]
  rw [e]
  intro ts R hm hR
  have hs : isTk ⟨#[42]⟩ (ts ++ R) = false := by
   obtain ⟨x,l,rfl⟩ := List.exists_cons_of_ne_nil h0
   obtain ⟨t1,t2,rfl,h3,h4⟩ := List.map_eq_append_iff.1 (show ts.map wdOf = wIt x ++ jwT wIt l from hm)
   rw [List.append_assoc]
   exact item_head (h x (by simp)) h3
  rw [starP,if_neg (by rw [hs]; simp)]
  exact rds_list (S := some itF) (S' := [⟨#[102,114,111,109]⟩]) ⟨.inr rfl,mem_of rfl⟩ ⟨_,rfl,sub_of rfl⟩ (nmem_of rfl) h0 (fun x hx => rds_item (h x hx)) ts R hm hR
def SmOK (D : Prop) (m : Sm) : Prop :=
 (∃ tb vs,vs ≠ [] ∧ (∀ t ∈ vs,CnD D t) ∧ m = up_va (up_tb (sm 5) tb) vs) ∨
 (∃ its tb j on wh od d,(∀ x ∈ its,ItOK x) ∧ JoOK j on ∧ One D wh ∧ OrOK d od ∧ m = up_oo (up_wh (up_jo (up_tb (up_it (sm 6) its) tb) (j,on)) wh) (od,d)) ∨
 (∃ tb nm t wh,CnD D t ∧ One D wh ∧ m = up_wh (up_va (up_nm (up_tb (sm 7) tb) nm) [t]) wh) ∨
 (∃ tb wh,One D wh ∧ m = up_wh (up_tb (sm 8) tb) wh)
def wS (m : Sm) : List Wd := (pcS 0 m).map Prod.snd
theorem s_words (k : Nat) (m : Sm) : (pcS k m).map Prod.snd = wS m := by
 rw [wS,pcS,pcS]
 split
 ·rfl
 split
 ·rfl
 split <;> rfl
theorem jw_expr (l : List Tr) : (jp pcE 0 l).map Prod.snd = jw wdE l := jp_words (fun k y => pcE_words y k) 0 l
theorem rds_insert {D : Prop} {tb : ByteArray} {vs : List Tr} (h0 : vs ≠ []) (h : ∀ t ∈ vs,CnD D t) : Rds D insertP ((pcInsert (up_va (up_tb (sm 5) tb) vs)).map Prod.snd) (up_va (up_tb (sm 5) tb) vs) none := by
 have e : (pcInsert (up_va (up_tb (sm 5) tb) vs)).map Prod.snd = (([kw ⟨#[105,110,116,111]⟩] ++ [nm tb]) ++ [kw ⟨#[118,97,108,117,101,115]⟩]) ++ (sg ⟨#[40]⟩ :: (jw wdE vs ++ [sg ⟨#[41]⟩])) := by
  rw [pcInsert,List.map_cons,List.map_cons,List.map_cons,List.map_cons,List.map_append]
  show kw ⟨#[105,110,116,111]⟩ :: nm tb :: kw ⟨#[118,97,108,117,101,115]⟩ :: sg ⟨#[40]⟩ :: ((jp pcE 0 vs).map Prod.snd ++ [sg ⟨#[41]⟩]) = _
  rw [jw_expr]
  rfl
 rw [e]
 exact (Fr.then (Fr.then (Fr.then (fr_want (w := kw ⟨#[105,110,116,111]⟩) (.inl rfl) (sm 5)) (fr_fill (rds_name tb) up_tb _) trivial) (fr_want (w := kw ⟨#[118,97,108,117,101,115]⟩) (.inl rfl) _) trivial) (fr_fill (rds_br (S := some exF) ⟨.inr rfl,mem_of rfl⟩ ⟨_,rfl,sub_of rfl⟩ h0 (fun t ht => rds_expr (h t ht))) up_va _) trivial).rds
theorem hd_wh {D : Prop} {S : List ByteArray} (h1 : ⟨#[119,104,101,114,101]⟩ ∈ S) (h2 : ∀ s ∈ whF,s ∈ S) {l : List Tr} (h : One D l) : Hd (some S) (wWh l) (some whF) := by
 rcases h with rfl | ⟨t,rfl,ht⟩
 ·exact ⟨_,rfl,h2⟩
 ·exact ⟨.inl rfl,h1⟩
theorem rds_delete {D : Prop} {tb : ByteArray} {wh : List Tr} (h : One D wh) : Rds D deleteP ((pcDelete (up_wh (up_tb (sm 8) tb) wh)).map Prod.snd) (up_wh (up_tb (sm 8) tb) wh) (some whF) := by
 have e : (pcDelete (up_wh (up_tb (sm 8) tb) wh)).map Prod.snd = ([kw ⟨#[102,114,111,109]⟩] ++ [nm tb]) ++ wWh wh := rfl
 rw [e]
 exact (Fr.then (Fr.then (fr_want (w := kw ⟨#[102,114,111,109]⟩) (.inl rfl) (sm 8)) (fr_fill (rds_name tb) up_tb _) trivial) (fr_fill (rds_where h) up_wh _) trivial).rds
theorem rds_expr1 {D : Prop} {t : Tr} (h : CnD D t) : Rds D expr1P (wdE t) [t] (some joF) := by
 obtain ⟨d,h,hd⟩ := h
 refine Rds.map ?_ fun x => [x]
 intro ts R hm hR
 exact expr_of (back h 64 hd ts R hm (hR.no (nmem_of rfl))) (head_not h hm R) (hR.ops (by simp [opsTerm,joF])) (hR.ops (by simp [opsSum,joF])) (hR.ops (by simp [opsComp,joF])) (hR.ops (by simp [opsAnd,joF])) (hR.ops (by simp [opsOr,joF]))
theorem rds_update {D : Prop} {tb n : ByteArray} {t : Tr} {wh : List Tr} (ht : CnD D t) (h : One D wh) : Rds D updateP ((pcUpdate (up_wh (up_va (up_nm (up_tb (sm 7) tb) n) [t]) wh)).map Prod.snd) (up_wh (up_va (up_nm (up_tb (sm 7) tb) n) [t]) wh) (some whF) := by
 have e : (pcUpdate (up_wh (up_va (up_nm (up_tb (sm 7) tb) n) [t]) wh)).map Prod.snd = (((([nm tb] ++ [kw ⟨#[115,101,116]⟩]) ++ [nm n]) ++ [sg ⟨#[61]⟩]) ++ wdE t) ++ wWh wh := by
  rw [pcUpdate]
  show nm tb :: kw ⟨#[115,101,116]⟩ :: nm n :: sg ⟨#[61]⟩ :: (pcE 1 t ++ pcWh wh).map Prod.snd = _
  rw [List.map_append,pcE_words]
  simp [wWh]
 rw [e]
 exact (Fr.then (Fr.then (Fr.then (Fr.then (Fr.then (fr_fill (rds_name tb) up_tb (sm 7)) (fr_want (w := kw ⟨#[115,101,116]⟩) (.inl rfl) _) trivial) (fr_fill (rds_name n) up_nm _) trivial) (fr_want (w := sg ⟨#[61]⟩) (.inr rfl) _) trivial) (fr_fill (rds_expr1 ht) up_va _) trivial) (fr_fill (rds_where h) up_wh _) (hd_wh (mem_of rfl) (sub_of rfl) h)).rds
theorem hd_or {d : Bool} {S : List ByteArray} (h1 : ⟨#[111,114,100,101,114]⟩ ∈ S) (h2 : ∀ s ∈ fiF,s ∈ S) {l : List Tr} (h : OrOK d l) : Hd (some S) (wOr d l) (some fiF) := by
 rcases h with ⟨rfl,rfl⟩ | ⟨a,rfl,ha⟩
 ·exact ⟨_,rfl,h2⟩
 ·exact ⟨.inl rfl,h1⟩
theorem rds_query {D : Prop} {its : List It} {tb j : ByteArray} {on wh od : List Tr} {d : Bool} (hi : ∀ x ∈ its,ItOK x) (hj : JoOK j on) (hw : One D wh) (ho : OrOK d od) : Rds D queryP (kw ⟨#[115,101,108,101,99,116]⟩ :: (pcQuery (up_oo (up_wh (up_jo (up_tb (up_it (sm 6) its) tb) (j,on)) wh) (od,d))).map Prod.snd) (up_oo (up_wh (up_jo (up_tb (up_it (sm 6) its) tb) (j,on)) wh) (od,d)) (some fiF) := by
 have e : kw ⟨#[115,101,108,101,99,116]⟩ :: (pcQuery (up_oo (up_wh (up_jo (up_tb (up_it (sm 6) its) tb) (j,on)) wh) (od,d))).map Prod.snd = (((([kw ⟨#[115,101,108,101,99,116]⟩] ++ wSt its) ++ [kw ⟨#[102,114,111,109]⟩]) ++ [nm tb]) ++ wJo j on) ++ wWh wh ++ wOr d od := by
  rw [pcQuery]
  show kw ⟨#[115,101,108,101,99,116]⟩ :: (pcStar its ++ (1,kw ⟨#[102,114,111,109]⟩) :: (1,nm tb) :: (pcJoin j on ++ (pcWh wh ++ pcOrd d od))).map Prod.snd = _
  simp [wSt,wJo,wWh,wOr]
 rw [e]
 have hdw : Hd (some joF) (wWh wh) (some whF) := hd_wh (mem_of rfl) (sub_of rfl) hw
 exact (Fr.then (Fr.then (Fr.then (Fr.then (Fr.then (Fr.then (fr_want (w := kw ⟨#[115,101,108,101,99,116]⟩) (.inl rfl) (sm 6)) (fr_fill (rds_star hi) up_it _) trivial) (fr_want (w := kw ⟨#[102,114,111,109]⟩) (.inl rfl) _) ⟨.inl rfl,mem_of rfl⟩) (fr_fill (rds_name tb) up_tb _) trivial) (fr_fill (rds_join hj) up_jo _) trivial) (fr_fill (rds_where hw) up_wh _) hdw) (fr_fill (rds_order ho) up_oo _) (hd_or (mem_of rfl) (sub_of rfl) ho)).rds
theorem rds_disp {D : Prop} {α : Type} {w : Wd} (hw : w.1 = 2 ∨ w.1 = 5) {t : α} {P Q : List Tk → Re α} {ws : List Wd} {S : Fo} (h : Rds D P ws t S) : Rds D (dispP w.2.1 P Q) (w :: ws) t S := by
 intro ts R hm hR
 obtain ⟨a,l',rfl,h1,h2⟩ := List.map_eq_cons_iff.1 hm
 subst h1
 have hi : isTk (wdOf a).2.1 (a :: (l' ++ R)) = true := isTk_iff.2 ⟨hw,rfl⟩
 rw [List.cons_append,dispP,if_pos hi]
 exact h l' R h2 hR
theorem rds_disp_no {D : Prop} {α : Type} {w : Wd} {s : ByteArray} (hw : w.2.1 ≠ s) {t : α} {P Q : List Tk → Re α} {ws : List Wd} {S : Fo} (h : Rds D Q (w :: ws) t S) : Rds D (dispP s P Q) (w :: ws) t S := by
 intro ts R hm hR
 have hh := h ts R hm hR
 obtain ⟨a,l',rfl,h1,h2⟩ := List.map_eq_cons_iff.1 hm
 subst h1
 have hi : ¬ isTk s (a :: (l' ++ R)) = true := fun k => hw (isTk_iff.1 k).2
 rw [List.cons_append] at hh ⊢
 rw [dispP,if_neg hi]
 exact hh
theorem rds_is {D : Prop} {α : Type} {w : Wd} (hw : w.1 = 2 ∨ w.1 = 5) {t : α} {P Q : List Tk → Re α} {ws : List Wd} {S : Fo} (h : Rds D P (w :: ws) t S) : Rds D (isP w.2.1 P Q) (w :: ws) t S := by
 intro ts R hm hR
 have hh := h ts R hm hR
 obtain ⟨a,l',rfl,h1,h2⟩ := List.map_eq_cons_iff.1 hm
 subst h1
 have hi : isTk (wdOf a).2.1 (a :: (l' ++ R)) = true := isTk_iff.2 ⟨hw,rfl⟩
 rw [List.cons_append] at hh ⊢
 rw [isP,if_pos hi]
 exact hh
theorem rds_is_no {D : Prop} {α : Type} {w : Wd} {s : ByteArray} (hw : w.2.1 ≠ s) {t : α} {P Q : List Tk → Re α} {ws : List Wd} {S : Fo} (h : Rds D Q (w :: ws) t S) : Rds D (isP s P Q) (w :: ws) t S := by
 intro ts R hm hR
 have hh := h ts R hm hR
 obtain ⟨a,l',rfl,h1,h2⟩ := List.map_eq_cons_iff.1 hm
 subst h1
 have hi : ¬ isTk s (a :: (l' ++ R)) = true := fun k => hw (isTk_iff.1 k).2
 rw [List.cons_append] at hh ⊢
 rw [isP,if_neg hi]
 exact hh
theorem rds_plain {D : Prop} {P : List Tk → Re Sm} {ws : List Wd} {m : Sm} {S : Fo} (h : Rds D P ws m S) : Rds D (plain P) ws (m,[]) S := h.map fun m => (m,[])
theorem rds_change {D : Prop} {m : Sm} (h : SmOK D m) (h6 : m.kind ≠ 6) : Rds D changeP (wS m) m (some fiF) := by
 rcases h with ⟨tb,vs,h0,h,rfl⟩ | ⟨its,tb,j,on,wh,od,d,hi,hj,hw,ho,rfl⟩ | ⟨tb,n,t,wh,ht,h,rfl⟩ | ⟨tb,wh,h,rfl⟩
 ·exact (rds_disp (w := kw ⟨#[105,110,115,101,114,116]⟩) (.inl rfl) (rds_insert h0 h)).mono trivial
 ·exact (h6 rfl).elim
 ·exact (rds_disp_no (w := kw ⟨#[117,112,100,97,116,101]⟩) (by decide) (rds_disp (w := kw ⟨#[117,112,100,97,116,101]⟩) (.inl rfl) (rds_update ht h))).mono ⟨_,rfl,sub_of rfl⟩
 ·exact (rds_disp_no (w := kw ⟨#[100,101,108,101,116,101]⟩) (by decide) (rds_disp_no (w := kw ⟨#[100,101,108,101,116,101]⟩) (by decide) (rds_disp (w := kw ⟨#[100,101,108,101,116,101]⟩) (.inl rfl) (rds_delete h)))).mono ⟨_,rfl,sub_of rfl⟩
theorem rds_select {D : Prop} {m : Sm} (h : SmOK D m) (h6 : m.kind = 6) : Rds D queryP (wS m) m (some fiF) := by
 rcases h with ⟨tb,vs,h0,h,rfl⟩ | ⟨its,tb,j,on,wh,od,d,hi,hj,hw,ho,rfl⟩ | ⟨tb,n,t,wh,ht,h,rfl⟩ | ⟨tb,wh,h,rfl⟩
 ·exact absurd (show (5 : Int) = 6 from h6) (by decide)
 ·exact rds_query hi hj hw ho
 ·exact absurd (show (7 : Int) = 6 from h6) (by decide)
 ·exact absurd (show (8 : Int) = 6 from h6) (by decide)
theorem tag_words (k : Nat) (l : List Int) : (jp pcTag k l).map Prod.snd = jw (fun z => [(3,⟨#[]⟩,z)]) l := jp_words (g := pcTag) (h := fun z => [(3,⟨#[]⟩,z)]) (fun k y => rfl) k l
theorem rds_taglist {D : Prop} {l : List Int} (h0 : l ≠ []) (h : ∀ z ∈ l,TaOK z) {S : List ByteArray} (hS : ⟨#[44]⟩ ∉ S) : Rds D (listP tagP) (jw (fun z => [(3,⟨#[]⟩,z)]) l) l (some S) :=
 rds_list (S := none) trivial trivial hS h0 fun z hz => rds_tag (h z hz).1 (h z hz).2
theorem rds_tags {D : Prop} {l : List Int} (h : ∀ z ∈ l,TaOK z) : Rds D tagsP (jw (fun z => [(3,⟨#[]⟩,z)]) l) l (some [⟨#[97,115]⟩]) := by
 intro ts R hm hR
 by_cases h0 : l = []
 ·subst h0
  obtain rfl := List.map_eq_nil_iff.1 hm
  have hk : ¬ kdOf R = 3 := by
   rcases hR with h | ⟨s,_,h⟩
   ·rw [h]; decide
   ·cases R with
    | nil => decide
    | cons a R =>
     intro e
     have e' : a.1 = 3 := e
     have := (isTk_iff.1 h).1
     omega
  rw [List.nil_append,tagsP,if_neg hk]
  exact .inl rfl
 ·have hk : kdOf (ts ++ R) = 3 := by
   obtain ⟨z,l,rfl⟩ := List.exists_cons_of_ne_nil h0
   obtain ⟨a,l1,rfl,h1,h2⟩ := List.map_eq_cons_iff.1 (show ts.map wdOf = (3,⟨#[]⟩,z) :: _ from hm)
   rw [tk_eta h1]; rfl
  rw [tagsP,if_pos hk]
  exact rds_taglist h0 h (nmem_of rfl) ts R hm hR
theorem rds_door {D : Prop} {k : Int} {n : ByteArray} {tg : List Int} {x : Sm} {P : List Tk → Re Sm} (ht : ∀ z ∈ tg,TaOK z) (hP : Rds D P (wS x) x (some fiF)) : Rds D (doorP k P) ((pcDoor (up_ta (up_nm (sm k) n) tg) [x]).map Prod.snd) (up_ta (up_nm (sm k) n) tg,[x]) (some fiF) := by
 have e : (pcDoor (up_ta (up_nm (sm k) n) tg) [x]).map Prod.snd = ((([nm n] ++ [kw ⟨#[115,116,114,105,112]⟩]) ++ jw (fun z => [(3,⟨#[]⟩,z)]) tg) ++ [kw ⟨#[97,115]⟩]) ++ wS x := by
  rw [pcDoor]
  show nm n :: kw ⟨#[115,116,114,105,112]⟩ :: (jp pcTag 1 tg ++ (1,kw ⟨#[97,115]⟩) :: pcS 1 x).map Prod.snd = _
  rw [List.map_append,List.map_cons,tag_words,s_words]
  simp
 rw [e]
 intro ts R hm hR
 obtain ⟨t1,t2,rfl,h1,h2⟩ := List.map_eq_append_iff.1 hm
 have hF := (Fr.then (D := D) (Fr.then (Fr.then (fr_fill (rds_name n) up_nm (sm k)) (fr_want (w := kw ⟨#[115,116,114,105,112]⟩) (.inl rfl) _) trivial) (fr_fill (rds_tags ht) up_ta _) trivial) (fr_want (w := kw ⟨#[97,115]⟩) (.inl rfl) _) ⟨.inl rfl,mem_of rfl⟩).2 t1 (t2 ++ R) h1 trivial
 rw [List.append_assoc]
 rw [doorP,doorR]
 have hs : startR k (.inr (t1 ++ (t2 ++ R))) = .inr (sm k,t1 ++ (t2 ++ R)) := rfl
 rw [hs]
 have hF' : Got D (wantR ⟨#[97,115]⟩ (fillR tagsP up_ta (wantR ⟨#[115,116,114,105,112]⟩ (fillR nameP up_nm (.inr (sm k,t1 ++ (t2 ++ R))))))) (up_ta (up_nm (sm k) n) tg,t2 ++ R) := hF
 exact hF'.then ((hP t2 R h2 hR).map fun y => (up_ta (up_nm (sm k) n) tg,[y]))
def SfOK (D : Prop) (m : Sf) : Prop :=
 (∃ x,SmOK D x ∧ m = (x,[])) ∨
 (∃ n cs,cs ≠ [] ∧ (∀ c ∈ cs,CoOK c) ∧ m = (up_co (up_nm (sm 1) n) cs,[])) ∨
 (∃ tb n,m = (up_nm (up_tb (sm 2) tb) n,[])) ∨
 (∃ n tg x,(∀ z ∈ tg,TaOK z) ∧ SmOK D x ∧ x.kind = 6 ∧ m = (up_ta (up_nm (sm 3) n) tg,[x])) ∨
 (∃ n tg x,(∀ z ∈ tg,TaOK z) ∧ SmOK D x ∧ x.kind ≠ 6 ∧ m = (up_ta (up_nm (sm 4) n) tg,[x])) ∨
 (∃ k : Int,(k = 9 ∨ k = 10 ∨ k = 11) ∧ m = (sm k,[])) ∨
 (∃ tg,tg ≠ [] ∧ (∀ z ∈ tg,TaOK z) ∧ m = (up_ta (sm 12) tg,[])) ∨
 (∃ n,m = (up_nm (sm 13) n,[]))
theorem rds_table {D : Prop} {n : ByteArray} {cs : List Co} (h0 : cs ≠ []) (h : ∀ c ∈ cs,CoOK c) : Rds D tableP ((pcTable (up_co (up_nm (sm 1) n) cs)).map Prod.snd) (up_co (up_nm (sm 1) n) cs) none := by
 have e : (pcTable (up_co (up_nm (sm 1) n) cs)).map Prod.snd = [nm n] ++ (sg ⟨#[40]⟩ :: (jw wCo cs ++ [sg ⟨#[41]⟩])) := by
  show nm n :: sg ⟨#[40]⟩ :: (jp pcCol 0 cs ++ [((0,sg ⟨#[41]⟩) : Pc)]).map Prod.snd = _
  rw [List.map_append,jp_words col_words]
  rfl
 rw [e]
 exact (Fr.then (fr_fill (rds_name n) up_nm (sm 1)) (fr_fill (rds_br (S := some [⟨#[44]⟩,⟨#[41]⟩]) ⟨.inr rfl,mem_of rfl⟩ ⟨_,rfl,sub_of rfl⟩ h0 (fun c hc => rds_coldef (h c hc))) up_co _) trivial).rds
theorem rds_index {D : Prop} (tb n : ByteArray) : Rds D indexP ((pcIndex (up_nm (up_tb (sm 2) tb) n)).map Prod.snd) (up_nm (up_tb (sm 2) tb) n) none := by
 have e : (pcIndex (up_nm (up_tb (sm 2) tb) n)).map Prod.snd = ((([kw ⟨#[111,110]⟩] ++ [nm tb]) ++ [sg ⟨#[40]⟩]) ++ [nm n]) ++ [sg ⟨#[41]⟩] := rfl
 rw [e]
 exact (Fr.then (Fr.then (Fr.then (Fr.then (fr_want (w := kw ⟨#[111,110]⟩) (.inl rfl) (sm 2)) (fr_fill (rds_name tb) up_tb _) trivial) (fr_want (w := sg ⟨#[40]⟩) (.inr rfl) _) trivial) (fr_fill (rds_name n) up_nm _) trivial) (fr_want (w := sg ⟨#[41]⟩) (.inr rfl) _) trivial).rds
def wF (m : Sf) : List Wd := (pcF m).map Prod.snd
theorem rds_only {D : Prop} (k : Int) : Rds D (onlyP k) [] (sm k,[]) none := by
 intro ts R hm _
 obtain rfl := List.map_eq_nil_iff.1 hm
 exact .inl rfl
theorem rds_stmt {D : Prop} {m : Sf} (h : SfOK D m) : Rds D stmtP (wF m) m (some fiF) := by
 rcases h with ⟨m,h,rfl⟩ | ⟨n,cs,h0,h,rfl⟩ | ⟨tb,n,rfl⟩ | ⟨n,tg,x,ht,hx,h6,rfl⟩ | ⟨n,tg,x,ht,hx,h6,rfl⟩ | ⟨k,h,rfl⟩ | ⟨tg,h0,h,rfl⟩ | ⟨n,rfl⟩
 ·by_cases h6 : m.kind = 6
  ·have hq := rds_select h h6
   rcases h with ⟨tb,vs,h0,h,rfl⟩ | ⟨its,tb,j,on,wh,od,d,hi,hj,hw,ho,rfl⟩ | ⟨tb,n,t,wh,ht,h,rfl⟩ | ⟨tb,wh,h,rfl⟩
   ·exact absurd (show (5 : Int) = 6 from h6) (by decide)
   ·exact rds_disp_no (w := kw ⟨#[115,101,108,101,99,116]⟩) (by decide) (rds_is (w := kw ⟨#[115,101,108,101,99,116]⟩) (.inl rfl) (rds_plain hq))
   ·exact absurd (show (7 : Int) = 6 from h6) (by decide)
   ·exact absurd (show (8 : Int) = 6 from h6) (by decide)
  ·have hq := rds_plain (rds_change h h6)
   rcases h with ⟨tb,vs,h0,h,rfl⟩ | ⟨its,tb,j,on,wh,od,d,hi,hj,hw,ho,rfl⟩ | ⟨tb,n,t,wh,ht,h,rfl⟩ | ⟨tb,wh,h,rfl⟩
   ·exact rds_disp_no (w := kw ⟨#[105,110,115,101,114,116]⟩) (by decide) (rds_is_no (w := kw ⟨#[105,110,115,101,114,116]⟩) (by decide) (rds_disp_no (w := kw ⟨#[105,110,115,101,114,116]⟩) (by decide) (rds_disp_no (w := kw ⟨#[105,110,115,101,114,116]⟩) (by decide) (rds_disp_no (w := kw ⟨#[105,110,115,101,114,116]⟩) (by decide) (rds_disp_no (w := kw ⟨#[105,110,115,101,114,116]⟩) (by decide) (rds_disp_no (w := kw ⟨#[105,110,115,101,114,116]⟩) (by decide) hq))))))
   ·exact (h6 rfl).elim
   ·exact rds_disp_no (w := kw ⟨#[117,112,100,97,116,101]⟩) (by decide) (rds_is_no (w := kw ⟨#[117,112,100,97,116,101]⟩) (by decide) (rds_disp_no (w := kw ⟨#[117,112,100,97,116,101]⟩) (by decide) (rds_disp_no (w := kw ⟨#[117,112,100,97,116,101]⟩) (by decide) (rds_disp_no (w := kw ⟨#[117,112,100,97,116,101]⟩) (by decide) (rds_disp_no (w := kw ⟨#[117,112,100,97,116,101]⟩) (by decide) (rds_disp_no (w := kw ⟨#[117,112,100,97,116,101]⟩) (by decide) hq))))))
   ·exact rds_disp_no (w := kw ⟨#[100,101,108,101,116,101]⟩) (by decide) (rds_is_no (w := kw ⟨#[100,101,108,101,116,101]⟩) (by decide) (rds_disp_no (w := kw ⟨#[100,101,108,101,116,101]⟩) (by decide) (rds_disp_no (w := kw ⟨#[100,101,108,101,116,101]⟩) (by decide) (rds_disp_no (w := kw ⟨#[100,101,108,101,116,101]⟩) (by decide) (rds_disp_no (w := kw ⟨#[100,101,108,101,116,101]⟩) (by decide) (rds_disp_no (w := kw ⟨#[100,101,108,101,116,101]⟩) (by decide) hq))))))
 ·exact (rds_disp (w := kw ⟨#[99,114,101,97,116,101]⟩) (.inl rfl) (rds_disp (w := kw ⟨#[116,97,98,108,101]⟩) (.inl rfl) (rds_plain (rds_table h0 h)))).mono trivial
 ·exact (rds_disp (w := kw ⟨#[99,114,101,97,116,101]⟩) (.inl rfl) (rds_disp_no (w := kw ⟨#[105,110,100,101,120]⟩) (by decide) (rds_disp (w := kw ⟨#[105,110,100,101,120]⟩) (.inl rfl) (rds_plain (rds_index tb n))))).mono trivial
 ·exact rds_disp (w := kw ⟨#[99,114,101,97,116,101]⟩) (.inl rfl) (rds_disp_no (w := kw ⟨#[118,105,101,119]⟩) (by decide) (rds_disp_no (w := kw ⟨#[118,105,101,119]⟩) (by decide) (rds_disp (w := kw ⟨#[118,105,101,119]⟩) (.inl rfl) (rds_door ht (rds_select hx h6)))))
 ·exact rds_disp (w := kw ⟨#[99,114,101,97,116,101]⟩) (.inl rfl) (rds_disp_no (w := kw ⟨#[99,108,111,115,117,114,101]⟩) (by decide) (rds_disp_no (w := kw ⟨#[99,108,111,115,117,114,101]⟩) (by decide) (rds_disp_no (w := kw ⟨#[99,108,111,115,117,114,101]⟩) (by decide) (rds_disp (w := kw ⟨#[99,108,111,115,117,114,101]⟩) (.inl rfl) (rds_door ht (rds_change hx h6))))))
 ·rcases h with rfl | rfl | rfl
  ·exact (rds_disp_no (w := kw ⟨#[98,101,103,105,110]⟩) (by decide) (rds_is_no (w := kw ⟨#[98,101,103,105,110]⟩) (by decide) (rds_disp (w := kw ⟨#[98,101,103,105,110]⟩) (.inl rfl) (rds_only 9)))).mono trivial
  ·exact (rds_disp_no (w := kw ⟨#[99,111,109,109,105,116]⟩) (by decide) (rds_is_no (w := kw ⟨#[99,111,109,109,105,116]⟩) (by decide) (rds_disp_no (w := kw ⟨#[99,111,109,109,105,116]⟩) (by decide) (rds_disp (w := kw ⟨#[99,111,109,109,105,116]⟩) (.inl rfl) (rds_only 10))))).mono trivial
  ·exact (rds_disp_no (w := kw ⟨#[114,111,108,108,98,97,99,107]⟩) (by decide) (rds_is_no (w := kw ⟨#[114,111,108,108,98,97,99,107]⟩) (by decide) (rds_disp_no (w := kw ⟨#[114,111,108,108,98,97,99,107]⟩) (by decide) (rds_disp_no (w := kw ⟨#[114,111,108,108,98,97,99,107]⟩) (by decide) (rds_disp (w := kw ⟨#[114,111,108,108,98,97,99,107]⟩) (.inl rfl) (rds_only 11)))))).mono trivial
 ·have e : wF (up_ta (sm 12) tg,[]) = kw ⟨#[114,97,105,115,101]⟩ :: jw (fun z => [(3,⟨#[]⟩,z)]) tg := by
   show kw ⟨#[114,97,105,115,101]⟩ :: (jp pcTag 1 tg).map Prod.snd = _
   rw [tag_words]
  rw [e]
  exact rds_disp_no (w := kw ⟨#[114,97,105,115,101]⟩) (by decide) (rds_is_no (w := kw ⟨#[114,97,105,115,101]⟩) (by decide) (rds_disp_no (w := kw ⟨#[114,97,105,115,101]⟩) (by decide) (rds_disp_no (w := kw ⟨#[114,97,105,115,101]⟩) (by decide) (rds_disp_no (w := kw ⟨#[114,97,105,115,101]⟩) (by decide) (rds_disp (w := kw ⟨#[114,97,105,115,101]⟩) (.inl rfl) ((rds_taglist h0 h (nmem_of rfl)).map fun l => (up_ta (sm 12) l,[])))))))
 ·exact (rds_disp_no (w := kw ⟨#[99,97,108,108]⟩) (by decide) (rds_is_no (w := kw ⟨#[99,97,108,108]⟩) (by decide) (rds_disp_no (w := kw ⟨#[99,97,108,108]⟩) (by decide) (rds_disp_no (w := kw ⟨#[99,97,108,108]⟩) (by decide) (rds_disp_no (w := kw ⟨#[99,97,108,108]⟩) (by decide) (rds_disp_no (w := kw ⟨#[99,97,108,108]⟩) (by decide) (rds_disp (w := kw ⟨#[99,97,108,108]⟩) (.inl rfl) ((rds_name n).map fun x => (up_nm (sm 13) x,[]))))))))).mono trivial
theorem Got.parse {D : Prop} {ts : List Tk} {m : Sf} {R : List Tk} (h : Got D (stmtP ts) (m,R)) (hk : kdOf R = 6) : Got D (parseW ts) (m,R) := by
 rw [parseW]
 refine h.then (.inl ?_)
 show (if kdOf R = 6 then _ else _) = _
 rw [if_pos hk]
theorem parse_got {D : Prop} {m : Sf} (h : SfOK D m) {l : List Pc} (hl : l.map Prod.snd = wF m) (z : Int) : Got D (parseW (tks 0 l ++ [(6,⟨#[]⟩,0,z)])) (m,[(6,⟨#[]⟩,0,z)]) :=
 (rds_stmt h (tks 0 l) [(6,⟨#[]⟩,0,z)] ((tks_words l 0).trans hl) (.inl rfl)).parse rfl
theorem parse_back {m : Sf} (h : SfOK False m) {l : List Pc} (hl : l.map Prod.snd = wF m) (z : Int) : parseW (tks 0 l ++ [(6,⟨#[]⟩,0,z)]) = .inr (m,[(6,⟨#[]⟩,0,z)]) := (parse_got h hl z).out
end Go.Proofs.YtfopfhlohihihaaGreat
