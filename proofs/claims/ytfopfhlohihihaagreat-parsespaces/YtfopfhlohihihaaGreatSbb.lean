import Derived.Test.YtfopfhlohihihaaGreatSba
import Derived.Test.YtfopfhlohihihaaGreatSau
import Derived.Test.YtfopfhlohihihaaGreatSaw
namespace Go.Proofs.YtfopfhlohihihaaGreat
open Go.RowKit
set_option linter.unusedVariables false
set_option linter.unusedSimpArgs false
theorem bs_app (a b : ByteArray) : bs (a ++ b) = bs a ++ bs b := by
 simp [bs]
theorem bs_ext {a b : ByteArray} (h : bs a = bs b) : a = b := by
 apply ByteArray.ext
 exact Array.toList_inj.1 h
theorem ren_cons (p : Pc) (l : List Pc) : ren (p :: l) = List.replicate p.1 32 ++ (wdB p.2 ++ ren l) := rfl
theorem ren_nil : ren [] = [] := rfl
theorem wdB_kw (s : ByteArray) : wdB (kw s) = bs s := rfl
theorem wdB_sg (s : ByteArray) : wdB (sg s) = bs s := rfl
theorem wdB_nm (s : ByteArray) : wdB (nm s) = bs s := rfl
theorem ren_e (t : Tr) (h : t ≠ .nil) (sp : Nat) : ren (pcE sp t) = List.replicate sp 32 ++ ren (pcE 0 t) := by
 cases t with
 | nil => exact absurd rfl h
 | node x op p l r =>
  rw [pcE,pcE]
  split
  ·simp [ren_cons]
  ·split
   ·split <;> simp [ren_cons]
   ·split
    ·simp [ren_cons]
    ·split
     ·simp [ren_cons]
     ·simp [ren_cons]
theorem Cn.ne {d : Nat} {t : Tr} (h : Cn d t) : t ≠ .nil := by rintro rfl; exact h
theorem ok_num {z : Int} (h : WdOK (3,⟨#[]⟩,z)) : 0 ≤ z ∧ Fits z := by
 rcases h with ⟨c,n,h1,h2,h3,e⟩ | ⟨z',hf,e⟩ | ⟨q,h1,h2,e⟩ | ⟨c,h1,e⟩ | ⟨c,n,hk,e⟩
 ·have := congrArg Prod.fst e
  revert this
  cases isW ⟨(c :: n).toArray⟩ <;> simp
 ·cases e; exact ⟨Int.natCast_nonneg _,hf⟩
 ·cases e
 ·cases e
 ·cases e
theorem itoa_nn {z : Int} (h : 0 ≤ z) : Lib.itoa z = Lib.decDigits z.toNat := by rw [Lib.itoa,if_neg (by omega)]
theorem va_int {n : Int} (h : 0 ≤ n) : bs (vaB (1,n,⟨#[]⟩,⟨#[]⟩,⟨#[]⟩)) = Lib.decDigits n.toNat := by
 rw [vaB,if_pos rfl,bs_mk,itoa_nn h]
theorem va_text (s : ByteArray) : bs (vaB (2,0,s,⟨#[]⟩,⟨#[]⟩)) = 39 :: (dblQ (bs s) ++ [39]) := by
 rw [vaB,if_neg (show ¬ (2 : Int) = 1 by decide),quB,bs_mk]; rfl
theorem co_ren (t n : ByteArray) : bs (coB t n) = ren (pcE 0 (tCol t n)) := by
 show _ = ren (if t = ⟨#[]⟩ then [(0,(1,n,0))] else [(0,(1,t,0)),(0,(5,⟨#[46]⟩,0)),(0,(1,n,0))])
 rw [coB]
 split
 ·rename_i h
  simp [ren_cons,ren_nil,wdB]
 ·rw [bs_app,bs_app]
  simp [ren_cons,ren_nil,wdB]
theorem sh_ren {d : Nat} {t : Tr} (h : Cn d t) : (∀ w ∈ wdE t,WdOK w) → bs (shE t) = ren (pcE 0 t) := by
 refine Cn.ind (M := fun d t => (∀ w ∈ wdE t,WdOK w) → bs (shE t) = ren (pcE 0 t)) ?_ ?_ ?_ ?_ ?_ ?_ t d h
 ·intro d n hw
  have h0 := (ok_num (hw (3,⟨#[]⟩,n) (List.mem_singleton.2 rfl))).1
  have e : shE (tInt n) = vaB (1,n,⟨#[]⟩,⟨#[]⟩,⟨#[]⟩) := by
   show (if (1 : Nat) = 1 then (if (1 : Int) = 1 ∧ n < 0 then ⟨#[]⟩ else vaB (1,n,⟨#[]⟩,⟨#[]⟩,⟨#[]⟩)) else _) = _
   rw [if_pos rfl,if_neg (fun k => by omega)]
  rw [e,va_int h0]
  show _ = ren [(0,(3,⟨#[]⟩,n))]
  simp [ren_cons,ren_nil,wdB]
 ·intro d s hw
  have e : shE (tText s) = vaB (2,0,s,⟨#[]⟩,⟨#[]⟩) := by
   show (if (1 : Nat) = 1 then (if (2 : Int) = 1 ∧ (0 : Int) < 0 then ⟨#[]⟩ else vaB (2,0,s,⟨#[]⟩,⟨#[]⟩)) else _) = _
   rw [if_pos rfl,if_neg (fun k => by omega)]
  rw [e,va_text]
  show _ = ren [(0,(4,s,0))]
  simp [ren_cons,ren_nil,wdB]
 ·intro d t n hw; exact co_ren t n
 ·intro d l h ih hw
  have hl := ih (fun w m => hw w (by show w ∈ (5,⟨#[40]⟩,0) :: (5,⟨#[45]⟩,0) :: (wdE l ++ [(5,⟨#[41]⟩,0)]); simp [m]))
  show bs ((⟨#[40,45]⟩ ++ shE l) ++ ⟨#[41]⟩) = ren ((0,(5,⟨#[40]⟩,0)) :: (0,(5,⟨#[45]⟩,0)) :: (pcE 0 l ++ [(0,(5,⟨#[41]⟩,0))]))
  rw [bs_app,bs_app,hl]
  simp [ren_cons,ren_nil,ren_app,wdB,bs]
 ·intro d l h ih hw
  have hl := ih (fun w m => hw w (by show w ∈ (5,⟨#[40]⟩,0) :: (2,⟨#[110,111,116]⟩,0) :: (wdE l ++ [(5,⟨#[41]⟩,0)]); simp [m]))
  show bs ((⟨#[40,110,111,116,32]⟩ ++ shE l) ++ ⟨#[41]⟩) = ren ((0,(5,⟨#[40]⟩,0)) :: (0,(2,⟨#[110,111,116]⟩,0)) :: (pcE 1 l ++ [(0,(5,⟨#[41]⟩,0))]))
  rw [bs_app,bs_app,hl]
  simp [ren_cons,ren_nil,ren_app,wdB,bs,ren_e l h.ne 1]
 ·intro d l r j hj h h' ih ih' hw
  have e : wdE (tTwo (j + 5) l r) = (5,⟨#[40]⟩,0) :: (wdE l ++ opW j :: (wdE r ++ [(5,⟨#[41]⟩,0)])) := by
   show (if j + 5 = 1 then _ else _) = _
   rw [if_neg (by omega),if_neg (by omega),if_neg (by omega),if_neg (by omega),Nat.add_sub_cancel]
  rw [e] at hw
  have hl := ih (fun w m => hw w (by simp [m]))
  have hr := ih' (fun w m => hw w (by simp [m]))
  have e1 : shE (tTwo (j + 5) l r) = (((((⟨#[40]⟩ ++ shE l) ++ ⟨#[32]⟩) ++ opT j) ++ ⟨#[32]⟩) ++ shE r) ++ ⟨#[41]⟩ := by
   show (if j + 5 = 1 then _ else _) = _
   rw [if_neg (by omega),if_neg (by omega),if_neg (by omega),if_neg (by omega),Nat.add_sub_cancel]
  have e2 : pcE 0 (tTwo (j + 5) l r) = (0,(5,⟨#[40]⟩,0)) :: (pcE 0 l ++ (1,opW j) :: (pcE 1 r ++ [(0,(5,⟨#[41]⟩,0))])) := by
   show (if j + 5 = 1 then _ else _) = _
   rw [if_neg (by omega),if_neg (by omega),if_neg (by omega),if_neg (by omega),Nat.add_sub_cancel]
  have e3 : wdB (opW j) = bs (opT j) := by
   have : (opW j).1 ≠ 3 ∧ (opW j).1 ≠ 4 := by rw [opW]; split <;> exact ⟨by simp,by simp⟩
   rw [wdB,if_neg this.1,if_neg this.2]; rfl
  rw [e1,e2]
  simp only [bs_app,hl,hr,ren_cons,ren_nil,ren_app,e3,ren_e r h'.ne 1]
  simp [wdB,bs]
theorem sh_ren1 {d : Nat} {t : Tr} (h : Cn d t) (hw : ∀ w ∈ wdE t,WdOK w) : ren (pcE 1 t) = 32 :: bs (shE t) := by
 rw [ren_e t h.ne 1,sh_ren h hw]; rfl
theorem wh_ren {D : Prop} {l : List Tr} (h : One D l) (hw : ∀ w ∈ wWh l,WdOK w) : bs (whB l) = ren (pcWh l) := by
 rcases h with rfl | ⟨t,rfl,ht⟩
 ·rfl
 ·have e : wWh [t] = kw ⟨#[119,104,101,114,101]⟩ :: wdE t := by rw [wWh,pcWh,List.map_cons,pcE_words]
  rw [e] at hw
  show bs (⟨#[32,119,104,101,114,101,32]⟩ ++ shE t) = ren ((1,kw ⟨#[119,104,101,114,101]⟩) :: pcE 1 t)
  rw [bs_app,ren_cons,sh_ren1 ht.choose_spec.1 (fun w m => hw w (by simp [m]))]
  simp [wdB_kw,bs]
theorem jo_ren {α : Type} {sep : ByteArray} {g : ByteArray → α → ByteArray} {h : α → List UInt8} (hg : ∀ s y,bs (g s y) = bs s ++ h y) : ∀ (l : List α) (s : ByteArray),bs (l.foldl (fun s y => g (s ++ sep) y) s) = bs s ++ (l.map fun y => bs sep ++ h y).flatten
 | [],s => by simp
 | y :: l,s => by rw [List.foldl_cons,jo_ren hg l,hg,bs_app]; simp
theorem jpT_ren {α : Type} {g : Nat → α → List Pc} {h : α → List UInt8} {sep : List UInt8} : ∀ (l : List α),(∀ y ∈ l,44 :: ren (g 1 y) = sep ++ h y) → ren (jpT g l) = (l.map fun y => sep ++ h y).flatten
 | [],_ => rfl
 | y :: l,hh => by
  rw [jpT,ren_cons,ren_app,jpT_ren l fun z hz => hh z (by simp [hz]),List.map_cons,List.flatten_cons,← hh y (by simp),wdB_sg]
  simp [bs]
theorem exs_ren {D : Prop} {l : List Tr} (h : ∀ t ∈ l,CnD D t) (hw : ∀ w ∈ jw wdE l,WdOK w) : bs (exsB l) = ren (jp pcE 0 l) := by
 cases l with
 | nil => rfl
 | cons x l =>
  have hw1 : ∀ w ∈ wdE x,WdOK w := fun w m => hw w (by rw [jw]; simp [m])
  have hw2 : ∀ l : List Tr,(∀ w ∈ jwT wdE l,WdOK w) → ∀ y ∈ l,∀ w ∈ wdE y,WdOK w := by
   intro l
   induction l with
   | nil => intro _ y hy; cases hy
   | cons z l ih =>
    intro hh y hy w m
    rcases List.mem_cons.1 hy with rfl | hy
    ·exact hh w (by rw [jwT]; simp [m])
    ·exact ih (fun w m => hh w (by rw [jwT]; simp [m])) y hy w m
  have hw3 := hw2 l (fun w m => hw w (by rw [jw]; simp [m]))
  show bs (l.foldl (fun s y => exB (s ++ ⟨#[44,32]⟩) y) (exB ⟨#[]⟩ x)) = ren (pcE 0 x ++ jpT pcE l)
  rw [jo_ren (h := fun y => bs (shE y)) (fun s y => by rw [exB,bs_app]),ren_app,exB,bs_app,sh_ren (h x (by simp)).choose_spec.1 hw1,jpT_ren (h := fun y => bs (shE y)) (sep := bs ⟨#[44,32]⟩) l fun y hy => by rw [sh_ren1 (h y (by simp [hy])).choose_spec.1 (hw3 y hy)]; rfl]
  rfl
theorem tas_ren {l : List Int} (h : ∀ z ∈ l,TaOK z) : bs (tasB l) = ren (jp pcTag 1 l) := by
 have e : ∀ z : Int,TaOK z → ren (pcTag 1 z) = 32 :: Lib.itoa z := by
  intro z hz
  rw [pcTag,ren_cons,ren_nil,itoa_nn hz.1]
  simp [wdB]
 cases l with
 | nil => rfl
 | cons x l =>
  show bs (l.foldl (fun s y => taB (s ++ ⟨#[44]⟩) y) (taB ⟨#[]⟩ x)) = ren (pcTag 1 x ++ jpT pcTag l)
  rw [jo_ren (h := fun y => 32 :: Lib.itoa y) (fun s y => by rw [taB,bs_app,bs_app,bs_mk]; simp [bs]),ren_app,e x (h x (by simp)),jpT_ren (h := fun y => 32 :: Lib.itoa y) (sep := bs ⟨#[44]⟩) l fun y hy => by rw [e y (h y (by simp [hy]))]; rfl,taB,bs_app,bs_app,bs_mk]
  rfl
theorem insert_ren {D : Prop} {m : Sm} (h : ∀ t ∈ m.values,CnD D t) (hw : ∀ w ∈ jw wdE m.values,WdOK w) : bs ((((⟨#[105,110,115,101,114,116,32,105,110,116,111,32]⟩ ++ m.table) ++ ⟨#[32,118,97,108,117,101,115,40]⟩) ++ exsB m.values) ++ ⟨#[41]⟩) = ren ((0,kw ⟨#[105,110,115,101,114,116]⟩) :: pcInsert m) := by
 rw [pcInsert]
 simp only [bs_app,exs_ren h hw,ren_cons,ren_app,ren_nil,wdB_kw,wdB_nm,wdB_sg]
 simp [bs]
theorem delete_ren {D : Prop} {m : Sm} (h : One D m.wh) (hw : ∀ w ∈ wWh m.wh,WdOK w) : bs ((⟨#[100,101,108,101,116,101,32,102,114,111,109,32]⟩ ++ m.table) ++ whB m.wh) = ren ((0,kw ⟨#[100,101,108,101,116,101]⟩) :: pcDelete m) := by
 rw [pcDelete]
 simp only [bs_app,wh_ren h hw,ren_cons,ren_app,ren_nil,wdB_kw,wdB_nm,wdB_sg]
 simp [bs]
theorem update_ren {D : Prop} {m : Sm} {t : Tr} (hv : m.values = [t]) (ht : CnD D t) (hwt : ∀ w ∈ wdE t,WdOK w) (h : One D m.wh) (hw : ∀ w ∈ wWh m.wh,WdOK w) : bs ((((((⟨#[117,112,100,97,116,101,32]⟩ ++ m.table) ++ ⟨#[32,115,101,116,32]⟩) ++ m.name) ++ ⟨#[32,61,32]⟩) ++ shE t) ++ whB m.wh) = ren ((0,kw ⟨#[117,112,100,97,116,101]⟩) :: pcUpdate m) := by
 rw [pcUpdate,hv,pcVal]
 simp only [bs_app,wh_ren h hw,sh_ren1 ht.choose_spec.1 hwt,ren_cons,ren_app,ren_nil,wdB_kw,wdB_nm,wdB_sg]
 simp [bs]
theorem index_ren (m : Sm) : bs ((((⟨#[99,114,101,97,116,101,32,105,110,100,101,120,32,111,110,32]⟩ ++ m.table) ++ ⟨#[40]⟩) ++ m.name) ++ ⟨#[41]⟩) = ren ((0,kw ⟨#[99,114,101,97,116,101]⟩) :: (1,kw ⟨#[105,110,100,101,120]⟩) :: pcIndex m) := by
 rw [pcIndex]
 simp only [bs_app,ren_cons,ren_app,ren_nil,wdB_kw,wdB_nm,wdB_sg]
 simp [bs]
theorem raise_ren {m : Sm} (h : ∀ z ∈ m.tags,TaOK z) : bs (⟨#[114,97,105,115,101]⟩ ++ tasB m.tags) = ren ((0,kw ⟨#[114,97,105,115,101]⟩) :: jp pcTag 1 m.tags) := by
 simp only [bs_app,tas_ren h,ren_cons,wdB_kw]
 simp [bs]
theorem call_ren (m : Sm) : bs (⟨#[99,97,108,108,32]⟩ ++ m.name) = ren [(0,kw ⟨#[99,97,108,108]⟩),(1,nm m.name)] := by
 simp only [bs_app,ren_cons,ren_nil,wdB_kw,wdB_nm]
 simp [bs]
theorem s_sp (m : Sm) : ren (pcS 1 m) = 32 :: ren (pcS 0 m) := by
 rw [pcS,pcS]
 split
 ·simp [ren_cons]
 split
 ·simp [ren_cons]
 split
 ·simp [ren_cons]
 ·simp [ren_cons]
theorem view_ren {m x : Sm} {X : ByteArray} (h : ∀ z ∈ m.tags,TaOK z) (hX : bs X = ren (pcS 0 x)) : bs ((((⟨#[99,114,101,97,116,101,32,118,105,101,119,32]⟩ ++ m.name) ++ ⟨#[32,115,116,114,105,112]⟩) ++ tasB m.tags) ++ ⟨#[32,97,115,32]⟩ ++ X) = ren ((0,kw ⟨#[99,114,101,97,116,101]⟩) :: (1,kw ⟨#[118,105,101,119]⟩) :: pcDoor m [x]) := by
 rw [pcDoor]
 simp only [bs_app,tas_ren h,hX,s_sp,ren_cons,ren_app,ren_nil,wdB_kw,wdB_nm,wdB_sg]
 simp [bs]
theorem closure_ren {m x : Sm} {X : ByteArray} (h : ∀ z ∈ m.tags,TaOK z) (hX : bs X = ren (pcS 0 x)) : bs ((((⟨#[99,114,101,97,116,101,32,99,108,111,115,117,114,101,32]⟩ ++ m.name) ++ ⟨#[32,115,116,114,105,112]⟩) ++ tasB m.tags) ++ ⟨#[32,97,115,32]⟩ ++ X) = ren ((0,kw ⟨#[99,114,101,97,116,101]⟩) :: (1,kw ⟨#[99,108,111,115,117,114,101]⟩) :: pcDoor m [x]) := by
 rw [pcDoor]
 simp only [bs_app,tas_ren h,hX,s_sp,ren_cons,ren_app,ren_nil,wdB_kw,wdB_nm,wdB_sg]
 simp [bs]
def cdL (c : Co) : List UInt8 := bs c.1 ++ (32 :: (bs (kindW c.2.1) ++ if c.2.2 = ⟨#[]⟩ then [] else bs ⟨#[32,114,101,102,32]⟩ ++ bs c.2.2))
theorem cdB_list (s : ByteArray) (c : Co) : bs (cdB s c) = bs s ++ cdL c := by
 have e : kiB c.2.1 = kindW c.2.1 := rfl
 rw [cdB,cdL,e]
 split
 ·rename_i h
  simp only [bs_app]
  simp [bs]
 ·rename_i h
  simp only [bs_app]
  simp [bs]
theorem col_ren (k : Nat) (c : Co) : ren (pcCol k c) = List.replicate k 32 ++ cdL c := by
 rw [pcCol,cdL]
 split
 ·simp only [ren_cons,ren_nil,wdB_kw,wdB_nm]
  simp [bs]
 ·simp only [ren_cons,ren_nil,wdB_kw,wdB_nm]
  simp [bs]
theorem table_ren (m : Sm) (h : m.cols ≠ []) : bs (taT m) = ren ((0,kw ⟨#[99,114,101,97,116,101]⟩) :: (1,kw ⟨#[116,97,98,108,101]⟩) :: pcTable m) := by
 obtain ⟨x,l,e⟩ := List.exists_cons_of_ne_nil h
 rw [taT,pcTable,e]
 show bs (l.foldl (fun s y => cdB (s ++ ⟨#[44,32]⟩) y) (cdB ((⟨#[99,114,101,97,116,101,32,116,97,98,108,101,32]⟩ ++ m.name) ++ ⟨#[40]⟩) x) ++ ⟨#[41]⟩) = ren ((0,kw ⟨#[99,114,101,97,116,101]⟩) :: (1,kw ⟨#[116,97,98,108,101]⟩) :: (1,nm m.name) :: (0,sg ⟨#[40]⟩) :: ((pcCol 0 x ++ jpT pcCol l) ++ [(0,sg ⟨#[41]⟩)]))
 rw [bs_app,jo_ren (h := cdL) cdB_list,cdB_list]
 simp only [ren_cons,ren_app,ren_nil,col_ren,jpT_ren (g := pcCol) (h := cdL) (sep := bs ⟨#[44,32]⟩) l (fun y _ => by rw [col_ren]; rfl),bs_app,wdB_kw,wdB_nm,wdB_sg]
 simp [bs]
def itB (s : ByteArray) (x : It) : ByteArray := if x.1 = 0 then s ++ coB x.2.1 x.2.2 else if x.1 = 1 then s ++ ⟨#[99,111,117,110,116,40,42,41]⟩ else (((s ++ aggW x.1) ++ ⟨#[40]⟩) ++ coB x.2.1 x.2.2) ++ ⟨#[41]⟩
def itL (x : It) : List UInt8 := if x.1 = 0 then bs (coB x.2.1 x.2.2) else if x.1 = 1 then bs ⟨#[99,111,117,110,116,40,42,41]⟩ else bs (aggW x.1) ++ (40 :: (bs (coB x.2.1 x.2.2) ++ [41]))
theorem itB_list (s : ByteArray) (x : It) : bs (itB s x) = bs s ++ itL x := by
 rw [itB,itL]
 split
 ·rw [bs_app]
 ·split
  ·rw [bs_app]
  ·simp only [bs_app]; simp [bs]
theorem item_ren (k : Nat) (x : It) : ren (pcItem k x) = List.replicate k 32 ++ itL x := by
 rw [pcItem,itL]
 split
 ·rw [ren_e _ (by intro e; cases e) k,co_ren]
 ·split
  ·simp only [ren_cons,ren_nil,wdB_kw,wdB_sg]; simp [bs]
  ·simp only [ren_cons,ren_app,ren_nil,wdB_kw,wdB_sg,co_ren]; simp [bs]
def starB (l : List It) : ByteArray := joP ⟨#[44,32]⟩ itB (if l = [] then ⟨#[115,101,108,101,99,116,32]⟩ ++ ⟨#[42]⟩ else ⟨#[115,101,108,101,99,116,32]⟩) l
theorem star_ren (l : List It) : bs (starB l) = ren ((0,kw ⟨#[115,101,108,101,99,116]⟩) :: pcStar l) := by
 rw [starB,pcStar,ren_cons]
 split
 ·rename_i h
  subst h
  simp only [joP,bs_app,ren_cons,ren_nil,wdB_kw,wdB_sg]; simp [bs]
 ·rename_i h
  obtain ⟨x,l,rfl⟩ := List.exists_cons_of_ne_nil h
  show bs (l.foldl (fun s y => itB (s ++ ⟨#[44,32]⟩) y) (itB ⟨#[115,101,108,101,99,116,32]⟩ x)) = _ ++ (_ ++ ren (pcItem 1 x ++ jpT pcItem l))
  rw [jo_ren (h := itL) itB_list,itB_list]
  simp only [ren_app,item_ren,jpT_ren (g := pcItem) (h := itL) (sep := bs ⟨#[44,32]⟩) l (fun y _ => by rw [item_ren]; rfl),wdB_kw]
  simp [bs]
def joinB (s j : ByteArray) : List Tr → ByteArray
 | a :: b :: _ => (((((s ++ ⟨#[32,106,111,105,110,32]⟩) ++ j) ++ ⟨#[32,111,110,32]⟩) ++ shE a) ++ ⟨#[32,61,32]⟩) ++ shE b
 | _ => s
theorem join_ren {s j : ByteArray} {l : List Tr} (h : JoOK j l) (hw : ∀ w ∈ wJo j l,WdOK w) : bs (joinB s j l) = bs s ++ ren (pcJoin j l) := by
 rcases h with ⟨rfl,rfl⟩ | ⟨a,b,rfl,⟨a1,a2,rfl⟩,⟨b1,b2,rfl⟩⟩
 ·simp [joinB,pcJoin,ren]
 ·have ea : ∀ (p q : ByteArray),bs (shE (tCol p q)) = ren (pcE 0 (tCol p q)) := co_ren
  rw [joinB,pcJoin]
  simp only [bs_app,ren_cons,ren_app,ren_nil,wdB_kw,wdB_nm,wdB_sg,ea,ren_e (tCol a1 a2) (by intro e; cases e) 1,ren_e (tCol b1 b2) (by intro e; cases e) 1]
  simp [bs]
def ordB (s : ByteArray) (d : Bool) : List Tr → ByteArray
 | [] => if d then s ++ ⟨#[32,100,101,115,99]⟩ else s
 | a :: _ => if d then ((s ++ ⟨#[32,111,114,100,101,114,32,98,121,32]⟩) ++ shE a) ++ ⟨#[32,100,101,115,99]⟩ else (s ++ ⟨#[32,111,114,100,101,114,32,98,121,32]⟩) ++ shE a
theorem ord_ren {s : ByteArray} {d : Bool} {l : List Tr} (h : OrOK d l) : bs (ordB s d l) = bs s ++ ren (pcOrd d l) := by
 rcases h with ⟨rfl,rfl⟩ | ⟨a,rfl,⟨a1,a2,rfl⟩⟩
 ·simp [ordB,pcOrd,ren]
 ·have ea : ∀ (p q : ByteArray),bs (shE (tCol p q)) = ren (pcE 0 (tCol p q)) := co_ren
  rw [ordB,pcOrd]
  cases d with
  | false =>
   simp only [bs_app,ren_cons,ren_app,ren_nil,wdB_kw,ea,ren_e (tCol a1 a2) (by intro e; cases e) 1]
   simp [bs,ren_nil]
   exact ea a1 a2
  | true =>
   simp only [bs_app,ren_cons,ren_app,ren_nil,wdB_kw,ea,ren_e (tCol a1 a2) (by intro e; cases e) 1]
   simp [bs,ren_cons,ren_nil,wdB,kw]
   exact ea a1 a2
def selB (m : Sm) : ByteArray := ordB (joinB ((starB m.items ++ ⟨#[32,102,114,111,109,32]⟩) ++ m.table) m.join m.on ++ whB m.wh) m.desc m.order
theorem select_ren {D : Prop} {m : Sm} (hj : JoOK m.join m.on) (hw : One D m.wh) (ho : OrOK m.desc m.order) (wj : ∀ w ∈ wJo m.join m.on,WdOK w) (ww : ∀ w ∈ wWh m.wh,WdOK w) : bs (selB m) = ren ((0,kw ⟨#[115,101,108,101,99,116]⟩) :: pcQuery m) := by
 rw [selB,ord_ren ho,bs_app,join_ren hj wj,wh_ren hw ww,pcQuery]
 have h1 := star_ren m.items
 rw [ren_cons] at h1
 simp only [bs_app,h1,ren_cons,ren_app,wdB_kw,wdB_nm]
 simp [bs]
end Go.Proofs.YtfopfhlohihihaaGreat
