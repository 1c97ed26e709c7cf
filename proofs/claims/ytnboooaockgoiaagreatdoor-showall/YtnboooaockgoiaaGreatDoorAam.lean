import Derived.Test.YtnboooaockgoiaaGreatDoorAal
import Derived.Test.YtnboooaockgoiaaGreatDoorAac
import Derived.Test.YtnboooaockgoiaaGreatDoorAae
import Derived.Shelf.LaysM
import Derived.Shelf.Strconv.Itoa4
import Derived.Shelf.Strings.Builder1
import Derived.Shelf.Strings.Builder2
import Derived.Shelf.Strings.Replace
import Derived.Test.YtnboooaockgoiaaGreatDoorAaa
import Derived.Test.YtnboooaockgoiaaGreatDoorAaf
namespace Go.Proofs.YtnboooaockgoiaaGreatDoor
open Go.RowKit
set_option linter.unusedVariables false

theorem bs_app (a b : ByteArray) : bs (a ++ b) = bs a ++ bs b := by
  simp [bs]
theorem bs_ext {a b : ByteArray} (h : bs a = bs b) : a = b := by
  apply ByteArray.ext
  exact Array.toList_inj.1 h
theorem ren_cons (p : Pc) (l : List Pc) : ren (p :: l) = List.replicate p.1 32 ++ (wdB p.2 ++ ren l) := rfl
theorem ren_nil : ren [] = [] := rfl
theorem wdB_kw (s : ByteArray) : wdB (kw s) = bs s := rfl
theorem wdB_sg (s : ByteArray) : wdB (sg s) = bs s := rfl
theorem wdB_nm (s : ByteArray) : wdB (nm s) = bs s := rfl
theorem ren_e (t : Tr) (h : t ≠ .nil) (sp : Nat) : ren (pcE sp t) = List.replicate sp 32 ++ ren (pcE 0 t) := by
  cases t with
  | nil => exact absurd rfl h
  | node x op p l r =>
    rw [pcE, pcE]
    split
    · simp [ren_cons]
    · split
      · split <;> simp [ren_cons]
      · split
        · simp [ren_cons]
        · split
          · simp [ren_cons]
          · simp [ren_cons]
theorem Cn.ne {d : Nat} {t : Tr} (h : Cn d t) : t ≠ .nil := by rintro rfl; exact h
theorem ok_num {z : Int} (h : WdOK (3, ⟨#[]⟩, z)) : 0 ≤ z ∧ Fits z := by
  rcases h with ⟨c, n, h1, h2, h3, e⟩ | ⟨z', hf, e⟩ | ⟨q, h1, h2, e⟩ | ⟨c, h1, e⟩ | ⟨c, n, hk, e⟩
  · have := congrArg Prod.fst e
    revert this
    cases isW ⟨(c :: n).toArray⟩ <;> simp
  · cases e; exact ⟨Int.natCast_nonneg _, hf⟩
  · cases e
  · cases e
  · cases e
theorem itoa_nn {z : Int} (h : 0 ≤ z) : Lib.itoa z = Lib.decDigits z.toNat := by rw [Lib.itoa, if_neg (by omega)]
theorem va_int {n : Int} (h : 0 ≤ n) : bs (vaB (1, n, ⟨#[]⟩, ⟨#[]⟩, ⟨#[]⟩)) = Lib.decDigits n.toNat := by
  rw [vaB, if_pos rfl, bs_mk, itoa_nn h]
theorem va_text (s : ByteArray) : bs (vaB (2, 0, s, ⟨#[]⟩, ⟨#[]⟩)) = 39 :: (dblQ (bs s) ++ [39]) := by
  rw [vaB, if_neg (show ¬ (2 : Int) = 1 by decide), quB, bs_mk]; rfl
theorem co_ren (t n : ByteArray) : bs (coB t n) = ren (pcE 0 (tCol t n)) := by
  show _ = ren (if t = ⟨#[]⟩ then [(0, (1, n, 0))] else [(0, (1, t, 0)), (0, (5, ⟨#[46]⟩, 0)), (0, (1, n, 0))])
  rw [coB]
  split
  · rename_i h
    simp [ren_cons, ren_nil, wdB]
  · rw [bs_app, bs_app]
    simp [ren_cons, ren_nil, wdB]
theorem sh_ren {d : Nat} {t : Tr} (h : Cn d t) : (∀ w ∈ wdE t, WdOK w) → bs (shE t) = ren (pcE 0 t) := by
  refine Cn.ind (M := fun d t => (∀ w ∈ wdE t, WdOK w) → bs (shE t) = ren (pcE 0 t)) ?_ ?_ ?_ ?_ ?_ ?_ t d h
  · intro d n hw
    have h0 := (ok_num (hw (3, ⟨#[]⟩, n) (List.mem_singleton.2 rfl))).1
    have e : shE (tInt n) = vaB (1, n, ⟨#[]⟩, ⟨#[]⟩, ⟨#[]⟩) := by
      show (if (1 : Nat) = 1 then (if (1 : Int) = 1 ∧ n < 0 then ⟨#[]⟩ else vaB (1, n, ⟨#[]⟩, ⟨#[]⟩, ⟨#[]⟩)) else _) = _
      rw [if_pos rfl, if_neg (fun k => by omega)]
    rw [e, va_int h0]
    show _ = ren [(0, (3, ⟨#[]⟩, n))]
    simp [ren_cons, ren_nil, wdB]
  · intro d s hw
    have e : shE (tText s) = vaB (2, 0, s, ⟨#[]⟩, ⟨#[]⟩) := by
      show (if (1 : Nat) = 1 then (if (2 : Int) = 1 ∧ (0 : Int) < 0 then ⟨#[]⟩ else vaB (2, 0, s, ⟨#[]⟩, ⟨#[]⟩)) else _) = _
      rw [if_pos rfl, if_neg (fun k => by omega)]
    rw [e, va_text]
    show _ = ren [(0, (4, s, 0))]
    simp [ren_cons, ren_nil, wdB]
  · intro d t n hw; exact co_ren t n
  · intro d l h ih hw
    have hl := ih (fun w m => hw w (by show w ∈ (5, ⟨#[40]⟩, 0) :: (5, ⟨#[45]⟩, 0) :: (wdE l ++ [(5, ⟨#[41]⟩, 0)]); simp [m]))
    show bs ((⟨#[40, 45]⟩ ++ shE l) ++ ⟨#[41]⟩) = ren ((0, (5, ⟨#[40]⟩, 0)) :: (0, (5, ⟨#[45]⟩, 0)) :: (pcE 0 l ++ [(0, (5, ⟨#[41]⟩, 0))]))
    rw [bs_app, bs_app, hl]
    simp [ren_cons, ren_nil, ren_app, wdB, bs]
  · intro d l h ih hw
    have hl := ih (fun w m => hw w (by show w ∈ (5, ⟨#[40]⟩, 0) :: (2, ⟨#[110, 111, 116]⟩, 0) :: (wdE l ++ [(5, ⟨#[41]⟩, 0)]); simp [m]))
    show bs ((⟨#[40, 110, 111, 116, 32]⟩ ++ shE l) ++ ⟨#[41]⟩) = ren ((0, (5, ⟨#[40]⟩, 0)) :: (0, (2, ⟨#[110, 111, 116]⟩, 0)) :: (pcE 1 l ++ [(0, (5, ⟨#[41]⟩, 0))]))
    rw [bs_app, bs_app, hl]
    simp [ren_cons, ren_nil, ren_app, wdB, bs, ren_e l h.ne 1]
  · intro d l r j hj h h' ih ih' hw
    have e : wdE (tTwo (j + 5) l r) = (5, ⟨#[40]⟩, 0) :: (wdE l ++ opW j :: (wdE r ++ [(5, ⟨#[41]⟩, 0)])) := by
      show (if j + 5 = 1 then _ else _) = _
      rw [if_neg (by omega), if_neg (by omega), if_neg (by omega), if_neg (by omega), Nat.add_sub_cancel]
    rw [e] at hw
    have hl := ih (fun w m => hw w (by simp [m]))
    have hr := ih' (fun w m => hw w (by simp [m]))
    have e1 : shE (tTwo (j + 5) l r) = (((((⟨#[40]⟩ ++ shE l) ++ ⟨#[32]⟩) ++ opT j) ++ ⟨#[32]⟩) ++ shE r) ++ ⟨#[41]⟩ := by
      show (if j + 5 = 1 then _ else _) = _
      rw [if_neg (by omega), if_neg (by omega), if_neg (by omega), if_neg (by omega), Nat.add_sub_cancel]
    have e2 : pcE 0 (tTwo (j + 5) l r) = (0, (5, ⟨#[40]⟩, 0)) :: (pcE 0 l ++ (1, opW j) :: (pcE 1 r ++ [(0, (5, ⟨#[41]⟩, 0))])) := by
      show (if j + 5 = 1 then _ else _) = _
      rw [if_neg (by omega), if_neg (by omega), if_neg (by omega), if_neg (by omega), Nat.add_sub_cancel]
    have e3 : wdB (opW j) = bs (opT j) := by
      have : (opW j).1 ≠ 3 ∧ (opW j).1 ≠ 4 := by rw [opW]; split <;> exact ⟨by simp, by simp⟩
      rw [wdB, if_neg this.1, if_neg this.2]; rfl
    rw [e1, e2]
    simp only [bs_app, hl, hr, ren_cons, ren_nil, ren_app, e3, ren_e r h'.ne 1]
    simp [wdB, bs]
/-- Spaces ahead. -/
theorem sh_ren1 {d : Nat} {t : Tr} (h : Cn d t) (hw : ∀ w ∈ wdE t, WdOK w) : ren (pcE 1 t) = 32 :: bs (shE t) := by
  rw [ren_e t h.ne 1, sh_ren h hw]; rfl
theorem wh_ren {D : Prop} {l : List Tr} (h : One D l) (hw : ∀ w ∈ wWh l, WdOK w) : bs (whB l) = ren (pcWh l) := by
  rcases h with rfl | ⟨t, rfl, ht⟩
  · rfl
  · have e : wWh [t] = kw ⟨#[119, 104, 101, 114, 101]⟩ :: wdE t := by rw [wWh, pcWh, List.map_cons, pcE_words]
    rw [e] at hw
    show bs (⟨#[32, 119, 104, 101, 114, 101, 32]⟩ ++ shE t) = ren ((1, kw ⟨#[119, 104, 101, 114, 101]⟩) :: pcE 1 t)
    rw [bs_app, ren_cons, sh_ren1 ht.choose_spec.1 (fun w m => hw w (by simp [m]))]
    simp [wdB_kw, bs]
/-- Members with commas. -/
theorem jo_ren {α : Type} {sep : ByteArray} {g : ByteArray → α → ByteArray} {h : α → List UInt8} (hg : ∀ s y, bs (g s y) = bs s ++ h y) : ∀ (l : List α) (s : ByteArray), bs (l.foldl (fun s y => g (s ++ sep) y) s) = bs s ++ (l.map fun y => bs sep ++ h y).flatten
  | [], s => by simp
  | y :: l, s => by rw [List.foldl_cons, jo_ren hg l, hg, bs_app]; simp
theorem jpT_ren {α : Type} {g : Nat → α → List Pc} {h : α → List UInt8} {sep : List UInt8} : ∀ (l : List α), (∀ y ∈ l, 44 :: ren (g 1 y) = sep ++ h y) → ren (jpT g l) = (l.map fun y => sep ++ h y).flatten
  | [], _ => rfl
  | y :: l, hh => by
    rw [jpT, ren_cons, ren_app, jpT_ren l fun z hz => hh z (by simp [hz]), List.map_cons, List.flatten_cons, ← hh y (by simp), wdB_sg]
    simp [bs]
theorem exs_ren {D : Prop} {l : List Tr} (h : ∀ t ∈ l, CnD D t) (hw : ∀ w ∈ jw wdE l, WdOK w) : bs (exsB l) = ren (jp pcE 0 l) := by
  cases l with
  | nil => rfl
  | cons x l =>
    have hw1 : ∀ w ∈ wdE x, WdOK w := fun w m => hw w (by rw [jw]; simp [m])
    have hw2 : ∀ l : List Tr, (∀ w ∈ jwT wdE l, WdOK w) → ∀ y ∈ l, ∀ w ∈ wdE y, WdOK w := by
      intro l
      induction l with
      | nil => intro _ y hy; cases hy
      | cons z l ih =>
        intro hh y hy w m
        rcases List.mem_cons.1 hy with rfl | hy
        · exact hh w (by rw [jwT]; simp [m])
        · exact ih (fun w m => hh w (by rw [jwT]; simp [m])) y hy w m
    have hw3 := hw2 l (fun w m => hw w (by rw [jw]; simp [m]))
    show bs (l.foldl (fun s y => exB (s ++ ⟨#[44, 32]⟩) y) (exB ⟨#[]⟩ x)) = ren (pcE 0 x ++ jpT pcE l)
    rw [jo_ren (h := fun y => bs (shE y)) (fun s y => by rw [exB, bs_app]), ren_app, exB, bs_app, sh_ren (h x (by simp)).choose_spec.1 hw1, jpT_ren (h := fun y => bs (shE y)) (sep := bs ⟨#[44, 32]⟩) l fun y hy => by rw [sh_ren1 (h y (by simp [hy])).choose_spec.1 (hw3 y hy)]; rfl]
    rfl
theorem tas_ren {l : List Int} (h : ∀ z ∈ l, TaOK z) : bs (tasB l) = ren (jp pcTag 1 l) := by
  have e : ∀ z : Int, TaOK z → ren (pcTag 1 z) = 32 :: Lib.itoa z := by
    intro z hz
    rw [pcTag, ren_cons, ren_nil, itoa_nn hz.1]
    simp [wdB]
  cases l with
  | nil => rfl
  | cons x l =>
    show bs (l.foldl (fun s y => taB (s ++ ⟨#[44]⟩) y) (taB ⟨#[]⟩ x)) = ren (pcTag 1 x ++ jpT pcTag l)
    rw [jo_ren (h := fun y => 32 :: Lib.itoa y) (fun s y => by rw [taB, bs_app, bs_app, bs_mk]; simp [bs]), ren_app, e x (h x (by simp)), jpT_ren (h := fun y => 32 :: Lib.itoa y) (sep := bs ⟨#[44]⟩) l fun y hy => by rw [e y (h y (by simp [hy]))]; rfl, taB, bs_app, bs_app, bs_mk]
    rfl

end Go.Proofs.YtnboooaockgoiaaGreatDoor
namespace Go.Proofs.YtnboooaockgoiaaGreatDoor
open Go.RowKit
set_option linter.unusedVariables false
set_option linter.unusedSimpArgs false

theorem insert_ren {D : Prop} {m : Sm} (h : ∀ t ∈ m.values, CnD D t) (hw : ∀ w ∈ jw wdE m.values, WdOK w) : bs ((((⟨#[105, 110, 115, 101, 114, 116, 32, 105, 110, 116, 111, 32]⟩ ++ m.table) ++ ⟨#[32, 118, 97, 108, 117, 101, 115, 40]⟩) ++ exsB m.values) ++ ⟨#[41]⟩) = ren ((0, kw ⟨#[105, 110, 115, 101, 114, 116]⟩) :: pcInsert m) := by
  rw [pcInsert]
  simp only [bs_app, exs_ren h hw, ren_cons, ren_app, ren_nil, wdB_kw, wdB_nm, wdB_sg]
  simp [bs]
theorem delete_ren {D : Prop} {m : Sm} (h : One D m.wh) (hw : ∀ w ∈ wWh m.wh, WdOK w) : bs ((⟨#[100, 101, 108, 101, 116, 101, 32, 102, 114, 111, 109, 32]⟩ ++ m.table) ++ whB m.wh) = ren ((0, kw ⟨#[100, 101, 108, 101, 116, 101]⟩) :: pcDelete m) := by
  rw [pcDelete]
  simp only [bs_app, wh_ren h hw, ren_cons, ren_app, ren_nil, wdB_kw, wdB_nm, wdB_sg]
  simp [bs]
theorem update_ren {D : Prop} {m : Sm} {t : Tr} (hv : m.values = [t]) (ht : CnD D t) (hwt : ∀ w ∈ wdE t, WdOK w) (h : One D m.wh) (hw : ∀ w ∈ wWh m.wh, WdOK w) : bs ((((((⟨#[117, 112, 100, 97, 116, 101, 32]⟩ ++ m.table) ++ ⟨#[32, 115, 101, 116, 32]⟩) ++ m.name) ++ ⟨#[32, 61, 32]⟩) ++ shE t) ++ whB m.wh) = ren ((0, kw ⟨#[117, 112, 100, 97, 116, 101]⟩) :: pcUpdate m) := by
  rw [pcUpdate, hv, pcVal]
  simp only [bs_app, wh_ren h hw, sh_ren1 ht.choose_spec.1 hwt, ren_cons, ren_app, ren_nil, wdB_kw, wdB_nm, wdB_sg]
  simp [bs]
theorem index_ren (m : Sm) : bs ((((⟨#[99, 114, 101, 97, 116, 101, 32, 105, 110, 100, 101, 120, 32, 111, 110, 32]⟩ ++ m.table) ++ ⟨#[40]⟩) ++ m.name) ++ ⟨#[41]⟩) = ren ((0, kw ⟨#[99, 114, 101, 97, 116, 101]⟩) :: (1, kw ⟨#[105, 110, 100, 101, 120]⟩) :: pcIndex m) := by
  rw [pcIndex]
  simp only [bs_app, ren_cons, ren_app, ren_nil, wdB_kw, wdB_nm, wdB_sg]
  simp [bs]
theorem raise_ren {m : Sm} (h : ∀ z ∈ m.tags, TaOK z) : bs (⟨#[114, 97, 105, 115, 101]⟩ ++ tasB m.tags) = ren ((0, kw ⟨#[114, 97, 105, 115, 101]⟩) :: jp pcTag 1 m.tags) := by
  simp only [bs_app, tas_ren h, ren_cons, wdB_kw]
  simp [bs]
theorem call_ren (m : Sm) : bs (⟨#[99, 97, 108, 108, 32]⟩ ++ m.name) = ren [(0, kw ⟨#[99, 97, 108, 108]⟩), (1, nm m.name)] := by
  simp only [bs_app, ren_cons, ren_nil, wdB_kw, wdB_nm]
  simp [bs]
theorem s_sp (m : Sm) : ren (pcS 1 m) = 32 :: ren (pcS 0 m) := by
  rw [pcS, pcS]
  split
  · simp [ren_cons]
  split
  · simp [ren_cons]
  split
  · simp [ren_cons]
  · simp [ren_cons]
theorem view_ren {m x : Sm} {X : ByteArray} (h : ∀ z ∈ m.tags, TaOK z) (hX : bs X = ren (pcS 0 x)) : bs ((((⟨#[99, 114, 101, 97, 116, 101, 32, 118, 105, 101, 119, 32]⟩ ++ m.name) ++ ⟨#[32, 115, 116, 114, 105, 112]⟩) ++ tasB m.tags) ++ ⟨#[32, 97, 115, 32]⟩ ++ X) = ren ((0, kw ⟨#[99, 114, 101, 97, 116, 101]⟩) :: (1, kw ⟨#[118, 105, 101, 119]⟩) :: pcDoor m [x]) := by
  rw [pcDoor]
  simp only [bs_app, tas_ren h, hX, s_sp, ren_cons, ren_app, ren_nil, wdB_kw, wdB_nm, wdB_sg]
  simp [bs]
theorem closure_ren {m x : Sm} {X : ByteArray} (h : ∀ z ∈ m.tags, TaOK z) (hX : bs X = ren (pcS 0 x)) : bs ((((⟨#[99, 114, 101, 97, 116, 101, 32, 99, 108, 111, 115, 117, 114, 101, 32]⟩ ++ m.name) ++ ⟨#[32, 115, 116, 114, 105, 112]⟩) ++ tasB m.tags) ++ ⟨#[32, 97, 115, 32]⟩ ++ X) = ren ((0, kw ⟨#[99, 114, 101, 97, 116, 101]⟩) :: (1, kw ⟨#[99, 108, 111, 115, 117, 114, 101]⟩) :: pcDoor m [x]) := by
  rw [pcDoor]
  simp only [bs_app, tas_ren h, hX, s_sp, ren_cons, ren_app, ren_nil, wdB_kw, wdB_nm, wdB_sg]
  simp [bs]

end Go.Proofs.YtnboooaockgoiaaGreatDoor
namespace Go.Proofs.YtnboooaockgoiaaGreatDoor
open Go.RowKit
set_option linter.unusedVariables false
set_option linter.unusedSimpArgs false

def cdL (c : Co) : List UInt8 := bs c.1 ++ (32 :: (bs (kindW c.2.1) ++ if c.2.2 = ⟨#[]⟩ then [] else bs ⟨#[32, 114, 101, 102, 32]⟩ ++ bs c.2.2))
theorem cdB_list (s : ByteArray) (c : Co) : bs (cdB s c) = bs s ++ cdL c := by
  have e : kiB c.2.1 = kindW c.2.1 := rfl
  rw [cdB, cdL, e]
  split
  · rename_i h
    simp only [bs_app]
    simp [bs]
  · rename_i h
    simp only [bs_app]
    simp [bs]
theorem col_ren (k : Nat) (c : Co) : ren (pcCol k c) = List.replicate k 32 ++ cdL c := by
  rw [pcCol, cdL]
  split
  · simp only [ren_cons, ren_nil, wdB_kw, wdB_nm]
    simp [bs]
  · simp only [ren_cons, ren_nil, wdB_kw, wdB_nm]
    simp [bs]
theorem table_ren (m : Sm) (h : m.cols ≠ []) : bs (taT m) = ren ((0, kw ⟨#[99, 114, 101, 97, 116, 101]⟩) :: (1, kw ⟨#[116, 97, 98, 108, 101]⟩) :: pcTable m) := by
  obtain ⟨x, l, e⟩ := List.exists_cons_of_ne_nil h
  rw [taT, pcTable, e]
  show bs (l.foldl (fun s y => cdB (s ++ ⟨#[44, 32]⟩) y) (cdB ((⟨#[99, 114, 101, 97, 116, 101, 32, 116, 97, 98, 108, 101, 32]⟩ ++ m.name) ++ ⟨#[40]⟩) x) ++ ⟨#[41]⟩) = ren ((0, kw ⟨#[99, 114, 101, 97, 116, 101]⟩) :: (1, kw ⟨#[116, 97, 98, 108, 101]⟩) :: (1, nm m.name) :: (0, sg ⟨#[40]⟩) :: ((pcCol 0 x ++ jpT pcCol l) ++ [(0, sg ⟨#[41]⟩)]))
  rw [bs_app, jo_ren (h := cdL) cdB_list, cdB_list]
  simp only [ren_cons, ren_app, ren_nil, col_ren, jpT_ren (g := pcCol) (h := cdL) (sep := bs ⟨#[44, 32]⟩) l (fun y _ => by rw [col_ren]; rfl), bs_app, wdB_kw, wdB_nm, wdB_sg]
  simp [bs]

end Go.Proofs.YtnboooaockgoiaaGreatDoor
namespace Go.Proofs.YtnboooaockgoiaaGreatDoor
open Go.RowKit
set_option linter.unusedVariables false
set_option linter.unusedSimpArgs false

/-- An item, shown behind a text. -/
def itB (s : ByteArray) (x : It) : ByteArray := if x.1 = 0 then s ++ coB x.2.1 x.2.2 else if x.1 = 1 then s ++ ⟨#[99, 111, 117, 110, 116, 40, 42, 41]⟩ else (((s ++ aggW x.1) ++ ⟨#[40]⟩) ++ coB x.2.1 x.2.2) ++ ⟨#[41]⟩
def itL (x : It) : List UInt8 := if x.1 = 0 then bs (coB x.2.1 x.2.2) else if x.1 = 1 then bs ⟨#[99, 111, 117, 110, 116, 40, 42, 41]⟩ else bs (aggW x.1) ++ (40 :: (bs (coB x.2.1 x.2.2) ++ [41]))
theorem itB_list (s : ByteArray) (x : It) : bs (itB s x) = bs s ++ itL x := by
  rw [itB, itL]
  split
  · rw [bs_app]
  · split
    · rw [bs_app]
    · simp only [bs_app]; simp [bs]
theorem item_ren (k : Nat) (x : It) : ren (pcItem k x) = List.replicate k 32 ++ itL x := by
  rw [pcItem, itL]
  split
  · rw [ren_e _ (by intro e; cases e) k, co_ren]
  · split
    · simp only [ren_cons, ren_nil, wdB_kw, wdB_sg]; simp [bs]
    · simp only [ren_cons, ren_app, ren_nil, wdB_kw, wdB_sg, co_ren]; simp [bs]
def starB (l : List It) : ByteArray := joP ⟨#[44, 32]⟩ itB (if l = [] then ⟨#[115, 101, 108, 101, 99, 116, 32]⟩ ++ ⟨#[42]⟩ else ⟨#[115, 101, 108, 101, 99, 116, 32]⟩) l
theorem star_ren (l : List It) : bs (starB l) = ren ((0, kw ⟨#[115, 101, 108, 101, 99, 116]⟩) :: pcStar l) := by
  rw [starB, pcStar, ren_cons]
  split
  · rename_i h
    subst h
    simp only [joP, bs_app, ren_cons, ren_nil, wdB_kw, wdB_sg]; simp [bs]
  · rename_i h
    obtain ⟨x, l, rfl⟩ := List.exists_cons_of_ne_nil h
    show bs (l.foldl (fun s y => itB (s ++ ⟨#[44, 32]⟩) y) (itB ⟨#[115, 101, 108, 101, 99, 116, 32]⟩ x)) = _ ++ (_ ++ ren (pcItem 1 x ++ jpT pcItem l))
    rw [jo_ren (h := itL) itB_list, itB_list]
    simp only [ren_app, item_ren, jpT_ren (g := pcItem) (h := itL) (sep := bs ⟨#[44, 32]⟩) l (fun y _ => by rw [item_ren]; rfl), wdB_kw]
    simp [bs]
def joinB (s j : ByteArray) : List Tr → ByteArray
  | a :: b :: _ => (((((s ++ ⟨#[32, 106, 111, 105, 110, 32]⟩) ++ j) ++ ⟨#[32, 111, 110, 32]⟩) ++ shE a) ++ ⟨#[32, 61, 32]⟩) ++ shE b
  | _ => s
theorem join_ren {s j : ByteArray} {l : List Tr} (h : JoOK j l) (hw : ∀ w ∈ wJo j l, WdOK w) : bs (joinB s j l) = bs s ++ ren (pcJoin j l) := by
  rcases h with ⟨rfl, rfl⟩ | ⟨a, b, rfl, ⟨a1, a2, rfl⟩, ⟨b1, b2, rfl⟩⟩
  · simp [joinB, pcJoin, ren]
  · have ea : ∀ (p q : ByteArray), bs (shE (tCol p q)) = ren (pcE 0 (tCol p q)) := co_ren
    rw [joinB, pcJoin]
    simp only [bs_app, ren_cons, ren_app, ren_nil, wdB_kw, wdB_nm, wdB_sg, ea, ren_e (tCol a1 a2) (by intro e; cases e) 1, ren_e (tCol b1 b2) (by intro e; cases e) 1]
    simp [bs]
def ordB (s : ByteArray) (d : Bool) : List Tr → ByteArray
  | [] => if d then s ++ ⟨#[32, 100, 101, 115, 99]⟩ else s
  | a :: _ => if d then ((s ++ ⟨#[32, 111, 114, 100, 101, 114, 32, 98, 121, 32]⟩) ++ shE a) ++ ⟨#[32, 100, 101, 115, 99]⟩ else (s ++ ⟨#[32, 111, 114, 100, 101, 114, 32, 98, 121, 32]⟩) ++ shE a
theorem ord_ren {s : ByteArray} {d : Bool} {l : List Tr} (h : OrOK d l) : bs (ordB s d l) = bs s ++ ren (pcOrd d l) := by
  rcases h with ⟨rfl, rfl⟩ | ⟨a, rfl, ⟨a1, a2, rfl⟩⟩
  · simp [ordB, pcOrd, ren]
  · have ea : ∀ (p q : ByteArray), bs (shE (tCol p q)) = ren (pcE 0 (tCol p q)) := co_ren
    rw [ordB, pcOrd]
    cases d with
    | false =>
      simp only [bs_app, ren_cons, ren_app, ren_nil, wdB_kw, ea, ren_e (tCol a1 a2) (by intro e; cases e) 1]
      simp [bs, ren_nil]
      exact ea a1 a2
    | true =>
      simp only [bs_app, ren_cons, ren_app, ren_nil, wdB_kw, ea, ren_e (tCol a1 a2) (by intro e; cases e) 1]
      simp [bs, ren_cons, ren_nil, wdB, kw]
      exact ea a1 a2
/-- What the document's code shows of a select. -/
def selB (m : Sm) : ByteArray := ordB (joinB ((starB m.items ++ ⟨#[32, 102, 114, 111, 109, 32]⟩) ++ m.table) m.join m.on ++ whB m.wh) m.desc m.order
theorem select_ren {D : Prop} {m : Sm} (hj : JoOK m.join m.on) (hw : One D m.wh) (ho : OrOK m.desc m.order) (wj : ∀ w ∈ wJo m.join m.on, WdOK w) (ww : ∀ w ∈ wWh m.wh, WdOK w) : bs (selB m) = ren ((0, kw ⟨#[115, 101, 108, 101, 99, 116]⟩) :: pcQuery m) := by
  rw [selB, ord_ren ho, bs_app, join_ren hj wj, wh_ren hw ww, pcQuery]
  have h1 := star_ren m.items
  rw [ren_cons] at h1
  simp only [bs_app, h1, ren_cons, ren_app, wdB_kw, wdB_nm]
  simp [bs]

end Go.Proofs.YtnboooaockgoiaaGreatDoor
namespace Go.Proofs
open Go.Shelf
def Tryz.laysM171_ren : Go.Shelf.Ren := ⟨fun | 171 => 96 | 243 => 111 | 246 => 115 | 283 => 118 | 284 => 119 | 285 => 120 | 286 => 121 | 129 => 131 | 317 => 130 | 318 => 132 | 319 => 133 | 320 => 134 | 337 => 142 | 338 => 143 | n => n, fun | 3 => 3 | 9 => 9 | 2 => 2 | 4 => 4 | 171 => 140 | 0 => 0 | 53 => 122 | 37 => 22 | 5 => 5 | 173 => 143 | 212 => 157 | 51 => 158 | 20 => 20 | 213 => 159 | 46 => 161 | 232 => 174 | 233 => 175 | n => n, fun | 17 => 0 | 18 => 4 | 19 => 5 | n => n⟩
theorem Tryz.laysM171 : Go.Proofs.LaysM.n171 Tryz.prog Tryz.laysM171_ren := {
  mixed := by kernel_rfl
  f129 := Tryz.func131.trans (congrArg some (by kernel_rfl))
  f171 := Tryz.func96.trans (congrArg some (by kernel_rfl))
  f243 := Tryz.func111.trans (congrArg some (by kernel_rfl))
  f246 := Tryz.func115.trans (congrArg some (by kernel_rfl))
  f283 := Tryz.func118.trans (congrArg some (by kernel_rfl))
  f284 := Tryz.func119.trans (congrArg some (by kernel_rfl))
  f285 := Tryz.func120.trans (congrArg some (by kernel_rfl))
  f286 := Tryz.func121.trans (congrArg some (by kernel_rfl))
  f317 := Tryz.func130.trans (congrArg some (by kernel_rfl))
  f318 := Tryz.func132.trans (congrArg some (by kernel_rfl))
  f319 := Tryz.func133.trans (congrArg some (by kernel_rfl))
  f320 := Tryz.func134.trans (congrArg some (by kernel_rfl))
  f337 := Tryz.func142.trans (congrArg some (by kernel_rfl))
  f338 := Tryz.func143.trans (congrArg some (by kernel_rfl))
  t0 := Tryz.underlying0
  a0 := Tryz.isAgg0
  z0 := Tryz.sizeOf0
  v0 := Tryz.zeroValue0
  t2 := Tryz.underlying2
  a2 := Tryz.isAgg2
  z2 := Tryz.sizeOf2
  v2 := Tryz.zeroValue2
  t3 := Tryz.underlying3
  a3 := Tryz.isAgg3
  z3 := Tryz.sizeOf3
  v3 := Tryz.zeroValue3
  t4 := Tryz.underlying4
  a4 := Tryz.isAgg4
  z4 := Tryz.sizeOf4
  v4 := Tryz.zeroValue4
  t5 := Tryz.underlying5
  a5 := Tryz.isAgg5
  z5 := Tryz.sizeOf5
  v5 := Tryz.zeroValue5
  t9 := Tryz.underlying9
  a9 := Tryz.isAgg9
  z9 := Tryz.sizeOf9
  v9 := Tryz.zeroValue9
  t20 := Tryz.underlying20
  a20 := Tryz.isAgg20
  z20 := Tryz.sizeOf20
  v20 := Tryz.zeroValue20
  t37 := Tryz.underlying22
  a37 := Tryz.isAgg22
  z37 := Tryz.sizeOf22
  v37 := Tryz.zeroValue22
  t46 := Tryz.underlying161
  a46 := Tryz.isAgg161
  z46 := Tryz.sizeOf161
  v46 := Tryz.zeroValue161
  t51 := Tryz.underlying158
  a51 := Tryz.isAgg158
  z51 := Tryz.sizeOf158
  v51 := Tryz.zeroValue158
  t53 := Tryz.underlying122
  a53 := Tryz.isAgg122
  z53 := Tryz.sizeOf122
  v53 := Tryz.zeroValue122
  t171 := Tryz.underlying140
  a171 := Tryz.isAgg140
  z171 := Tryz.sizeOf140
  v171 := Tryz.zeroValue140
  t173 := Tryz.underlying143
  a173 := Tryz.isAgg143
  z173 := Tryz.sizeOf143
  v173 := Tryz.zeroValue143
  t212 := Tryz.underlying157
  a212 := Tryz.isAgg157
  z212 := Tryz.sizeOf157
  v212 := Tryz.zeroValue157
  t213 := Tryz.underlying159
  a213 := Tryz.isAgg159
  z213 := Tryz.sizeOf159
  t232 := Tryz.underlying174
  a232 := Tryz.isAgg174
  z232 := Tryz.sizeOf174
  v232 := Tryz.zeroValue174
  t233 := Tryz.underlying175
  a233 := Tryz.isAgg175
  z233 := Tryz.sizeOf175
  v233 := Tryz.zeroValue175
  g17 := by kernel_rfl
  g18 := by kernel_rfl
  g19 := by kernel_rfl
  i0 := by kernel_rfl
  i2 := by kernel_rfl
  i3 := by kernel_rfl
  i4 := by kernel_rfl
  i5 := by kernel_rfl
  i9 := by kernel_rfl
  i20 := by kernel_rfl
  i37 := by kernel_rfl
  i46 := by kernel_rfl
  i51 := by kernel_rfl
  i53 := by kernel_rfl
  i171 := by kernel_rfl
  i173 := by kernel_rfl
  i212 := by kernel_rfl
  i232 := by kernel_rfl
  i233 := by kernel_rfl
  m17 := by kernel_rfl
  m18 := by kernel_rfl
  m19 := by kernel_rfl }
open Go.RowKit Go.Sort Go.Lib in
/-- strconv.Itoa: "Itoa is equivalent to FormatInt(int64(i), 10).": i's DECIMAL NUMERAL ('Lib.itoa': a '-' where i is negative, then the digits), FOR EVERY int. The world behind the call: the world before it, new blocks behind the heap (the library's 'var a [24]byte'), draws. (LAID: no walk: one application.) -/
theorem Tryz.strconv_Itoa (n : Int) (h0 : -9223372036854775808 ≤ n) (h1 : n ≤ 9223372036854775807) (w : World) (htab : Lib.TabIs Tryz.prog w "internal/strconv.uint64pow10" .u64 Lib.pow10Tab) :
    Calls Tryz.prog 96 #[.int .i64 n] w fun e w' => e = .returned (.string ⟨(Lib.itoa n).toArray⟩) ∧ ∃ k os, w' = grow (w.drewN k) os := Any.strconv_Itoa Tryz.laysM171 n h0 h1 w htab
def Tryz.laysM173_ren : Go.Shelf.Ren := ⟨fun | 173 => 109 | 246 => 115 | 283 => 118 | 284 => 119 | 285 => 120 | 286 => 121 | 129 => 131 | 317 => 130 | 318 => 132 | 319 => 133 | 320 => 134 | 337 => 142 | 338 => 143 | n => n, fun | 2 => 2 | 3 => 3 | 9 => 9 | 4 => 4 | 171 => 140 | 0 => 0 | 53 => 122 | 37 => 22 | 5 => 5 | 173 => 143 | 212 => 157 | 51 => 158 | 20 => 20 | 213 => 159 | 46 => 161 | 232 => 174 | 233 => 175 | n => n, fun | 17 => 0 | 18 => 4 | 19 => 5 | n => n⟩
theorem Tryz.laysM173 : Go.Proofs.LaysM.n173 Tryz.prog Tryz.laysM173_ren := {
  mixed := by kernel_rfl
  f129 := Tryz.func131.trans (congrArg some (by kernel_rfl))
  f173 := Tryz.func109.trans (congrArg some (by kernel_rfl))
  f246 := Tryz.func115.trans (congrArg some (by kernel_rfl))
  f283 := Tryz.func118.trans (congrArg some (by kernel_rfl))
  f284 := Tryz.func119.trans (congrArg some (by kernel_rfl))
  f285 := Tryz.func120.trans (congrArg some (by kernel_rfl))
  f286 := Tryz.func121.trans (congrArg some (by kernel_rfl))
  f317 := Tryz.func130.trans (congrArg some (by kernel_rfl))
  f318 := Tryz.func132.trans (congrArg some (by kernel_rfl))
  f319 := Tryz.func133.trans (congrArg some (by kernel_rfl))
  f320 := Tryz.func134.trans (congrArg some (by kernel_rfl))
  f337 := Tryz.func142.trans (congrArg some (by kernel_rfl))
  f338 := Tryz.func143.trans (congrArg some (by kernel_rfl))
  t0 := Tryz.underlying0
  a0 := Tryz.isAgg0
  z0 := Tryz.sizeOf0
  v0 := Tryz.zeroValue0
  t2 := Tryz.underlying2
  a2 := Tryz.isAgg2
  z2 := Tryz.sizeOf2
  v2 := Tryz.zeroValue2
  t3 := Tryz.underlying3
  a3 := Tryz.isAgg3
  z3 := Tryz.sizeOf3
  v3 := Tryz.zeroValue3
  t4 := Tryz.underlying4
  a4 := Tryz.isAgg4
  z4 := Tryz.sizeOf4
  v4 := Tryz.zeroValue4
  t5 := Tryz.underlying5
  a5 := Tryz.isAgg5
  z5 := Tryz.sizeOf5
  v5 := Tryz.zeroValue5
  t9 := Tryz.underlying9
  a9 := Tryz.isAgg9
  z9 := Tryz.sizeOf9
  v9 := Tryz.zeroValue9
  t20 := Tryz.underlying20
  a20 := Tryz.isAgg20
  z20 := Tryz.sizeOf20
  v20 := Tryz.zeroValue20
  t37 := Tryz.underlying22
  a37 := Tryz.isAgg22
  z37 := Tryz.sizeOf22
  v37 := Tryz.zeroValue22
  t46 := Tryz.underlying161
  a46 := Tryz.isAgg161
  z46 := Tryz.sizeOf161
  v46 := Tryz.zeroValue161
  t51 := Tryz.underlying158
  a51 := Tryz.isAgg158
  z51 := Tryz.sizeOf158
  v51 := Tryz.zeroValue158
  t53 := Tryz.underlying122
  a53 := Tryz.isAgg122
  z53 := Tryz.sizeOf122
  v53 := Tryz.zeroValue122
  t171 := Tryz.underlying140
  a171 := Tryz.isAgg140
  z171 := Tryz.sizeOf140
  v171 := Tryz.zeroValue140
  t173 := Tryz.underlying143
  a173 := Tryz.isAgg143
  z173 := Tryz.sizeOf143
  v173 := Tryz.zeroValue143
  t212 := Tryz.underlying157
  a212 := Tryz.isAgg157
  z212 := Tryz.sizeOf157
  v212 := Tryz.zeroValue157
  t213 := Tryz.underlying159
  a213 := Tryz.isAgg159
  z213 := Tryz.sizeOf159
  t232 := Tryz.underlying174
  a232 := Tryz.isAgg174
  z232 := Tryz.sizeOf174
  v232 := Tryz.zeroValue174
  t233 := Tryz.underlying175
  a233 := Tryz.isAgg175
  z233 := Tryz.sizeOf175
  v233 := Tryz.zeroValue175
  g17 := by kernel_rfl
  g18 := by kernel_rfl
  g19 := by kernel_rfl
  i0 := by kernel_rfl
  i2 := by kernel_rfl
  i3 := by kernel_rfl
  i4 := by kernel_rfl
  i5 := by kernel_rfl
  i9 := by kernel_rfl
  i20 := by kernel_rfl
  i37 := by kernel_rfl
  i46 := by kernel_rfl
  i51 := by kernel_rfl
  i53 := by kernel_rfl
  i171 := by kernel_rfl
  i173 := by kernel_rfl
  i212 := by kernel_rfl
  i232 := by kernel_rfl
  i233 := by kernel_rfl
  m17 := by kernel_rfl
  m18 := by kernel_rfl
  m19 := by kernel_rfl }
open Go.RowKit Go.Sort Go.Lib in
/-- strconv.FormatInt: "FormatInt returns the string representation of i in the given base": AT BASE 10: i's decimal numeral, for every int64. (LAID: no walk: one application.) -/
theorem Tryz.strconv_FormatInt_10 (n : Int) (h0 : -9223372036854775808 ≤ n) (h1 : n ≤ 9223372036854775807) (w : World) (htab : Lib.TabIs Tryz.prog w "internal/strconv.uint64pow10" .u64 Lib.pow10Tab) :
    Calls Tryz.prog 109 #[.int .i64 n, .int .i64 10] w fun e w' => e = .returned (.string ⟨(Lib.itoa n).toArray⟩) ∧ ∃ k os, w' = grow (w.drewN k) os := Any.strconv_FormatInt_10 Tryz.laysM173 n h0 h1 w htab
def Tryz.lays155_ren : Go.Shelf.Ren := ⟨fun | 155 => 110 | 154 => 116 | 138 => 122 | 165 => 123 | 143 => 124 | 166 => 125 | 197 => 126 | 169 => 127 | 195 => 135 | 218 => 136 | 240 => 137 | 241 => 138 | 219 => 139 | 260 => 140 | 276 => 144 | 277 => 145 | 217 => 146 | 225 => 147 | 224 => 148 | 267 => 149 | 266 => 151 | 314 => 152 | n => n, fun | 9 => 9 | 3 => 3 | 4 => 4 | 72 => 148 | 0 => 0 | 76 => 152 | 105 => 154 | 21 => 21 | 5 => 5 | 70 => 146 | 20 => 20 | 37 => 22 | 75 => 151 | 127 => 165 | 164 => 167 | 46 => 161 | 119 => 170 | 139 => 173 | 138 => 172 | 146 => 176 | 51 => 158 | 80 => 71 | n => n, fun | 1 => 1 | 3 => 2 | 4 => 3 | n => n⟩
theorem Tryz.lays155 : Go.Proofs.Lays.n155 Tryz.prog Tryz.lays155_ren := {
  mixed := by kernel_rfl
  f138 := Tryz.func122.trans (congrArg some (by kernel_rfl))
  f143 := Tryz.func124.trans (congrArg some (by kernel_rfl))
  f154 := Tryz.func116.trans (congrArg some (by kernel_rfl))
  f155 := Tryz.func110.trans (congrArg some (by kernel_rfl))
  f165 := Tryz.func123.trans (congrArg some (by kernel_rfl))
  f166 := Tryz.func125.trans (congrArg some (by kernel_rfl))
  f169 := Tryz.func127.trans (congrArg some (by kernel_rfl))
  f195 := Tryz.func135.trans (congrArg some (by kernel_rfl))
  f197 := Tryz.func126.trans (congrArg some (by kernel_rfl))
  f217 := Tryz.func146.trans (congrArg some (by kernel_rfl))
  f218 := Tryz.func136.trans (congrArg some (by kernel_rfl))
  f219 := Tryz.func139.trans (congrArg some (by kernel_rfl))
  f224 := Tryz.func148.trans (congrArg some (by kernel_rfl))
  f225 := Tryz.func147.trans (congrArg some (by kernel_rfl))
  f240 := Tryz.func137.trans (congrArg some (by kernel_rfl))
  f241 := Tryz.func138.trans (congrArg some (by kernel_rfl))
  f260 := Tryz.func140.trans (congrArg some (by kernel_rfl))
  f266 := Tryz.func151.trans (congrArg some (by kernel_rfl))
  f267 := Tryz.func149.trans (congrArg some (by kernel_rfl))
  f276 := Tryz.func144.trans (congrArg some (by kernel_rfl))
  f277 := Tryz.func145.trans (congrArg some (by kernel_rfl))
  f314 := Tryz.func152.trans (congrArg some (by kernel_rfl))
  t0 := Tryz.underlying0
  a0 := Tryz.isAgg0
  z0 := Tryz.sizeOf0
  v0 := Tryz.zeroValue0
  t3 := Tryz.underlying3
  a3 := Tryz.isAgg3
  z3 := Tryz.sizeOf3
  v3 := Tryz.zeroValue3
  t4 := Tryz.underlying4
  a4 := Tryz.isAgg4
  z4 := Tryz.sizeOf4
  v4 := Tryz.zeroValue4
  t5 := Tryz.underlying5
  a5 := Tryz.isAgg5
  z5 := Tryz.sizeOf5
  v5 := Tryz.zeroValue5
  t9 := Tryz.underlying9
  a9 := Tryz.isAgg9
  z9 := Tryz.sizeOf9
  v9 := Tryz.zeroValue9
  t20 := Tryz.underlying20
  a20 := Tryz.isAgg20
  z20 := Tryz.sizeOf20
  v20 := Tryz.zeroValue20
  t21 := Tryz.underlying21
  a21 := Tryz.isAgg21
  z21 := Tryz.sizeOf21
  v21 := Tryz.zeroValue21
  t37 := Tryz.underlying22
  a37 := Tryz.isAgg22
  z37 := Tryz.sizeOf22
  v37 := Tryz.zeroValue22
  t46 := Tryz.underlying161
  a46 := Tryz.isAgg161
  z46 := Tryz.sizeOf161
  v46 := Tryz.zeroValue161
  t51 := Tryz.underlying158
  a51 := Tryz.isAgg158
  z51 := Tryz.sizeOf158
  v51 := Tryz.zeroValue158
  t70 := Tryz.underlying146
  a70 := Tryz.isAgg146
  z70 := Tryz.sizeOf146
  v70 := Tryz.zeroValue146
  t72 := Tryz.underlying148
  a72 := Tryz.isAgg148
  z72 := Tryz.sizeOf148
  v72 := Tryz.zeroValue148
  t75 := Tryz.underlying151
  a75 := Tryz.isAgg151
  z75 := Tryz.sizeOf151
  v75 := Tryz.zeroValue151
  t76 := Tryz.underlying152
  a76 := Tryz.isAgg152
  z76 := Tryz.sizeOf152
  v76 := Tryz.zeroValue152
  t105 := Tryz.underlying154
  a105 := Tryz.isAgg154
  z105 := Tryz.sizeOf154
  v105 := Tryz.zeroValue154
  t119 := Tryz.underlying170
  a119 := Tryz.isAgg170
  z119 := Tryz.sizeOf170
  t127 := Tryz.underlying165
  a127 := Tryz.isAgg165
  z127 := Tryz.sizeOf165
  v127 := Tryz.zeroValue165
  t138 := Tryz.underlying172
  a138 := Tryz.isAgg172
  z138 := Tryz.sizeOf172
  v138 := Tryz.zeroValue172
  t139 := Tryz.underlying173
  a139 := Tryz.isAgg173
  z139 := Tryz.sizeOf173
  v139 := Tryz.zeroValue173
  t146 := Tryz.underlying176
  a146 := Tryz.isAgg176
  z146 := Tryz.sizeOf176
  v146 := Tryz.zeroValue176
  t164 := Tryz.underlying167
  a164 := Tryz.isAgg167
  z164 := Tryz.sizeOf167
  v164 := Tryz.zeroValue167
  g1 := by kernel_rfl
  g3 := by kernel_rfl
  g4 := by kernel_rfl }
theorem Tryz.Builder_Extra_155 : Builder.Extra Tryz.prog Tryz.lays155_ren := {
  sizeBuilder := by kernel_rfl
  liesBuilder := by kernel_rfl
  t5 := Tryz.underlying5
  a5 := Tryz.isAgg5
  z5 := Tryz.sizeOf5
  v5 := Tryz.zeroValue5
  infoByte := by kernel_rfl
  cellsByte := by kernel_rfl
  sizeByte := by kernel_rfl
  neB5 := by decide }
open Go.RowKit Go.Lib in
/-- strings.ReplaceAll: "ReplaceAll returns a copy of the string s with all non-overlapping instances of old replaced by new.": AT AN old THAT IS NOT EMPTY: 'Lib.replaceAll s old new'. (LAID: no walk: one application.) -/
theorem Tryz.strings_ReplaceAll (s old new : ByteArray) (m : Int) (w : World) (hs : s.size < 4294967281) (hm : w.cell? ⟨1, 0, none⟩ = some (.int .i64 m)) (h1 : 1 ≤ old.size) (hlen : s.size + Lib.countB s old * new.size ≤ 140737488355328) :
    Calls Tryz.prog 110 #[.string s, .string old, .string new] w fun e w' =>
      e = .returned (.string ⟨(Lib.replaceAll s.data.toList old.data.toList new.data.toList).toArray⟩) ∧ Below w.heap.size w w' := Any.strings_ReplaceAll Tryz.lays155 Tryz.Builder_Extra_155 s old new m w hs hm h1 hlen
end Go.Proofs
namespace Go.Proofs.YtnboooaockgoiaaGreatDoor
open Go.RowKit
set_option linter.unusedVariables false

/-- The number that Num picks next, below m. -/
def nxP (w : World) (g m : Nat) : Nat := match w.cell? ⟨g, 0, none⟩, w.cell? ⟨g, 1, none⟩ with
  | some (.slice (some a) len _), some (.int _ n) => if (len : Int) ≤ n then 0 else (match w.cell? ⟨a.block, a.off + n.toNat, none⟩ with | some (.int _ z) => (z % (m : Int)).toNat | _ => 0)
  | _, _ => 0
theorem nxP_zero {w : World} {g m : Nat} {a : Option Addr} {n cap : Nat} (c0 : w.cell? ⟨g, 0, none⟩ = some (.slice a n cap)) (c1 : w.cell? ⟨g, 1, none⟩ = some (.int .i64 n)) : nxP w g m = 0 := by
  unfold nxP
  rw [c0, c1]
  cases a with
  | none => rfl
  | some a => show (if (n : Int) ≤ (n : Int) then 0 else _) = 0; rw [if_pos (Int.le_refl _)]
theorem nxP_some {w : World} {g m : Nat} {b o len n cap : Nat} {z : Int} (c0 : w.cell? ⟨g, 0, none⟩ = some (.slice (some ⟨b, o, none⟩) len cap)) (c1 : w.cell? ⟨g, 1, none⟩ = some (.int .i64 n)) (h : n < len) (hc : w.cell? ⟨b, o + n, none⟩ = some (.int .u8 z)) : nxP w g m = (z % (m : Int)).toNat := by
  unfold nxP
  rw [c0, c1]
  show (if (len : Int) ≤ (n : Int) then 0 else (match w.cell? ⟨b, o + ((n : Nat) : Int).toNat, none⟩ with | some (.int _ z) => (z % (m : Int)).toNat | _ => 0)) = _
  rw [if_neg (by omega), Int.toNat_natCast, hc]

set_option maxRecDepth 100000 in
set_option maxHeartbeats 1000000 in
theorem num_exact {g r : Nat} {w : World} (h : Pk w g r) (m : Nat) (hm : 0 < m) (hm2 : m ≤ 100) :
    Calls Tryz.prog 18 #[.pointer (some ⟨g, 0, none⟩), .int .i64 (m : Int)] w fun e w' => ∃ r', e = .returned (.int .i64 ((nxP w g m : Nat) : Int)) ∧ nxP w g m < m ∧ Less r r' ∧ Pk w' g r' ∧ But g w w' := by
  obtain ⟨a, len, cap, n, hq, h1, h2, h3, h4⟩ := h.on
  obtain ⟨c0, c1⟩ := hq.cells
  have f1 := hq.free
  have hgl := hq.lt
  by_cases hr : r = 0
  · subst hr
    obtain rfl : n = len := by omega
    have g1 : decide ((n : Int) ≤ (n : Int)) = true := by simp
    have HP : Hid _ := hid h
    have HX : Hid (nxP w g m = 0) := hid (nxP_zero c0 c1)
    clear h h4 h1 hq
    go_enter Tryz.func18, Tryz.ntmps18
    go_wp2
    go_quiet (fail)
    have HQ : Hid _ := hid (HP.out.drewN nq)
    have HB : Hid _ := hid ((But.refl g w).rdrew nq)
    clear HP
    generalize w.drewN nq = W at *
    go_wp2
    go_ret
    exact ⟨0, by rw [HX.out]; rfl, by rw [HX.out]; exact hm, ⟨Nat.le_refl _, fun h => by omega⟩, HQ.out, HB.out⟩
  · have hlt : n < len := by omega
    have g1 : decide ((len : Int) ≤ (n : Int)) = false := by simp; omega
    obtain ⟨b, o, rfl, hbg, hbl, hz⟩ := h4 (by omega)
    obtain ⟨z, z0, z1, hc⟩ := hz n hlt
    have HX : Hid (nxP w g m = (z % (m : Int)).toNat) := hid (nxP_some c0 c1 hlt hc)
    have HP : Hid (Pk (w.setCell ⟨g, 1, none⟩ (.int .i64 ((n + 1 : Nat) : Int))) g (r - 1)) := hid ⟨_, len, cap, n + 1, hq.set _, by omega, h2, h3, h4.keep (by simp [World.setCell]) fun k hk => Below.heap_setCell _ _ _ _ (by show k ≠ g; omega)⟩
    have hP2 := hq.set (n + 1)
    obtain ⟨d0, d1⟩ := hP2.cells
    have hc2 : (w.setCell ⟨g, 1, none⟩ (.int .i64 ((n + 1 : Nat) : Int))).cell? ⟨b, o + n, none⟩ = some (.int .u8 z) := (World.cell?_of_block (a := ⟨b, _, none⟩) (Below.heap_setCell _ _ _ _ (by show b ≠ g; omega))).trans hc
    have hbe : ((n + 1 : Nat) : Int) = (n : Int) + 1 := by omega
    have hB : But g w (w.setCell ⟨g, 1, none⟩ (.int .i64 ((n + 1 : Nat) : Int))) := But.set _ _ _ _
    rw [hbe] at d0 d1 hc2 HP hB
    clear h h4 hq hP2 hz hbe
    go_enter Tryz.func18, Tryz.ntmps18
    go_wp2
    go_quiet (fail)
    obtain ⟨V, hV⟩ : ∃ V, w.drewN nq = V := ⟨_, rfl⟩
    have e0 : V.cell? ⟨g, 0, none⟩ = some (.slice (some ⟨b, o, none⟩) len cap) := by rw [← hV]; exact c0
    have e1 : V.cell? ⟨g, 1, none⟩ = some (.int .i64 n) := by rw [← hV]; exact c1
    have e2 : V.frozen? ⟨g, 1, none⟩ = false := by rw [← hV]; exact f1
    have e3 : V.heap.size = w.heap.size := by rw [← hV]; rfl
    have e4 : (V.setCell ⟨g, 1, none⟩ (.int .i64 ((n : Int) + 1))).cell? ⟨b, o + n, none⟩ = some (.int .u8 z) := by rw [← hV]; exact hc2
    have e5 : (V.setCell ⟨g, 1, none⟩ (.int .i64 ((n : Int) + 1))).cell? ⟨g, 0, none⟩ = some (.slice (some ⟨b, o, none⟩) len cap) := by rw [← hV]; exact d0
    have e6 : (V.setCell ⟨g, 1, none⟩ (.int .i64 ((n : Int) + 1))).cell? ⟨g, 1, none⟩ = some (.int .i64 ((n : Int) + 1)) := by rw [← hV]; exact d1
    have HQ : Hid (Pk (V.setCell ⟨g, 1, none⟩ (.int .i64 ((n : Int) + 1))) g (r - 1)) := hid (by rw [← hV]; exact HP.out.keep (Nat.le_refl _) fun _ _ => rfl)
    have HC : Hid (But g w (V.setCell ⟨g, 1, none⟩ (.int .i64 ((n : Int) + 1)))) := hid (by rw [← hV]; exact ⟨hB.os, hB.tape, hB.output, hB.size, hB.block⟩)
    clear c0 c1 f1 d0 d1 hc hc2 HP hB
    rw [hV]
    clear hV
    go_wp2
    obtain ⟨U, hU⟩ : ∃ U, V.setCell ⟨g, 1, none⟩ (.int .i64 ((n : Int) + 1)) = U := ⟨_, rfl⟩
    rw [hU] at e4 e5 e6 HQ HC ⊢
    clear hU e0 e1 e2 e3
    go_quiet (fail)
    have HQ2 : Hid _ := hid (HQ.out.drewN nq)
    have HC2 : Hid _ := hid (HC.out.rdrew nq)
    generalize U.drewN nq = T at *
    go_wp2
    go_ret
    have hmi : (0 : Int) < (m : Int) := by omega
    have hz0 : 0 ≤ z % (m : Int) := Int.emod_nonneg _ (by omega)
    have hz1 : z % (m : Int) < (m : Int) := Int.emod_lt_of_pos _ hmi
    refine ⟨r - 1, ?_, by rw [HX.out]; omega, ⟨by omega, fun _ => by omega⟩, HQ2.out, HC2.out⟩
    show Ending.returned (.int .i64 (z % (m : Int))) = _
    rw [HX.out, Int.toNat_of_nonneg hz0]

end Go.Proofs.YtnboooaockgoiaaGreatDoor
