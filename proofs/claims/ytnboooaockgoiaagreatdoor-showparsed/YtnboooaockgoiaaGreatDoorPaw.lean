import Derived.Test.YtnboooaockgoiaaGreatDoorPav
import Derived.Test.YtnboooaockgoiaaGreatDoorPas
import Derived.Test.YtnboooaockgoiaaGreatDoorPat
import Derived.Test.YtnboooaockgoiaaGreatDoorPaa
import Derived.ProofKit
import Derived.OpenShut
import Derived.ShutString
import Derived.ChangeOld
import Derived.Below
import Derived.Deep.Strs
import Derived.ChangeMaps5
namespace Go.Proofs.YtnboooaockgoiaaGreatDoor
open Go.RowKit
set_option linter.unusedVariables false

/-- Statements as Parse makes them, with none within them. -/
def SmOK (D : Prop) (m : Sm) : Prop :=
  (∃ tb vs, vs ≠ [] ∧ (∀ t ∈ vs, CnD D t) ∧ m = up_va (up_tb (sm 5) tb) vs) ∨
  (∃ its tb j on wh od d, (∀ x ∈ its, ItOK x) ∧ JoOK j on ∧ One D wh ∧ OrOK d od ∧ m = up_oo (up_wh (up_jo (up_tb (up_it (sm 6) its) tb) (j, on)) wh) (od, d)) ∨
  (∃ tb nm t wh, CnD D t ∧ One D wh ∧ m = up_wh (up_va (up_nm (up_tb (sm 7) tb) nm) [t]) wh) ∨
  (∃ tb wh, One D wh ∧ m = up_wh (up_tb (sm 8) tb) wh)
def wS (m : Sm) : List Wd := (pcS 0 m).map Prod.snd
theorem s_words (k : Nat) (m : Sm) : (pcS k m).map Prod.snd = wS m := by
  rw [wS, pcS, pcS]
  split
  · rfl
  split
  · rfl
  split <;> rfl
theorem jw_expr (l : List Tr) : (jp pcE 0 l).map Prod.snd = jw wdE l := jp_words (fun k y => pcE_words y k) 0 l
theorem rds_insert {D : Prop} {tb : ByteArray} {vs : List Tr} (h0 : vs ≠ []) (h : ∀ t ∈ vs, CnD D t) : Rds D insertP ((pcInsert (up_va (up_tb (sm 5) tb) vs)).map Prod.snd) (up_va (up_tb (sm 5) tb) vs) none := by
  have e : (pcInsert (up_va (up_tb (sm 5) tb) vs)).map Prod.snd = (([kw ⟨#[105, 110, 116, 111]⟩] ++ [nm tb]) ++ [kw ⟨#[118, 97, 108, 117, 101, 115]⟩]) ++ (sg ⟨#[40]⟩ :: (jw wdE vs ++ [sg ⟨#[41]⟩])) := by
    rw [pcInsert, List.map_cons, List.map_cons, List.map_cons, List.map_cons, List.map_append]
    show kw ⟨#[105, 110, 116, 111]⟩ :: nm tb :: kw ⟨#[118, 97, 108, 117, 101, 115]⟩ :: sg ⟨#[40]⟩ :: ((jp pcE 0 vs).map Prod.snd ++ [sg ⟨#[41]⟩]) = _
    rw [jw_expr]
    rfl
  rw [e]
  exact (Fr.then (Fr.then (Fr.then (fr_want (w := kw ⟨#[105, 110, 116, 111]⟩) (.inl rfl) (sm 5)) (fr_fill (rds_name tb) up_tb _) trivial) (fr_want (w := kw ⟨#[118, 97, 108, 117, 101, 115]⟩) (.inl rfl) _) trivial) (fr_fill (rds_br (S := some exF) ⟨.inr rfl, mem_of rfl⟩ ⟨_, rfl, sub_of rfl⟩ h0 (fun t ht => rds_expr (h t ht))) up_va _) trivial).rds
theorem hd_wh {D : Prop} {S : List ByteArray} (h1 : ⟨#[119, 104, 101, 114, 101]⟩ ∈ S) (h2 : ∀ s ∈ whF, s ∈ S) {l : List Tr} (h : One D l) : Hd (some S) (wWh l) (some whF) := by
  rcases h with rfl | ⟨t, rfl, ht⟩
  · exact ⟨_, rfl, h2⟩
  · exact ⟨.inl rfl, h1⟩
theorem rds_delete {D : Prop} {tb : ByteArray} {wh : List Tr} (h : One D wh) : Rds D deleteP ((pcDelete (up_wh (up_tb (sm 8) tb) wh)).map Prod.snd) (up_wh (up_tb (sm 8) tb) wh) (some whF) := by
  have e : (pcDelete (up_wh (up_tb (sm 8) tb) wh)).map Prod.snd = ([kw ⟨#[102, 114, 111, 109]⟩] ++ [nm tb]) ++ wWh wh := rfl
  rw [e]
  exact (Fr.then (Fr.then (fr_want (w := kw ⟨#[102, 114, 111, 109]⟩) (.inl rfl) (sm 8)) (fr_fill (rds_name tb) up_tb _) trivial) (fr_fill (rds_where h) up_wh _) trivial).rds
/-- Words that may follow an expression that is set. -/
theorem rds_expr1 {D : Prop} {t : Tr} (h : CnD D t) : Rds D expr1P (wdE t) [t] (some joF) := by
  obtain ⟨d, h, hd⟩ := h
  refine Rds.map ?_ fun x => [x]
  intro ts R hm hR
  exact expr_of (back h 64 hd ts R hm (hR.no (nmem_of rfl))) (head_not h hm R) (hR.ops (by simp [opsTerm, joF])) (hR.ops (by simp [opsSum, joF])) (hR.ops (by simp [opsComp, joF])) (hR.ops (by simp [opsAnd, joF])) (hR.ops (by simp [opsOr, joF]))
theorem rds_update {D : Prop} {tb n : ByteArray} {t : Tr} {wh : List Tr} (ht : CnD D t) (h : One D wh) : Rds D updateP ((pcUpdate (up_wh (up_va (up_nm (up_tb (sm 7) tb) n) [t]) wh)).map Prod.snd) (up_wh (up_va (up_nm (up_tb (sm 7) tb) n) [t]) wh) (some whF) := by
  have e : (pcUpdate (up_wh (up_va (up_nm (up_tb (sm 7) tb) n) [t]) wh)).map Prod.snd = (((([nm tb] ++ [kw ⟨#[115, 101, 116]⟩]) ++ [nm n]) ++ [sg ⟨#[61]⟩]) ++ wdE t) ++ wWh wh := by
    rw [pcUpdate]
    show nm tb :: kw ⟨#[115, 101, 116]⟩ :: nm n :: sg ⟨#[61]⟩ :: (pcE 1 t ++ pcWh wh).map Prod.snd = _
    rw [List.map_append, pcE_words]
    simp [wWh]
  rw [e]
  exact (Fr.then (Fr.then (Fr.then (Fr.then (Fr.then (fr_fill (rds_name tb) up_tb (sm 7)) (fr_want (w := kw ⟨#[115, 101, 116]⟩) (.inl rfl) _) trivial) (fr_fill (rds_name n) up_nm _) trivial) (fr_want (w := sg ⟨#[61]⟩) (.inr rfl) _) trivial) (fr_fill (rds_expr1 ht) up_va _) trivial) (fr_fill (rds_where h) up_wh _) (hd_wh (mem_of rfl) (sub_of rfl) h)).rds
theorem hd_or {d : Bool} {S : List ByteArray} (h1 : ⟨#[111, 114, 100, 101, 114]⟩ ∈ S) (h2 : ∀ s ∈ fiF, s ∈ S) {l : List Tr} (h : OrOK d l) : Hd (some S) (wOr d l) (some fiF) := by
  rcases h with ⟨rfl, rfl⟩ | ⟨a, rfl, ha⟩
  · exact ⟨_, rfl, h2⟩
  · exact ⟨.inl rfl, h1⟩
theorem rds_query {D : Prop} {its : List It} {tb j : ByteArray} {on wh od : List Tr} {d : Bool} (hi : ∀ x ∈ its, ItOK x) (hj : JoOK j on) (hw : One D wh) (ho : OrOK d od) : Rds D queryP (kw ⟨#[115, 101, 108, 101, 99, 116]⟩ :: (pcQuery (up_oo (up_wh (up_jo (up_tb (up_it (sm 6) its) tb) (j, on)) wh) (od, d))).map Prod.snd) (up_oo (up_wh (up_jo (up_tb (up_it (sm 6) its) tb) (j, on)) wh) (od, d)) (some fiF) := by
  have e : kw ⟨#[115, 101, 108, 101, 99, 116]⟩ :: (pcQuery (up_oo (up_wh (up_jo (up_tb (up_it (sm 6) its) tb) (j, on)) wh) (od, d))).map Prod.snd = (((([kw ⟨#[115, 101, 108, 101, 99, 116]⟩] ++ wSt its) ++ [kw ⟨#[102, 114, 111, 109]⟩]) ++ [nm tb]) ++ wJo j on) ++ wWh wh ++ wOr d od := by
    rw [pcQuery]
    show kw ⟨#[115, 101, 108, 101, 99, 116]⟩ :: (pcStar its ++ (1, kw ⟨#[102, 114, 111, 109]⟩) :: (1, nm tb) :: (pcJoin j on ++ (pcWh wh ++ pcOrd d od))).map Prod.snd = _
    simp [wSt, wJo, wWh, wOr]
  rw [e]
  have hdw : Hd (some joF) (wWh wh) (some whF) := hd_wh (mem_of rfl) (sub_of rfl) hw
  exact (Fr.then (Fr.then (Fr.then (Fr.then (Fr.then (Fr.then (fr_want (w := kw ⟨#[115, 101, 108, 101, 99, 116]⟩) (.inl rfl) (sm 6)) (fr_fill (rds_star hi) up_it _) trivial) (fr_want (w := kw ⟨#[102, 114, 111, 109]⟩) (.inl rfl) _) ⟨.inl rfl, mem_of rfl⟩) (fr_fill (rds_name tb) up_tb _) trivial) (fr_fill (rds_join hj) up_jo _) trivial) (fr_fill (rds_where hw) up_wh _) hdw) (fr_fill (rds_order ho) up_oo _) (hd_or (mem_of rfl) (sub_of rfl) ho)).rds
theorem rds_disp {D : Prop} {α : Type} {w : Wd} (hw : w.1 = 2 ∨ w.1 = 5) {t : α} {P Q : List Tk → Re α} {ws : List Wd} {S : Fo} (h : Rds D P ws t S) : Rds D (dispP w.2.1 P Q) (w :: ws) t S := by
  intro ts R hm hR
  obtain ⟨a, l', rfl, h1, h2⟩ := List.map_eq_cons_iff.1 hm
  subst h1
  have hi : isTk (wdOf a).2.1 (a :: (l' ++ R)) = true := isTk_iff.2 ⟨hw, rfl⟩
  rw [List.cons_append, dispP, if_pos hi]
  exact h l' R h2 hR
theorem rds_disp_no {D : Prop} {α : Type} {w : Wd} {s : ByteArray} (hw : w.2.1 ≠ s) {t : α} {P Q : List Tk → Re α} {ws : List Wd} {S : Fo} (h : Rds D Q (w :: ws) t S) : Rds D (dispP s P Q) (w :: ws) t S := by
  intro ts R hm hR
  have hh := h ts R hm hR
  obtain ⟨a, l', rfl, h1, h2⟩ := List.map_eq_cons_iff.1 hm
  subst h1
  have hi : ¬ isTk s (a :: (l' ++ R)) = true := fun k => hw (isTk_iff.1 k).2
  rw [List.cons_append] at hh ⊢
  rw [dispP, if_neg hi]
  exact hh
theorem rds_is {D : Prop} {α : Type} {w : Wd} (hw : w.1 = 2 ∨ w.1 = 5) {t : α} {P Q : List Tk → Re α} {ws : List Wd} {S : Fo} (h : Rds D P (w :: ws) t S) : Rds D (isP w.2.1 P Q) (w :: ws) t S := by
  intro ts R hm hR
  have hh := h ts R hm hR
  obtain ⟨a, l', rfl, h1, h2⟩ := List.map_eq_cons_iff.1 hm
  subst h1
  have hi : isTk (wdOf a).2.1 (a :: (l' ++ R)) = true := isTk_iff.2 ⟨hw, rfl⟩
  rw [List.cons_append] at hh ⊢
  rw [isP, if_pos hi]
  exact hh
theorem rds_is_no {D : Prop} {α : Type} {w : Wd} {s : ByteArray} (hw : w.2.1 ≠ s) {t : α} {P Q : List Tk → Re α} {ws : List Wd} {S : Fo} (h : Rds D Q (w :: ws) t S) : Rds D (isP s P Q) (w :: ws) t S := by
  intro ts R hm hR
  have hh := h ts R hm hR
  obtain ⟨a, l', rfl, h1, h2⟩ := List.map_eq_cons_iff.1 hm
  subst h1
  have hi : ¬ isTk s (a :: (l' ++ R)) = true := fun k => hw (isTk_iff.1 k).2
  rw [List.cons_append] at hh ⊢
  rw [isP, if_neg hi]
  exact hh
theorem rds_plain {D : Prop} {P : List Tk → Re Sm} {ws : List Wd} {m : Sm} {S : Fo} (h : Rds D P ws m S) : Rds D (plain P) ws (m, []) S := h.map fun m => (m, [])
/-- The three that write. -/
theorem rds_change {D : Prop} {m : Sm} (h : SmOK D m) (h6 : m.kind ≠ 6) : Rds D changeP (wS m) m (some fiF) := by
  rcases h with ⟨tb, vs, h0, h, rfl⟩ | ⟨its, tb, j, on, wh, od, d, hi, hj, hw, ho, rfl⟩ | ⟨tb, n, t, wh, ht, h, rfl⟩ | ⟨tb, wh, h, rfl⟩
  · exact (rds_disp (w := kw ⟨#[105, 110, 115, 101, 114, 116]⟩) (.inl rfl) (rds_insert h0 h)).mono trivial
  · exact (h6 rfl).elim
  · exact (rds_disp_no (w := kw ⟨#[117, 112, 100, 97, 116, 101]⟩) (by decide) (rds_disp (w := kw ⟨#[117, 112, 100, 97, 116, 101]⟩) (.inl rfl) (rds_update ht h))).mono ⟨_, rfl, sub_of rfl⟩
  · exact (rds_disp_no (w := kw ⟨#[100, 101, 108, 101, 116, 101]⟩) (by decide) (rds_disp_no (w := kw ⟨#[100, 101, 108, 101, 116, 101]⟩) (by decide) (rds_disp (w := kw ⟨#[100, 101, 108, 101, 116, 101]⟩) (.inl rfl) (rds_delete h)))).mono ⟨_, rfl, sub_of rfl⟩
theorem rds_select {D : Prop} {m : Sm} (h : SmOK D m) (h6 : m.kind = 6) : Rds D queryP (wS m) m (some fiF) := by
  rcases h with ⟨tb, vs, h0, h, rfl⟩ | ⟨its, tb, j, on, wh, od, d, hi, hj, hw, ho, rfl⟩ | ⟨tb, n, t, wh, ht, h, rfl⟩ | ⟨tb, wh, h, rfl⟩
  · exact absurd (show (5 : Int) = 6 from h6) (by decide)
  · exact rds_query hi hj hw ho
  · exact absurd (show (7 : Int) = 6 from h6) (by decide)
  · exact absurd (show (8 : Int) = 6 from h6) (by decide)
theorem tag_words (k : Nat) (l : List Int) : (jp pcTag k l).map Prod.snd = jw (fun z => [(3, ⟨#[]⟩, z)]) l := jp_words (g := pcTag) (h := fun z => [(3, ⟨#[]⟩, z)]) (fun k y => rfl) k l
theorem rds_taglist {D : Prop} {l : List Int} (h0 : l ≠ []) (h : ∀ z ∈ l, TaOK z) {S : List ByteArray} (hS : ⟨#[44]⟩ ∉ S) : Rds D (listP tagP) (jw (fun z => [(3, ⟨#[]⟩, z)]) l) l (some S) :=
  rds_list (S := none) trivial trivial hS h0 fun z hz => rds_tag (h z hz).1 (h z hz).2
theorem rds_tags {D : Prop} {l : List Int} (h : ∀ z ∈ l, TaOK z) : Rds D tagsP (jw (fun z => [(3, ⟨#[]⟩, z)]) l) l (some [⟨#[97, 115]⟩]) := by
  intro ts R hm hR
  by_cases h0 : l = []
  · subst h0
    obtain rfl := List.map_eq_nil_iff.1 hm
    have hk : ¬ kdOf R = 3 := by
      rcases hR with h | ⟨s, _, h⟩
      · rw [h]; decide
      · cases R with
        | nil => decide
        | cons a R =>
          intro e
          have e' : a.1 = 3 := e
          have := (isTk_iff.1 h).1
          omega
    rw [List.nil_append, tagsP, if_neg hk]
    exact .inl rfl
  · have hk : kdOf (ts ++ R) = 3 := by
      obtain ⟨z, l, rfl⟩ := List.exists_cons_of_ne_nil h0
      obtain ⟨a, l1, rfl, h1, h2⟩ := List.map_eq_cons_iff.1 (show ts.map wdOf = (3, ⟨#[]⟩, z) :: _ from hm)
      rw [tk_eta h1]; rfl
    rw [tagsP, if_pos hk]
    exact rds_taglist h0 h (nmem_of rfl) ts R hm hR
theorem rds_door {D : Prop} {k : Int} {n : ByteArray} {tg : List Int} {x : Sm} {P : List Tk → Re Sm} (ht : ∀ z ∈ tg, TaOK z) (hP : Rds D P (wS x) x (some fiF)) : Rds D (doorP k P) ((pcDoor (up_ta (up_nm (sm k) n) tg) [x]).map Prod.snd) (up_ta (up_nm (sm k) n) tg, [x]) (some fiF) := by
  have e : (pcDoor (up_ta (up_nm (sm k) n) tg) [x]).map Prod.snd = ((([nm n] ++ [kw ⟨#[115, 116, 114, 105, 112]⟩]) ++ jw (fun z => [(3, ⟨#[]⟩, z)]) tg) ++ [kw ⟨#[97, 115]⟩]) ++ wS x := by
    rw [pcDoor]
    show nm n :: kw ⟨#[115, 116, 114, 105, 112]⟩ :: (jp pcTag 1 tg ++ (1, kw ⟨#[97, 115]⟩) :: pcS 1 x).map Prod.snd = _
    rw [List.map_append, List.map_cons, tag_words, s_words]
    simp
  rw [e]
  intro ts R hm hR
  obtain ⟨t1, t2, rfl, h1, h2⟩ := List.map_eq_append_iff.1 hm
  have hF := (Fr.then (D := D) (Fr.then (Fr.then (fr_fill (rds_name n) up_nm (sm k)) (fr_want (w := kw ⟨#[115, 116, 114, 105, 112]⟩) (.inl rfl) _) trivial) (fr_fill (rds_tags ht) up_ta _) trivial) (fr_want (w := kw ⟨#[97, 115]⟩) (.inl rfl) _) ⟨.inl rfl, mem_of rfl⟩).2 t1 (t2 ++ R) h1 trivial
  rw [List.append_assoc]
  rw [doorP, doorR]
  have hs : startR k (.inr (t1 ++ (t2 ++ R))) = .inr (sm k, t1 ++ (t2 ++ R)) := rfl
  rw [hs]
  have hF' : Got D (wantR ⟨#[97, 115]⟩ (fillR tagsP up_ta (wantR ⟨#[115, 116, 114, 105, 112]⟩ (fillR nameP up_nm (.inr (sm k, t1 ++ (t2 ++ R))))))) (up_ta (up_nm (sm k) n) tg, t2 ++ R) := hF
  exact hF'.then ((hP t2 R h2 hR).map fun y => (up_ta (up_nm (sm k) n) tg, [y]))
/-- Statements as Parse makes them. -/
def SfOK (D : Prop) (m : Sf) : Prop :=
  (∃ x, SmOK D x ∧ m = (x, [])) ∨
  (∃ n cs, cs ≠ [] ∧ (∀ c ∈ cs, CoOK c) ∧ m = (up_co (up_nm (sm 1) n) cs, [])) ∨
  (∃ tb n, m = (up_nm (up_tb (sm 2) tb) n, [])) ∨
  (∃ n tg x, (∀ z ∈ tg, TaOK z) ∧ SmOK D x ∧ x.kind = 6 ∧ m = (up_ta (up_nm (sm 3) n) tg, [x])) ∨
  (∃ n tg x, (∀ z ∈ tg, TaOK z) ∧ SmOK D x ∧ x.kind ≠ 6 ∧ m = (up_ta (up_nm (sm 4) n) tg, [x])) ∨
  (∃ k : Int, (k = 9 ∨ k = 10 ∨ k = 11) ∧ m = (sm k, [])) ∨
  (∃ tg, tg ≠ [] ∧ (∀ z ∈ tg, TaOK z) ∧ m = (up_ta (sm 12) tg, [])) ∨
  (∃ n, m = (up_nm (sm 13) n, []))
theorem rds_table {D : Prop} {n : ByteArray} {cs : List Co} (h0 : cs ≠ []) (h : ∀ c ∈ cs, CoOK c) : Rds D tableP ((pcTable (up_co (up_nm (sm 1) n) cs)).map Prod.snd) (up_co (up_nm (sm 1) n) cs) none := by
  have e : (pcTable (up_co (up_nm (sm 1) n) cs)).map Prod.snd = [nm n] ++ (sg ⟨#[40]⟩ :: (jw wCo cs ++ [sg ⟨#[41]⟩])) := by
    show nm n :: sg ⟨#[40]⟩ :: (jp pcCol 0 cs ++ [((0, sg ⟨#[41]⟩) : Pc)]).map Prod.snd = _
    rw [List.map_append, jp_words col_words]
    rfl
  rw [e]
  exact (Fr.then (fr_fill (rds_name n) up_nm (sm 1)) (fr_fill (rds_br (S := some [⟨#[44]⟩, ⟨#[41]⟩]) ⟨.inr rfl, mem_of rfl⟩ ⟨_, rfl, sub_of rfl⟩ h0 (fun c hc => rds_coldef (h c hc))) up_co _) trivial).rds
theorem rds_index {D : Prop} (tb n : ByteArray) : Rds D indexP ((pcIndex (up_nm (up_tb (sm 2) tb) n)).map Prod.snd) (up_nm (up_tb (sm 2) tb) n) none := by
  have e : (pcIndex (up_nm (up_tb (sm 2) tb) n)).map Prod.snd = ((([kw ⟨#[111, 110]⟩] ++ [nm tb]) ++ [sg ⟨#[40]⟩]) ++ [nm n]) ++ [sg ⟨#[41]⟩] := rfl
  rw [e]
  exact (Fr.then (Fr.then (Fr.then (Fr.then (fr_want (w := kw ⟨#[111, 110]⟩) (.inl rfl) (sm 2)) (fr_fill (rds_name tb) up_tb _) trivial) (fr_want (w := sg ⟨#[40]⟩) (.inr rfl) _) trivial) (fr_fill (rds_name n) up_nm _) trivial) (fr_want (w := sg ⟨#[41]⟩) (.inr rfl) _) trivial).rds
def wF (m : Sf) : List Wd := (pcF m).map Prod.snd
theorem rds_only {D : Prop} (k : Int) : Rds D (onlyP k) [] (sm k, []) none := by
  intro ts R hm _
  obtain rfl := List.map_eq_nil_iff.1 hm
  exact .inl rfl
/-- Every statement is read as it was. -/
theorem rds_stmt {D : Prop} {m : Sf} (h : SfOK D m) : Rds D stmtP (wF m) m (some fiF) := by
  rcases h with ⟨m, h, rfl⟩ | ⟨n, cs, h0, h, rfl⟩ | ⟨tb, n, rfl⟩ | ⟨n, tg, x, ht, hx, h6, rfl⟩ | ⟨n, tg, x, ht, hx, h6, rfl⟩ | ⟨k, h, rfl⟩ | ⟨tg, h0, h, rfl⟩ | ⟨n, rfl⟩
  · by_cases h6 : m.kind = 6
    · have hq := rds_select h h6
      rcases h with ⟨tb, vs, h0, h, rfl⟩ | ⟨its, tb, j, on, wh, od, d, hi, hj, hw, ho, rfl⟩ | ⟨tb, n, t, wh, ht, h, rfl⟩ | ⟨tb, wh, h, rfl⟩
      · exact absurd (show (5 : Int) = 6 from h6) (by decide)
      · exact rds_disp_no (w := kw ⟨#[115, 101, 108, 101, 99, 116]⟩) (by decide) (rds_is (w := kw ⟨#[115, 101, 108, 101, 99, 116]⟩) (.inl rfl) (rds_plain hq))
      · exact absurd (show (7 : Int) = 6 from h6) (by decide)
      · exact absurd (show (8 : Int) = 6 from h6) (by decide)
    · have hq := rds_plain (rds_change h h6)
      rcases h with ⟨tb, vs, h0, h, rfl⟩ | ⟨its, tb, j, on, wh, od, d, hi, hj, hw, ho, rfl⟩ | ⟨tb, n, t, wh, ht, h, rfl⟩ | ⟨tb, wh, h, rfl⟩
      · exact rds_disp_no (w := kw ⟨#[105, 110, 115, 101, 114, 116]⟩) (by decide) (rds_is_no (w := kw ⟨#[105, 110, 115, 101, 114, 116]⟩) (by decide) (rds_disp_no (w := kw ⟨#[105, 110, 115, 101, 114, 116]⟩) (by decide) (rds_disp_no (w := kw ⟨#[105, 110, 115, 101, 114, 116]⟩) (by decide) (rds_disp_no (w := kw ⟨#[105, 110, 115, 101, 114, 116]⟩) (by decide) (rds_disp_no (w := kw ⟨#[105, 110, 115, 101, 114, 116]⟩) (by decide) (rds_disp_no (w := kw ⟨#[105, 110, 115, 101, 114, 116]⟩) (by decide) hq))))))
      · exact (h6 rfl).elim
      · exact rds_disp_no (w := kw ⟨#[117, 112, 100, 97, 116, 101]⟩) (by decide) (rds_is_no (w := kw ⟨#[117, 112, 100, 97, 116, 101]⟩) (by decide) (rds_disp_no (w := kw ⟨#[117, 112, 100, 97, 116, 101]⟩) (by decide) (rds_disp_no (w := kw ⟨#[117, 112, 100, 97, 116, 101]⟩) (by decide) (rds_disp_no (w := kw ⟨#[117, 112, 100, 97, 116, 101]⟩) (by decide) (rds_disp_no (w := kw ⟨#[117, 112, 100, 97, 116, 101]⟩) (by decide) (rds_disp_no (w := kw ⟨#[117, 112, 100, 97, 116, 101]⟩) (by decide) hq))))))
      · exact rds_disp_no (w := kw ⟨#[100, 101, 108, 101, 116, 101]⟩) (by decide) (rds_is_no (w := kw ⟨#[100, 101, 108, 101, 116, 101]⟩) (by decide) (rds_disp_no (w := kw ⟨#[100, 101, 108, 101, 116, 101]⟩) (by decide) (rds_disp_no (w := kw ⟨#[100, 101, 108, 101, 116, 101]⟩) (by decide) (rds_disp_no (w := kw ⟨#[100, 101, 108, 101, 116, 101]⟩) (by decide) (rds_disp_no (w := kw ⟨#[100, 101, 108, 101, 116, 101]⟩) (by decide) (rds_disp_no (w := kw ⟨#[100, 101, 108, 101, 116, 101]⟩) (by decide) hq))))))
  · exact (rds_disp (w := kw ⟨#[99, 114, 101, 97, 116, 101]⟩) (.inl rfl) (rds_disp (w := kw ⟨#[116, 97, 98, 108, 101]⟩) (.inl rfl) (rds_plain (rds_table h0 h)))).mono trivial
  · exact (rds_disp (w := kw ⟨#[99, 114, 101, 97, 116, 101]⟩) (.inl rfl) (rds_disp_no (w := kw ⟨#[105, 110, 100, 101, 120]⟩) (by decide) (rds_disp (w := kw ⟨#[105, 110, 100, 101, 120]⟩) (.inl rfl) (rds_plain (rds_index tb n))))).mono trivial
  · exact rds_disp (w := kw ⟨#[99, 114, 101, 97, 116, 101]⟩) (.inl rfl) (rds_disp_no (w := kw ⟨#[118, 105, 101, 119]⟩) (by decide) (rds_disp_no (w := kw ⟨#[118, 105, 101, 119]⟩) (by decide) (rds_disp (w := kw ⟨#[118, 105, 101, 119]⟩) (.inl rfl) (rds_door ht (rds_select hx h6)))))
  · exact rds_disp (w := kw ⟨#[99, 114, 101, 97, 116, 101]⟩) (.inl rfl) (rds_disp_no (w := kw ⟨#[99, 108, 111, 115, 117, 114, 101]⟩) (by decide) (rds_disp_no (w := kw ⟨#[99, 108, 111, 115, 117, 114, 101]⟩) (by decide) (rds_disp_no (w := kw ⟨#[99, 108, 111, 115, 117, 114, 101]⟩) (by decide) (rds_disp (w := kw ⟨#[99, 108, 111, 115, 117, 114, 101]⟩) (.inl rfl) (rds_door ht (rds_change hx h6))))))
  · rcases h with rfl | rfl | rfl
    · exact (rds_disp_no (w := kw ⟨#[98, 101, 103, 105, 110]⟩) (by decide) (rds_is_no (w := kw ⟨#[98, 101, 103, 105, 110]⟩) (by decide) (rds_disp (w := kw ⟨#[98, 101, 103, 105, 110]⟩) (.inl rfl) (rds_only 9)))).mono trivial
    · exact (rds_disp_no (w := kw ⟨#[99, 111, 109, 109, 105, 116]⟩) (by decide) (rds_is_no (w := kw ⟨#[99, 111, 109, 109, 105, 116]⟩) (by decide) (rds_disp_no (w := kw ⟨#[99, 111, 109, 109, 105, 116]⟩) (by decide) (rds_disp (w := kw ⟨#[99, 111, 109, 109, 105, 116]⟩) (.inl rfl) (rds_only 10))))).mono trivial
    · exact (rds_disp_no (w := kw ⟨#[114, 111, 108, 108, 98, 97, 99, 107]⟩) (by decide) (rds_is_no (w := kw ⟨#[114, 111, 108, 108, 98, 97, 99, 107]⟩) (by decide) (rds_disp_no (w := kw ⟨#[114, 111, 108, 108, 98, 97, 99, 107]⟩) (by decide) (rds_disp_no (w := kw ⟨#[114, 111, 108, 108, 98, 97, 99, 107]⟩) (by decide) (rds_disp (w := kw ⟨#[114, 111, 108, 108, 98, 97, 99, 107]⟩) (.inl rfl) (rds_only 11)))))).mono trivial
  · have e : wF (up_ta (sm 12) tg, []) = kw ⟨#[114, 97, 105, 115, 101]⟩ :: jw (fun z => [(3, ⟨#[]⟩, z)]) tg := by
      show kw ⟨#[114, 97, 105, 115, 101]⟩ :: (jp pcTag 1 tg).map Prod.snd = _
      rw [tag_words]
    rw [e]
    exact rds_disp_no (w := kw ⟨#[114, 97, 105, 115, 101]⟩) (by decide) (rds_is_no (w := kw ⟨#[114, 97, 105, 115, 101]⟩) (by decide) (rds_disp_no (w := kw ⟨#[114, 97, 105, 115, 101]⟩) (by decide) (rds_disp_no (w := kw ⟨#[114, 97, 105, 115, 101]⟩) (by decide) (rds_disp_no (w := kw ⟨#[114, 97, 105, 115, 101]⟩) (by decide) (rds_disp (w := kw ⟨#[114, 97, 105, 115, 101]⟩) (.inl rfl) ((rds_taglist h0 h (nmem_of rfl)).map fun l => (up_ta (sm 12) l, [])))))))
  · exact (rds_disp_no (w := kw ⟨#[99, 97, 108, 108]⟩) (by decide) (rds_is_no (w := kw ⟨#[99, 97, 108, 108]⟩) (by decide) (rds_disp_no (w := kw ⟨#[99, 97, 108, 108]⟩) (by decide) (rds_disp_no (w := kw ⟨#[99, 97, 108, 108]⟩) (by decide) (rds_disp_no (w := kw ⟨#[99, 97, 108, 108]⟩) (by decide) (rds_disp_no (w := kw ⟨#[99, 97, 108, 108]⟩) (by decide) (rds_disp (w := kw ⟨#[99, 97, 108, 108]⟩) (.inl rfl) ((rds_name n).map fun x => (up_nm (sm 13) x, []))))))))).mono trivial
theorem Got.parse {D : Prop} {ts : List Tk} {m : Sf} {R : List Tk} (h : Got D (stmtP ts) (m, R)) (hk : kdOf R = 6) : Got D (parseW ts) (m, R) := by
  rw [parseW]
  refine h.then (.inl ?_)
  show (if kdOf R = 6 then _ else _) = _
  rw [if_pos hk]
/-- A text of a statement's pieces, with any spaces ahead of the words, is that statement, or too deep. -/
theorem parse_got {D : Prop} {m : Sf} (h : SfOK D m) {l : List Pc} (hl : l.map Prod.snd = wF m) (z : Int) : Got D (parseW (tks 0 l ++ [(6, ⟨#[]⟩, 0, z)])) (m, [(6, ⟨#[]⟩, 0, z)]) :=
  (rds_stmt h (tks 0 l) [(6, ⟨#[]⟩, 0, z)] ((tks_words l 0).trans hl) (.inl rfl)).parse rfl
end Go.Proofs.YtnboooaockgoiaaGreatDoor
namespace Go.Proofs.YtnboooaockgoiaaGreatDoor
open Go.RowKit
set_option linter.unusedVariables false

theorem bs_app (a b : ByteArray) : bs (a ++ b) = bs a ++ bs b := by
  simp [bs]
theorem bs_ext {a b : ByteArray} (h : bs a = bs b) : a = b := by
  apply ByteArray.ext
  exact Array.toList_inj.1 h
theorem ren_cons (p : Pc) (l : List Pc) : ren (p :: l) = List.replicate p.1 32 ++ (wdB p.2 ++ ren l) := rfl
theorem ren_nil : ren [] = [] := rfl
theorem wdB_kw (s : ByteArray) : wdB (kw s) = bs s := rfl
theorem wdB_sg (s : ByteArray) : wdB (sg s) = bs s := rfl
theorem wdB_nm (s : ByteArray) : wdB (nm s) = bs s := rfl
theorem ren_e (t : Tr) (h : t ≠ .nil) (sp : Nat) : ren (pcE sp t) = List.replicate sp 32 ++ ren (pcE 0 t) := by
  cases t with
  | nil => exact absurd rfl h
  | node x op p l r =>
    rw [pcE, pcE]
    split
    · simp [ren_cons]
    · split
      · split <;> simp [ren_cons]
      · split
        · simp [ren_cons]
        · split
          · simp [ren_cons]
          · simp [ren_cons]
theorem Cn.ne {d : Nat} {t : Tr} (h : Cn d t) : t ≠ .nil := by rintro rfl; exact h
theorem ok_num {z : Int} (h : WdOK (3, ⟨#[]⟩, z)) : 0 ≤ z ∧ Fits z := by
  rcases h with ⟨c, n, h1, h2, h3, e⟩ | ⟨z', hf, e⟩ | ⟨q, h1, h2, e⟩ | ⟨c, h1, e⟩ | ⟨c, n, hk, e⟩
  · have := congrArg Prod.fst e
    revert this
    cases isW ⟨(c :: n).toArray⟩ <;> simp
  · cases e; exact ⟨Int.natCast_nonneg _, hf⟩
  · cases e
  · cases e
  · cases e
theorem itoa_nn {z : Int} (h : 0 ≤ z) : Lib.itoa z = Lib.decDigits z.toNat := by rw [Lib.itoa, if_neg (by omega)]
theorem va_int {n : Int} (h : 0 ≤ n) : bs (vaB (1, n, ⟨#[]⟩, ⟨#[]⟩, ⟨#[]⟩)) = Lib.decDigits n.toNat := by
  rw [vaB, if_pos rfl, bs_mk, itoa_nn h]
theorem va_text (s : ByteArray) : bs (vaB (2, 0, s, ⟨#[]⟩, ⟨#[]⟩)) = 39 :: (dblQ (bs s) ++ [39]) := by
  rw [vaB, if_neg (show ¬ (2 : Int) = 1 by decide), quB, bs_mk]; rfl
theorem co_ren (t n : ByteArray) : bs (coB t n) = ren (pcE 0 (tCol t n)) := by
  show _ = ren (if t = ⟨#[]⟩ then [(0, (1, n, 0))] else [(0, (1, t, 0)), (0, (5, ⟨#[46]⟩, 0)), (0, (1, n, 0))])
  rw [coB]
  split
  · rename_i h
    simp [ren_cons, ren_nil, wdB]
  · rw [bs_app, bs_app]
    simp [ren_cons, ren_nil, wdB]
theorem sh_ren {d : Nat} {t : Tr} (h : Cn d t) : (∀ w ∈ wdE t, WdOK w) → bs (shE t) = ren (pcE 0 t) := by
  refine Cn.ind (M := fun d t => (∀ w ∈ wdE t, WdOK w) → bs (shE t) = ren (pcE 0 t)) ?_ ?_ ?_ ?_ ?_ ?_ t d h
  · intro d n hw
    have h0 := (ok_num (hw (3, ⟨#[]⟩, n) (List.mem_singleton.2 rfl))).1
    have e : shE (tInt n) = vaB (1, n, ⟨#[]⟩, ⟨#[]⟩, ⟨#[]⟩) := by
      show (if (1 : Nat) = 1 then (if (1 : Int) = 1 ∧ n < 0 then ⟨#[]⟩ else vaB (1, n, ⟨#[]⟩, ⟨#[]⟩, ⟨#[]⟩)) else _) = _
      rw [if_pos rfl, if_neg (fun k => by omega)]
    rw [e, va_int h0]
    show _ = ren [(0, (3, ⟨#[]⟩, n))]
    simp [ren_cons, ren_nil, wdB]
  · intro d s hw
    have e : shE (tText s) = vaB (2, 0, s, ⟨#[]⟩, ⟨#[]⟩) := by
      show (if (1 : Nat) = 1 then (if (2 : Int) = 1 ∧ (0 : Int) < 0 then ⟨#[]⟩ else vaB (2, 0, s, ⟨#[]⟩, ⟨#[]⟩)) else _) = _
      rw [if_pos rfl, if_neg (fun k => by omega)]
    rw [e, va_text]
    show _ = ren [(0, (4, s, 0))]
    simp [ren_cons, ren_nil, wdB]
  · intro d t n hw; exact co_ren t n
  · intro d l h ih hw
    have hl := ih (fun w m => hw w (by show w ∈ (5, ⟨#[40]⟩, 0) :: (5, ⟨#[45]⟩, 0) :: (wdE l ++ [(5, ⟨#[41]⟩, 0)]); simp [m]))
    show bs ((⟨#[40, 45]⟩ ++ shE l) ++ ⟨#[41]⟩) = ren ((0, (5, ⟨#[40]⟩, 0)) :: (0, (5, ⟨#[45]⟩, 0)) :: (pcE 0 l ++ [(0, (5, ⟨#[41]⟩, 0))]))
    rw [bs_app, bs_app, hl]
    simp [ren_cons, ren_nil, ren_app, wdB, bs]
  · intro d l h ih hw
    have hl := ih (fun w m => hw w (by show w ∈ (5, ⟨#[40]⟩, 0) :: (2, ⟨#[110, 111, 116]⟩, 0) :: (wdE l ++ [(5, ⟨#[41]⟩, 0)]); simp [m]))
    show bs ((⟨#[40, 110, 111, 116, 32]⟩ ++ shE l) ++ ⟨#[41]⟩) = ren ((0, (5, ⟨#[40]⟩, 0)) :: (0, (2, ⟨#[110, 111, 116]⟩, 0)) :: (pcE 1 l ++ [(0, (5, ⟨#[41]⟩, 0))]))
    rw [bs_app, bs_app, hl]
    simp [ren_cons, ren_nil, ren_app, wdB, bs, ren_e l h.ne 1]
  · intro d l r j hj h h' ih ih' hw
    have e : wdE (tTwo (j + 5) l r) = (5, ⟨#[40]⟩, 0) :: (wdE l ++ opW j :: (wdE r ++ [(5, ⟨#[41]⟩, 0)])) := by
      show (if j + 5 = 1 then _ else _) = _
      rw [if_neg (by omega), if_neg (by omega), if_neg (by omega), if_neg (by omega), Nat.add_sub_cancel]
    rw [e] at hw
    have hl := ih (fun w m => hw w (by simp [m]))
    have hr := ih' (fun w m => hw w (by simp [m]))
    have e1 : shE (tTwo (j + 5) l r) = (((((⟨#[40]⟩ ++ shE l) ++ ⟨#[32]⟩) ++ opT j) ++ ⟨#[32]⟩) ++ shE r) ++ ⟨#[41]⟩ := by
      show (if j + 5 = 1 then _ else _) = _
      rw [if_neg (by omega), if_neg (by omega), if_neg (by omega), if_neg (by omega), Nat.add_sub_cancel]
    have e2 : pcE 0 (tTwo (j + 5) l r) = (0, (5, ⟨#[40]⟩, 0)) :: (pcE 0 l ++ (1, opW j) :: (pcE 1 r ++ [(0, (5, ⟨#[41]⟩, 0))])) := by
      show (if j + 5 = 1 then _ else _) = _
      rw [if_neg (by omega), if_neg (by omega), if_neg (by omega), if_neg (by omega), Nat.add_sub_cancel]
    have e3 : wdB (opW j) = bs (opT j) := by
      have : (opW j).1 ≠ 3 ∧ (opW j).1 ≠ 4 := by rw [opW]; split <;> exact ⟨by simp, by simp⟩
      rw [wdB, if_neg this.1, if_neg this.2]; rfl
    rw [e1, e2]
    simp only [bs_app, hl, hr, ren_cons, ren_nil, ren_app, e3, ren_e r h'.ne 1]
    simp [wdB, bs]
end Go.Proofs.YtnboooaockgoiaaGreatDoor
namespace Go.Proofs.YtnboooaockgoiaaGreatDoor
open Go.RowKit
set_option linter.unusedVariables false
set_option linter.unusedSimpArgs false

end Go.Proofs.YtnboooaockgoiaaGreatDoor
namespace Go.Proofs.YtnboooaockgoiaaGreatDoor
open Go.RowKit
set_option linter.unusedVariables false
set_option linter.unusedSimpArgs false

end Go.Proofs.YtnboooaockgoiaaGreatDoor
namespace Go.Proofs.YtnboooaockgoiaaGreatDoor
open Go.RowKit
set_option linter.unusedVariables false
set_option linter.unusedSimpArgs false

def itL (x : It) : List UInt8 := if x.1 = 0 then bs (coB x.2.1 x.2.2) else if x.1 = 1 then bs ⟨#[99, 111, 117, 110, 116, 40, 42, 41]⟩ else bs (aggW x.1) ++ (40 :: (bs (coB x.2.1 x.2.2) ++ [41]))
theorem item_ren (k : Nat) (x : It) : ren (pcItem k x) = List.replicate k 32 ++ itL x := by
  rw [pcItem, itL]
  split
  · rw [ren_e _ (by intro e; cases e) k, co_ren]
  · split
    · simp only [ren_cons, ren_nil, wdB_kw, wdB_sg]; simp [bs]
    · simp only [ren_cons, ren_app, ren_nil, wdB_kw, wdB_sg, co_ren]; simp [bs]
end Go.Proofs.YtnboooaockgoiaaGreatDoor
namespace Go.Proofs.YtnboooaockgoiaaGreatDoor
open Go.RowKit
set_option linter.unusedVariables false
set_option linter.unusedSimpArgs false

end Go.Proofs.YtnboooaockgoiaaGreatDoor
namespace Go.Proofs.YtnboooaockgoiaaGreatDoor
open Go.ChangeShapes Go.WideShapes Go.ChangeAt Go.RowKit
set_option linter.unusedVariables false

theorem own : ownKnob Tryz.prog.godebug = none := by kernel_rfl
end Go.Proofs.YtnboooaockgoiaaGreatDoor
