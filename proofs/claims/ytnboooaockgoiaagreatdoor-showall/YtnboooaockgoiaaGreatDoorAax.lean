import Derived.Test.YtnboooaockgoiaaGreatDoorAag
import Derived.Test.YtnboooaockgoiaaGreatDoorAah
import Derived.Test.YtnboooaockgoiaaGreatDoorAam
import Derived.Test.YtnboooaockgoiaaGreatDoorAan
import Derived.Test.YtnboooaockgoiaaGreatDoorAac
namespace Go.Proofs.YtnboooaockgoiaaGreatDoor
open Go.RowKit
set_option linter.unusedVariables false

/-- A word of letters and digits, short. -/
def chkL (s : ByteArray) : Bool := match bs s with | [] => false | c :: n => isL c && n.all isN && decide (n.length < 16)
theorem chkL_of {s : ByteArray} (h : chkL s = true) : ∃ c n, s = ⟨(c :: n).toArray⟩ ∧ isL c = true ∧ n.all isN = true ∧ n.length < 16 := by
  unfold chkL at h
  split at h
  · cases h
  · rename_i c n e
    rw [Bool.and_eq_true, Bool.and_eq_true, decide_eq_true_eq] at h
    exact ⟨c, n, bs_ext (by rw [e, bs_mk]), h.1.1, h.1.2, h.2⟩
theorem ok_kw {s : ByteArray} (h : chkL s = true) (hw : isW s = true) : WdOK (kw s) := by
  obtain ⟨c, n, rfl, h1, h2, h3⟩ := chkL_of h
  have := WdOK.name c n h1 h2 h3
  rwa [hw] at this
theorem ok_nm {s : ByteArray} (h : chkL s = true) (hw : isW s = false) : WdOK (nm s) := by
  obtain ⟨c, n, rfl, h1, h2, h3⟩ := chkL_of h
  have := WdOK.name c n h1 h2 h3
  rwa [hw] at this
/-- Names of columns and tables that are names, and short. -/
def NmC (C : Cl2) : Prop := ∀ x ∈ C, (WdOK (nm x.1.2.1) ∧ x.1.2.1.size ≤ 2) ∧ WdOK (nm x.1.2.2) ∧ x.1.2.2.size ≤ 2
theorem nmC_T : NmC (colsOf tabT) := by
  intro x hx
  simp only [colsOf, tabT, List.map_cons, List.map_nil, List.mem_cons, List.not_mem_nil, or_false] at hx
  rcases hx with rfl | rfl | rfl
  all_goals exact ⟨⟨ok_nm (by decide +kernel) (by decide +kernel), by decide⟩, ok_nm (by decide +kernel) (by decide +kernel), by decide⟩
theorem nmC_U : NmC (colsOf tabU) := by
  intro x hx
  simp only [colsOf, tabU, List.map_cons, List.map_nil, List.mem_cons, List.not_mem_nil, or_false] at hx
  rcases hx with rfl | rfl | rfl
  all_goals exact ⟨⟨ok_nm (by decide +kernel) (by decide +kernel), by decide⟩, ok_nm (by decide +kernel) (by decide +kernel), by decide⟩
theorem NmC.app {C D : Cl2} (h : NmC C) (k : NmC D) : NmC (C ++ D) := fun x hx => (List.mem_append.1 hx).elim (h x) (k x)
/-- What is a leaf. -/
theorem leaf_or {C : Cl2} {kind : Int} {t : Tr} (h : LeafOK C kind t) : (∃ tb n, t = tCol tb n ∧ ColOK C kind tb n) ∨ (∃ s, t = tText s ∧ s ∈ [⟨#[97]⟩, ⟨#[98]⟩, ⟨#[]⟩, ⟨#[105, 116, 39, 115]⟩, ⟨#[122, 122]⟩]) ∨ (∃ i : Int, t = tInt i ∧ ((0 ≤ i ∧ i < 11) ∨ i = 9223372036854775807)) := by
  rcases h with h | ⟨i, s, rfl, ⟨rfl, rfl, h⟩ | ⟨rfl, rfl, h⟩⟩
  · exact .inl h
  · exact .inr (.inl ⟨s, rfl, h⟩)
  · exact .inr (.inr ⟨i, rfl, h⟩)
/-- One law for all that holds of every expression of the play. -/
theorem pl_ind {C : Cl2} {M : Nat → Tr → Prop} (leaf : ∀ n kind t, LeafOK C kind t → M n t) (one : ∀ n o l, (o = 3 ∨ o = 4) → M n l → M (n + 1) (tOne o l)) (two : ∀ n j l r, j < 11 → M n l → M n r → M (n + 1) (tTwo (j + 5) l r)) :
    ∀ n kind t, Pl C n kind t → M n t
  | 0, kind, t, h => leaf 0 kind t h.2
  | n + 1, kind, t, h => by
    rcases h with ⟨_, h⟩ | ⟨_, ⟨l, rfl, h⟩ | ⟨a, l, r, ha, rfl, h, k⟩⟩ | ⟨_, ⟨l, rfl, h⟩ | ⟨a, l, r, ha, rfl, h, k⟩ | ⟨a, q, l, r, ha, _, rfl, h, k⟩⟩
    · exact leaf _ kind t h
    · exact one n 3 l (.inl rfl) (pl_ind leaf one two n _ _ h)
    · exact two n a l r (by omega) (pl_ind leaf one two n _ _ h) (pl_ind leaf one two n _ _ k)
    · exact one n 4 l (.inr rfl) (pl_ind leaf one two n _ _ h)
    · exact two n (a + 9) l r (by omega) (pl_ind leaf one two n _ _ h) (pl_ind leaf one two n _ _ k)
    · exact two n (a + 3) l r (by omega) (pl_ind leaf one two n _ _ h) (pl_ind leaf one two n _ _ k)
theorem pl_cn {C : Cl2} {n : Nat} {kind : Int} {t : Tr} (h : Pl C n kind t) : Cn (2 * n) t := by
  refine pl_ind (M := fun n t => Cn (2 * n) t) ?_ ?_ ?_ n kind t h
  · intro n kind t h
    rcases leaf_or h with ⟨tb, m, rfl, _⟩ | ⟨s, rfl, _⟩ | ⟨i, rfl, _⟩
    · exact .col _ _ _
    · exact .text _ _
    · exact .int _ _
  · intro n o l ho h
    rcases ho with rfl | rfl
    · exact .neg h
    · exact .not h
  · intro n j l r hj h k
    exact (Cn.two hj h k).mono (by omega)
theorem pl_cnd {C : Cl2} {n : Nat} {kind : Int} {t : Tr} (h : Pl C n kind t) (hn : n ≤ 5) (D : Prop) : CnD D t := ⟨_, pl_cn h, .inl (by omega)⟩
theorem ok_op : ∀ j, j < 11 → WdOK (opW j) := by
  intro j hj
  match j, hj with
  | 0, _ => exact .sign 43 (by decide)
  | 1, _ => exact .sign 45 (by decide)
  | 2, _ => exact .sign 42 (by decide)
  | 3, _ => exact .sign 61 (by decide)
  | 4, _ => exact .ang 60 [62] (.inr (.inl ⟨rfl, .inr rfl⟩))
  | 5, _ => exact .ang 60 [] (.inl ⟨.inl rfl, rfl⟩)
  | 6, _ => exact .ang 60 [61] (.inr (.inl ⟨rfl, .inl rfl⟩))
  | 7, _ => exact .ang 62 [] (.inl ⟨.inr rfl, rfl⟩)
  | 8, _ => exact .ang 62 [61] (.inr (.inr ⟨rfl, rfl⟩))
  | 9, _ => exact ok_kw (s := ⟨#[97, 110, 100]⟩) (by decide +kernel) (by decide +kernel)
  | 10, _ => exact ok_kw (s := ⟨#[111, 114]⟩) (by decide +kernel) (by decide +kernel)
theorem col_ok {C : Cl2} (hC : NmC C) {kind : Int} {tb n : ByteArray} (h : ColOK C kind tb n) : (tb = ⟨#[]⟩ ∨ WdOK (nm tb)) ∧ WdOK (nm n) ∧ tb.size ≤ 2 ∧ n.size ≤ 2 := by
  obtain ⟨x, hx, _, rfl, rfl | ⟨rfl, _⟩⟩ := h
  · exact ⟨.inr (hC x hx).1.1, (hC x hx).2.1, (hC x hx).1.2, (hC x hx).2.2⟩
  · exact ⟨.inl rfl, (hC x hx).2.1, Nat.zero_le _, (hC x hx).2.2⟩
theorem col_words_ok {tb n : ByteArray} (h : tb = ⟨#[]⟩ ∨ WdOK (nm tb)) (k : WdOK (nm n)) : ∀ w ∈ wdE (tCol tb n), WdOK w := by
  intro w hw
  by_cases h0 : tb = ⟨#[]⟩
  · subst h0
    have hw' : w ∈ [nm n] := hw
    rw [List.mem_singleton] at hw'
    subst hw'
    exact k
  · have e : wdE (tCol tb n) = [nm tb, (5, ⟨#[46]⟩, 0), nm n] := by show (if tb = ⟨#[]⟩ then _ else _) = _; rw [if_neg h0]; rfl
    rw [e] at hw
    simp only [List.mem_cons, List.not_mem_nil, or_false] at hw
    rcases hw with rfl | rfl | rfl
    · exact h.resolve_left h0
    · exact .sign 46 (by decide)
    · exact k
theorem text_ok {s : ByteArray} (h : s ∈ [⟨#[97]⟩, ⟨#[98]⟩, ⟨#[]⟩, ⟨#[105, 116, 39, 115]⟩, ⟨#[122, 122]⟩]) : WdOK (4, s, 0) ∧ s.size ≤ 4 := by
  simp only [List.mem_cons, List.not_mem_nil, or_false] at h
  rcases h with rfl | rfl | rfl | rfl | rfl
  · exact ⟨.text [97] (by decide) (by decide), by decide⟩
  · exact ⟨.text [98] (by decide) (by decide), by decide⟩
  · exact ⟨.text [] (by decide) (by decide), by decide⟩
  · exact ⟨.text [105, 116, 39, 115] (by decide) (by decide), by decide⟩
  · exact ⟨.text [122, 122] (by decide) (by decide), by decide⟩
theorem int_ok {i : Int} (h : (0 ≤ i ∧ i < 11) ∨ i = 9223372036854775807) : Fits i ∧ 0 ≤ i ∧ WdOK (3, ⟨#[]⟩, i) := by
  have h0 : 0 ≤ i := by omega
  have hf : Fits i := ⟨by omega, by omega⟩
  refine ⟨hf, h0, ?_⟩
  obtain ⟨k, rfl⟩ := Int.eq_ofNat_of_zero_le h0
  exact .num k hf
theorem wdE_one3 (l : Tr) : wdE (tOne 3 l) = (5, ⟨#[40]⟩, 0) :: (5, ⟨#[45]⟩, 0) :: (wdE l ++ [(5, ⟨#[41]⟩, 0)]) := rfl
theorem wdE_one4 (l : Tr) : wdE (tOne 4 l) = (5, ⟨#[40]⟩, 0) :: (2, ⟨#[110, 111, 116]⟩, 0) :: (wdE l ++ [(5, ⟨#[41]⟩, 0)]) := rfl
theorem pl_words {C : Cl2} (hC : NmC C) {n : Nat} {kind : Int} {t : Tr} (h : Pl C n kind t) : ∀ w ∈ wdE t, WdOK w := by
  have hop : WdOK (5, ⟨#[40]⟩, 0) := .sign 40 (by decide)
  have hcl : WdOK (5, ⟨#[41]⟩, 0) := .sign 41 (by decide)
  refine pl_ind (M := fun _ t => ∀ w ∈ wdE t, WdOK w) ?_ ?_ ?_ n kind t h
  · intro n kind t h
    rcases leaf_or h with ⟨tb, m, rfl, hc⟩ | ⟨s, rfl, hc⟩ | ⟨i, rfl, hc⟩
    · exact col_words_ok (col_ok hC hc).1 (col_ok hC hc).2.1
    · intro w hw
      have hw' : w ∈ [((4 : Int), s, (0 : Int))] := hw
      rw [List.mem_singleton] at hw'
      subst hw'
      exact (text_ok hc).1
    · intro w hw
      have hw' : w ∈ [((3 : Int), (⟨#[]⟩ : ByteArray), i)] := hw
      rw [List.mem_singleton] at hw'
      subst hw'
      exact (int_ok hc).2.2
  · intro n o l ho h w hw
    rcases ho with rfl | rfl
    · rw [wdE_one3] at hw
      simp only [List.mem_cons, List.mem_append, List.not_mem_nil, or_false] at hw
      rcases hw with rfl | rfl | hw | rfl
      · exact hop
      · exact .sign 45 (by decide)
      · exact h w hw
      · exact hcl
    · rw [wdE_one4] at hw
      simp only [List.mem_cons, List.mem_append, List.not_mem_nil, or_false] at hw
      rcases hw with rfl | rfl | hw | rfl
      · exact hop
      · exact ok_kw (s := ⟨#[110, 111, 116]⟩) (by decide +kernel) (by decide +kernel)
      · exact h w hw
      · exact hcl
  · intro n j l r hj h k w hw
    rw [wdE_two] at hw
    simp only [List.mem_cons, List.mem_append, List.not_mem_nil, or_false] at hw
    rcases hw with rfl | hw | rfl | hw | rfl
    · exact hop
    · exact h w hw
    · exact ok_op j hj
    · exact k w hw
    · exact hcl
/-- How long what is shown may be. -/
def szN : Nat → Nat
  | 0 => 21
  | n + 1 => 2 * szN n + 7
theorem szN_pos : ∀ n, 21 ≤ szN n
  | 0 => Nat.le_refl _
  | n + 1 => by have := szN_pos n; rw [szN]; omega
theorem leaf_size {C : Cl2} (hC : NmC C) {kind : Int} {t : Tr} (h : LeafOK C kind t) : (shE t).size ≤ 21 := by
  rcases leaf_or h with ⟨tb, m, rfl, hc⟩ | ⟨s, rfl, hc⟩ | ⟨i, rfl, hc⟩
  · obtain ⟨_, _, h1, h2⟩ := col_ok hC hc
    show (coB tb m).size ≤ 21
    rw [coB]
    split
    · omega
    · rw [ByteArray.size_append, ByteArray.size_append]
      have : (⟨#[46]⟩ : ByteArray).size = 1 := rfl
      omega
  · have h4 := (text_ok hc).2
    have e : shE (tText s) = quB s := rfl
    rw [e]
    have := quB_size s
    omega
  · obtain ⟨hf, h0, _⟩ := int_ok hc
    have e : shE (tInt i) = if (1 : Int) = 1 ∧ i < 0 then ⟨#[]⟩ else ⟨(Lib.itoa i).toArray⟩ := rfl
    rw [e, if_neg (by omega)]
    have := Lib.itoa_length_le i hf.1 hf.2
    show (Lib.itoa i).toArray.size ≤ 21
    simpa using this
theorem pl_size {C : Cl2} (hC : NmC C) {n : Nat} {kind : Int} {t : Tr} (h : Pl C n kind t) : (shE t).size ≤ szN n := by
  refine pl_ind (M := fun n t => (shE t).size ≤ szN n) ?_ ?_ ?_ n kind t h
  · intro n kind t h
    exact Nat.le_trans (leaf_size hC h) (szN_pos n)
  · intro n o l ho h
    have := szN_pos n
    rcases ho with rfl | rfl
    · have e : shE (tOne 3 l) = (⟨#[40, 45]⟩ ++ shE l) ++ ⟨#[41]⟩ := rfl
      have e1 : (⟨#[40, 45]⟩ : ByteArray).size = 2 := rfl
      have e2 : (⟨#[41]⟩ : ByteArray).size = 1 := rfl
      rw [e, ByteArray.size_append, ByteArray.size_append, szN]
      omega
    · have e : shE (tOne 4 l) = (⟨#[40, 110, 111, 116, 32]⟩ ++ shE l) ++ ⟨#[41]⟩ := rfl
      have e1 : (⟨#[40, 110, 111, 116, 32]⟩ : ByteArray).size = 5 := rfl
      have e2 : (⟨#[41]⟩ : ByteArray).size = 1 := rfl
      rw [e, ByteArray.size_append, ByteArray.size_append, szN]
      omega
  · intro n j l r hj h k
    have e : shE (tTwo (j + 5) l r) = (((((⟨#[40]⟩ ++ shE l) ++ ⟨#[32]⟩) ++ opT j) ++ ⟨#[32]⟩) ++ shE r) ++ ⟨#[41]⟩ := by
      show (if j + 5 = 1 then _ else if j + 5 = 2 then _ else if j + 5 = 3 then _ else if j + 5 = 4 then _ else _) = _
      rw [if_neg (by omega), if_neg (by omega), if_neg (by omega), if_neg (by omega)]
      rfl
    have e1 : (⟨#[40]⟩ : ByteArray).size = 1 := rfl
    have e2 : (⟨#[32]⟩ : ByteArray).size = 1 := rfl
    have e3 : (⟨#[41]⟩ : ByteArray).size = 1 := rfl
    have := opT_size j
    rw [e, ByteArray.size_append, ByteArray.size_append, ByteArray.size_append, ByteArray.size_append, ByteArray.size_append, ByteArray.size_append, szN]
    omega
theorem pl_wf {C : Cl2} (hC : NmC C) {n : Nat} {kind : Int} {t : Tr} (h : Pl C n kind t) : WfT t := by
  have f0 : Fits 0 := ⟨by decide, by decide⟩
  refine pl_ind (M := fun _ t => WfT t) ?_ ?_ ?_ n kind t h
  · intro n kind t h
    rcases leaf_or h with ⟨tb, m, rfl, hc⟩ | ⟨s, rfl, hc⟩ | ⟨i, rfl, hc⟩
    · obtain ⟨_, _, h1, h2⟩ := col_ok hC hc
      exact ⟨⟨f0, Nat.zero_le _, Nat.le_trans h1 (by decide), Nat.le_trans h2 (by decide)⟩, .inl (.inr rfl)⟩
    · exact ⟨⟨f0, Nat.le_trans (text_ok hc).2 (by decide), Nat.zero_le _, Nat.zero_le _⟩, .inl (.inl rfl)⟩
    · exact ⟨⟨(int_ok hc).1, Nat.zero_le _, Nat.zero_le _, Nat.zero_le _⟩, .inl (.inl rfl)⟩
  · intro n o l ho h
    exact ⟨⟨f0, Nat.zero_le _, Nat.zero_le _, Nat.zero_le _⟩, .inr (.inl ⟨ho, h⟩)⟩
  · intro n j l r hj h k
    exact ⟨⟨f0, Nat.zero_le _, Nat.zero_le _, Nat.zero_le _⟩, .inr (.inr ⟨by omega, by omega, h, k⟩)⟩
end Go.Proofs.YtnboooaockgoiaaGreatDoor
namespace Go.Proofs.YtnboooaockgoiaaGreatDoor
open Go.RowKit
set_option linter.unusedVariables false
set_option linter.unusedSimpArgs false

set_option maxRecDepth 100000 in
set_option maxHeartbeats 2000000 in
theorem fShow_select {m : Sm} {s : Sv} {Q : Nat → Prop} {w : World} (hk : m.kind = 6) {X : ByteArray} (hS : ∀ (w : World) (s : Sv), IsS Q w m s → Calls Tryz.prog 35 #[stV s] w fun e w' => e = .returned (.string X) ∧ Below w.heap.size w w') (h : IsS Q w m s) :
    Calls Tryz.prog 15 #[stV s] w fun e w' => e = .returned (.string X) ∧ Below w.heap.size w w' := by
  have HS : Hid (∀ w1, Below w.heap.size w w1 → _) := hid fun w1 hb => hS w1 s (h.keep fun b _ hl => hb.block b hl)
  have e0 := h.k.trans hk
  clear h hk hS
  obtain ⟨k, tb, nm, ⟨coa, con, coc⟩, ⟨taa, tan, tac⟩, ⟨vaa, van, vac⟩, ⟨ita, itn, itc⟩, jn, ⟨ona, onn, onc⟩, ⟨wha, whn, whc⟩, ⟨oda, odn, odc⟩, ds, ⟨inna, innn, innc⟩⟩ := s
  simp only at e0
  subst e0
  unfold stV at HS ⊢
  simp only at HS ⊢
  go_enter Tryz.func15, Tryz.ntmps15
  go_wp2_with fail
  refine Calls.mono (HS.out _ (bal (Below.refl _ w) _)) ?_
  rintro e w1 ⟨rfl, hb1⟩
  have hB := Below.on (bal (Below.refl _ w) _) hb1
  clear HS hb1
  go_wp2
  go_ret
  exact ⟨rfl, hB⟩

/-- Pieces of good words. -/
def AllP (l : List Pc) : Prop := ∀ p ∈ l, WdOK p.2
theorem AllP.nil : AllP [] := fun p h => absurd h (by simp)
theorem AllP.cons {k : Nat} {v : Wd} {l : List Pc} (h : WdOK v) (t : AllP l) : AllP ((k, v) :: l) := fun p hp => by
  rcases List.mem_cons.1 hp with rfl | hp
  · exact h
  · exact t p hp
theorem AllP.app {l m : List Pc} (h : AllP l) (t : AllP m) : AllP (l ++ m) := fun p hp => (List.mem_append.1 hp).elim (h p) (t p)
theorem AllP.words {l : List Pc} (h : AllP l) : ∀ w ∈ l.map Prod.snd, WdOK w := fun w hw => by
  obtain ⟨p, hp, rfl⟩ := List.mem_map.1 hw
  exact h p hp
theorem AllP.expr {t : Tr} (h : ∀ w ∈ wdE t, WdOK w) (sp : Nat) : AllP (pcE sp t) := fun p hp => h p.2 (by rw [← pcE_words t sp]; exact List.mem_map_of_mem hp)
theorem AllP.jpT {α : Type} {g : Nat → α → List Pc} : ∀ {l : List α}, (∀ y ∈ l, ∀ k, AllP (g k y)) → AllP (jpT g l)
  | [], _ => .nil
  | y :: l, h => .cons (.sign 44 (by decide)) ((h y (by simp) 1).app (AllP.jpT fun x hx => h x (by simp [hx])))
theorem AllP.jp {α : Type} {g : Nat → α → List Pc} {k : Nat} : ∀ {l : List α}, (∀ y ∈ l, ∀ k, AllP (g k y)) → AllP (jp g k l)
  | [], _ => .nil
  | y :: l, h => (h y (by simp) k).app (AllP.jpT fun x hx => h x (by simp [hx]))
def kwL : List ByteArray := [⟨#[99, 114, 101, 97, 116, 101]⟩, ⟨#[116, 97, 98, 108, 101]⟩, ⟨#[105, 110, 100, 101, 120]⟩, ⟨#[118, 105, 101, 119]⟩, ⟨#[99, 108, 111, 115, 117, 114, 101]⟩, ⟨#[111, 110]⟩, ⟨#[105, 110, 115, 101, 114, 116]⟩, ⟨#[105, 110, 116, 111]⟩, ⟨#[118, 97, 108, 117, 101, 115]⟩, ⟨#[115, 101, 108, 101, 99, 116]⟩, ⟨#[102, 114, 111, 109]⟩, ⟨#[106, 111, 105, 110]⟩, ⟨#[119, 104, 101, 114, 101]⟩, ⟨#[111, 114, 100, 101, 114]⟩, ⟨#[98, 121]⟩, ⟨#[100, 101, 115, 99]⟩, ⟨#[117, 112, 100, 97, 116, 101]⟩, ⟨#[115, 101, 116]⟩, ⟨#[100, 101, 108, 101, 116, 101]⟩, ⟨#[115, 116, 114, 105, 112]⟩, ⟨#[97, 115]⟩, ⟨#[114, 97, 105, 115, 101]⟩, ⟨#[99, 97, 108, 108]⟩, ⟨#[98, 101, 103, 105, 110]⟩, ⟨#[99, 111, 109, 109, 105, 116]⟩, ⟨#[114, 111, 108, 108, 98, 97, 99, 107]⟩, ⟨#[105, 110, 116]⟩, ⟨#[116, 101, 120, 116]⟩, ⟨#[114, 101, 102]⟩, ⟨#[99, 111, 117, 110, 116]⟩, ⟨#[115, 117, 109]⟩, ⟨#[109, 105, 110]⟩, ⟨#[109, 97, 120]⟩]
def nmL : List ByteArray := [⟨#[116]⟩, ⟨#[117]⟩, ⟨#[119]⟩, ⟨#[120]⟩, ⟨#[107]⟩, ⟨#[118]⟩, ⟨#[110]⟩, ⟨#[114]⟩, ⟨#[113]⟩, ⟨#[100]⟩, ⟨#[101]⟩, ⟨#[102]⟩, ⟨#[103]⟩]
theorem okK {s : ByteArray} (h : memB s kwL = true) : WdOK (kw s) := by
  have hs := mem_of h
  have tab : (kwL.all fun s => chkL s && isW s) = true := by decide +kernel
  have := List.all_eq_true.1 tab s hs
  rw [Bool.and_eq_true] at this
  exact ok_kw this.1 this.2
theorem okN {s : ByteArray} (h : s ∈ nmL) : WdOK (nm s) ∧ s.size = 1 := by
  have tab : (nmL.all fun s => chkL s && (!isW s && decide (s.size = 1))) = true := by decide +kernel
  have := List.all_eq_true.1 tab s h
  rw [Bool.and_eq_true, Bool.and_eq_true, decide_eq_true_eq] at this
  exact ⟨ok_nm this.1 (by simpa using this.2.1), this.2.2⟩
theorem okNm {s : ByteArray} {L : List ByteArray} (h : s ∈ L) (hL : (L.all fun x => memB x nmL) = true) : WdOK (nm s) ∧ s.size = 1 := okN (mem_of (List.all_eq_true.1 hL s h))
theorem okS (c : UInt8) (h : isO c = true) : WdOK (sg ⟨#[c]⟩) := .sign c h
theorem okT {z : Int} (h0 : 1 ≤ z) (h1 : z ≤ 3) : WdOK (3, ⟨#[]⟩, z) := by
  obtain ⟨k, rfl⟩ := Int.eq_ofNat_of_zero_le (show 0 ≤ z by omega)
  exact .num k ⟨by omega, by omega⟩

/-- What the document says of a statement, whatever block it lies in. -/
def Shows (m : Sf) (X : ByteArray) : Prop := ∀ (Q : Nat → Prop) (w : World) (s : Sv), IsS Q w m.1 s → RowIs eStmt Q w (slV s.inn) m.2 → Calls Tryz.prog 15 #[stV s] w fun e w' => e = .returned (.string X) ∧ Below w.heap.size w w'
/-- All that is wanted of a statement of the play's. -/
structure Good (m : Sf) (X : ByteArray) : Prop where
  shows : Shows m X
  text : bs X = ren (pcF m)
  sf : SfOK False m
  words : AllP (pcF m)
  few : X.size ≤ 200000
theorem nmC_of {tb : Tab} (h : tb = tabT ∨ tb = tabU) : NmC (colsOf tb) := by
  rcases h with rfl | rfl
  · exact nmC_T
  · exact nmC_U
theorem tbN {tb : Tab} (h : tb = tabT ∨ tb = tabU) : WdOK (nm tb.1) ∧ tb.1.size = 1 := by
  rcases h with rfl | rfl
  · exact okN (mem_of rfl)
  · exact okN (mem_of rfl)
theorem oth_or (tb : Tab) : oth tb = tabT ∨ oth tb = tabU := by
  unfold oth
  split
  · exact .inr rfl
  · exact .inl rfl
theorem wh_good {C : Cl2} (hC : NmC C) {l : List Tr} (h : WhOK C l) : One False l ∧ (∀ t ∈ l, WfT t) ∧ AllP (pcWh l) ∧ (∀ w ∈ wWh l, WdOK w) ∧ (whB l).size ≤ 1000 := by
  rcases h with rfl | ⟨t, rfl, h⟩
  · exact ⟨.inl rfl, by simp, .nil, fun w hw => absurd hw (by simp [wWh, pcWh]), by decide⟩
  · have hz := pl_size hC h
    have e : whB [t] = ⟨#[32, 119, 104, 101, 114, 101, 32]⟩ ++ shE t := rfl
    have e1 : (⟨#[32, 119, 104, 101, 114, 101, 32]⟩ : ByteArray).size = 7 := rfl
    have ha : AllP (pcWh [t]) := .cons (okK rfl) (.expr (pl_words hC h) 1)
    refine ⟨.inr ⟨t, rfl, pl_cnd h (by decide) False⟩, fun x hx => by rw [List.mem_singleton] at hx; subst hx; exact pl_wf hC h, ha, ha.words, ?_⟩
    rw [e, ByteArray.size_append, e1]
    have : szN 5 = 889 := rfl
    omega
theorem joP_size {α : Type} {sep : ByteArray} {g : ByteArray → α → ByteArray} {B : Nat} : ∀ (l : List α) (s0 : ByteArray), (∀ s, ∀ y ∈ l, (g s y).size ≤ s.size + B) → (l.foldl (fun s y => g (s ++ sep) y) s0).size ≤ s0.size + l.length * (B + sep.size)
  | [], s0, _ => by simp
  | y :: l, s0, h => by
    have h1 := joP_size l (g (s0 ++ sep) y) (B := B) (sep := sep) (g := g) fun s x hx => h s x (by simp [hx])
    have h2 := h (s0 ++ sep) y (by simp)
    rw [ByteArray.size_append] at h2
    rw [List.foldl_cons, List.length_cons, Nat.add_mul]
    omega
theorem star_size {l : List It} (h : ∀ x ∈ l, x.2.1.size ≤ 1000 ∧ x.2.2.size ≤ 1000) (hl : l.length ≤ 10) : (starB l).size ≤ 30000 := by
  cases l with
  | nil => decide
  | cons x l =>
    show (l.foldl (fun s y => itB (s ++ ⟨#[44, 32]⟩) y) (itB ⟨#[115, 101, 108, 101, 99, 116, 32]⟩ x)).size ≤ 30000
    have h1 := joP_size l (itB ⟨#[115, 101, 108, 101, 99, 116, 32]⟩ x) (B := 2008) (sep := ⟨#[44, 32]⟩) (g := itB) fun s y hy => itB_size s y (h y (by simp [hy])).1 (h y (by simp [hy])).2
    have h2 := itB_size ⟨#[115, 101, 108, 101, 99, 116, 32]⟩ x (h x (by simp)).1 (h x (by simp)).2
    have e1 : (⟨#[115, 101, 108, 101, 99, 116, 32]⟩ : ByteArray).size = 7 := rfl
    have e2 : (⟨#[44, 32]⟩ : ByteArray).size = 2 := rfl
    rw [e2] at h1
    have h3 : l.length * (2008 + 2) ≤ 9 * 2010 := Nat.mul_le_mul (by simp at hl; omega) (by omega)
    omega
theorem col_size {C : Cl2} (hC : NmC C) {k : Int} {a n : ByteArray} (h : ColOK C k a n) : (shE (tCol a n)).size ≤ 5 ∧ WfT (tCol a n) ∧ (∀ w ∈ wdE (tCol a n), WdOK w) ∧ a.size ≤ 2 ∧ n.size ≤ 2 := by
  obtain ⟨h1, h2, h3, h4⟩ := col_ok hC h
  refine ⟨?_, ⟨⟨(⟨by decide, by decide⟩ : Fits 0), Nat.zero_le _, Nat.le_trans h3 (by decide), Nat.le_trans h4 (by decide)⟩, .inl (.inr rfl)⟩, col_words_ok h1 h2, h3, h4⟩
  have := coB_size a n
  show (coB a n).size ≤ 5
  omega
/-- A select. -/
theorem sel_good {tb : Tab} (htb : tb = tabT ∨ tb = tabU) {m : Sm} (h : SelOK tb m) : ∃ X, Good (m, []) X ∧ SmOK False m ∧ m.kind = 6 ∧ bs X = ren (pcS 0 m) ∧ AllP (pcS 1 m) ∧ X.size ≤ 100000 := by
  obtain ⟨C, its, j, on, wh, od, d, folds, hj, hw, hi, ho, rfl⟩ := h
  have hC : NmC C := by
    rcases hj with ⟨rfl, _⟩ | ⟨rfl, _⟩
    · exact nmC_of htb
    · exact (nmC_of htb).app (nmC_of (oth_or tb))
  obtain ⟨w1, w2, w3, w4, w5⟩ := wh_good hC hw
  have hits : ∀ x ∈ its, ItOK x ∧ ((x.1 = 0 ∨ x.1 = 1 ∨ x.1 = 2 ∨ x.1 = 3 ∨ x.1 = 4) ∧ x.2.1.size ≤ 1000 ∧ x.2.2.size ≤ 1000) ∧ ∀ k, AllP (pcItem k x) := by
    have hcol : ∀ x : It, (x.1 = 0 ∨ x.1 = 2 ∨ x.1 = 3 ∨ x.1 = 4) → ∀ k, ColOK C k x.2.1 x.2.2 → ItOK x ∧ ((x.1 = 0 ∨ x.1 = 1 ∨ x.1 = 2 ∨ x.1 = 3 ∨ x.1 = 4) ∧ x.2.1.size ≤ 1000 ∧ x.2.2.size ≤ 1000) ∧ ∀ k, AllP (pcItem k x) := by
      intro x hx k hc
      obtain ⟨_, _, c3, c4, c5⟩ := col_size hC hc
      refine ⟨by unfold ItOK; omega, ⟨by omega, by omega, by omega⟩, fun kk => ?_⟩
      rw [pcItem]
      split
      · exact .expr c3 kk
      · split
        · omega
        · refine .cons ?_ (.cons (okS 40 (by decide)) ((AllP.expr c3 0).app (.cons (okS 41 (by decide)) .nil)))
          unfold aggW
          split
          · exact okK rfl
          · split
            · exact okK rfl
            · exact okK rfl
    have hcnt : ItOK (1, ⟨#[]⟩, ⟨#[]⟩) ∧ (((1 : Int) = 0 ∨ (1 : Int) = 1 ∨ (1 : Int) = 2 ∨ (1 : Int) = 3 ∨ (1 : Int) = 4) ∧ (⟨#[]⟩ : ByteArray).size ≤ 1000 ∧ (⟨#[]⟩ : ByteArray).size ≤ 1000) ∧ ∀ k, AllP (pcItem k (1, ⟨#[]⟩, ⟨#[]⟩)) := by
      refine ⟨.inr (.inl rfl), ⟨by decide, by decide, by decide⟩, fun k => ?_⟩
      show AllP [(k, kw ⟨#[99, 111, 117, 110, 116]⟩), (0, sg ⟨#[40]⟩), (0, sg ⟨#[42]⟩), (0, sg ⟨#[41]⟩)]
      exact .cons (okK rfl) (.cons (okS 40 (by decide)) (.cons (okS 42 (by decide)) (.cons (okS 41 (by decide)) .nil)))
    intro x hx
    rcases hi with ⟨_, hi, _⟩ | ⟨l', rfl, _, hi, _⟩
    · obtain ⟨h0, k, _, hc⟩ := hi x hx
      exact hcol x (.inl h0) k hc
    · rcases List.mem_cons.1 hx with rfl | hx
      · exact hcnt
      · obtain ⟨h2, h4, hc⟩ := hi x hx
        exact hcol x (by omega) 1 hc
  have hlen : its.length ≤ 3 := by
    rcases hi with ⟨h, _⟩ | ⟨l', rfl, h, _⟩
    · exact h
    · simp; omega
  have hjo : JoOK j on ∧ ((j = ⟨#[]⟩ ∧ on = []) ∨ (j ≠ ⟨#[]⟩ ∧ j.size ≤ 1000 ∧ ∃ a b, on = [a, b] ∧ WfT a ∧ WfT b ∧ (shE a).size ≤ 10000 ∧ (shE b).size ≤ 10000)) ∧ AllP (pcJoin j on) ∧ (joinB ((starB its ++ ⟨#[32, 102, 114, 111, 109, 32]⟩) ++ tb.1) j on).size ≤ ((starB its ++ ⟨#[32, 102, 114, 111, 109, 32]⟩) ++ tb.1).size + 100 := by
    rcases hj with ⟨_, rfl, rfl⟩ | ⟨_, rfl, k, a1, n1, a2, n2, hk, hc1, hc2, rfl⟩
    · exact ⟨.inl ⟨rfl, rfl⟩, .inl ⟨rfl, rfl⟩, .nil, by show (((starB its ++ ⟨#[32, 102, 114, 111, 109, 32]⟩) ++ tb.1)).size ≤ _; omega⟩
    · obtain ⟨y1, y2, y3, _, _⟩ := col_size hC hc1
      obtain ⟨z1, z2, z3, _, _⟩ := col_size hC hc2
      obtain ⟨o1, o2⟩ := tbN (oth_or tb)
      have hne : (oth tb).1 ≠ ⟨#[]⟩ := fun e => by rw [e] at o2; cases o2
      refine ⟨.inr ⟨_, _, rfl, ⟨_, _, rfl⟩, ⟨_, _, rfl⟩⟩, .inr ⟨hne, by omega, _, _, rfl, y2, z2, by omega, by omega⟩, .cons (okK rfl) (.cons o1 (.cons (okK rfl) ((AllP.expr y3 1).app (.cons (okS 61 (by decide)) (.expr z3 1))))), ?_⟩
      show (((((((starB its ++ ⟨#[32, 102, 114, 111, 109, 32]⟩) ++ tb.1) ++ ⟨#[32, 106, 111, 105, 110, 32]⟩) ++ (oth tb).1) ++ ⟨#[32, 111, 110, 32]⟩) ++ shE (tCol a1 n1)) ++ ⟨#[32, 61, 32]⟩ ++ shE (tCol a2 n2)).size ≤ _
      rw [ByteArray.size_append, ByteArray.size_append, ByteArray.size_append, ByteArray.size_append, ByteArray.size_append, ByteArray.size_append]
      have e1 : (⟨#[32, 106, 111, 105, 110, 32]⟩ : ByteArray).size = 6 := rfl
      have e2 : (⟨#[32, 111, 110, 32]⟩ : ByteArray).size = 4 := rfl
      have e3 : (⟨#[32, 61, 32]⟩ : ByteArray).size = 3 := rfl
      omega
  obtain ⟨j1, j2, j3, j4⟩ := hjo
  have hoo : OrOK d od ∧ ((od = [] ∧ d = false) ∨ ∃ a, od = [a] ∧ WfT a ∧ (shE a).size ≤ 10000) ∧ AllP (pcOrd d od) ∧ ∀ S, (ordB S d od).size ≤ S.size + 100 := by
    rcases ho with ⟨rfl, hd⟩ | ⟨_, k, a, n, hk, hc, rfl⟩
    · have hd' : d = false := by simpa using hd
      subst hd'
      exact ⟨.inl ⟨rfl, rfl⟩, .inl ⟨rfl, rfl⟩, .nil, fun S => by show S.size ≤ _; omega⟩
    · obtain ⟨y1, y2, y3, _, _⟩ := col_size hC hc
      refine ⟨.inr ⟨_, rfl, _, _, rfl⟩, .inr ⟨_, rfl, y2, by omega⟩, .cons (okK rfl) (.cons (okK rfl) ((AllP.expr y3 1).app ?_)), fun S => ?_⟩
      · cases d with
        | false => exact .nil
        | true => exact .cons (okK rfl) .nil
      · have e1 : (⟨#[32, 111, 114, 100, 101, 114, 32, 98, 121, 32]⟩ : ByteArray).size = 10 := rfl
        have e2 : (⟨#[32, 100, 101, 115, 99]⟩ : ByteArray).size = 5 := rfl
        cases d with
        | false =>
          show ((S ++ ⟨#[32, 111, 114, 100, 101, 114, 32, 98, 121, 32]⟩) ++ shE (tCol a n)).size ≤ _
          rw [ByteArray.size_append, ByteArray.size_append]; omega
        | true =>
          show (((S ++ ⟨#[32, 111, 114, 100, 101, 114, 32, 98, 121, 32]⟩) ++ shE (tCol a n)) ++ ⟨#[32, 100, 101, 115, 99]⟩).size ≤ _
          rw [ByteArray.size_append, ByteArray.size_append, ByteArray.size_append]; omega
  obtain ⟨o1, o2, o3, o4⟩ := hoo
  obtain ⟨t1, t2⟩ := tbN htb
  have hsm : SmOK False ⟨6, tb.1, ⟨#[]⟩, [], [], [], its, j, on, wh, od, d⟩ := .inr (.inl ⟨its, tb.1, j, on, wh, od, d, fun x hx => (hits x hx).1, j1, w1, o1, rfl⟩)
  have hAst : AllP (pcStar its) := by
    rw [pcStar]
    split
    · exact .cons (okS 42 (by decide)) .nil
    · exact .jp fun y hy k => (hits y hy).2.2 k
  have hA : ∀ k, AllP (pcS k ⟨6, tb.1, ⟨#[]⟩, [], [], [], its, j, on, wh, od, d⟩) := fun k =>
    .cons (okK rfl) (hAst.app (.cons (okK rfl) (.cons t1 (j3.app (w3.app o3)))))
  have htx : bs (selB ⟨6, tb.1, ⟨#[]⟩, [], [], [], its, j, on, wh, od, d⟩) = ren (pcS 0 ⟨6, tb.1, ⟨#[]⟩, [], [], [], its, j, on, wh, od, d⟩) := select_ren (m := ⟨6, tb.1, ⟨#[]⟩, [], [], [], its, j, on, wh, od, d⟩) j1 w1 o1 j3.words w4
  have hsz : (selB ⟨6, tb.1, ⟨#[]⟩, [], [], [], its, j, on, wh, od, d⟩).size ≤ 50000 := by
    have h1 := star_size (l := its) (fun x hx => ((hits x hx).2.1).2) (by omega)
    have h2 := o4 (joinB ((starB its ++ ⟨#[32, 102, 114, 111, 109, 32]⟩) ++ tb.1) j on ++ whB wh)
    rw [ByteArray.size_append] at h2
    rw [ByteArray.size_append, ByteArray.size_append] at j4
    have e1 : (⟨#[32, 102, 114, 111, 109, 32]⟩ : ByteArray).size = 6 := rfl
    show (ordB (joinB ((starB its ++ ⟨#[32, 102, 114, 111, 109, 32]⟩) ++ tb.1) j on ++ whB wh) d od).size ≤ 50000
    omega
  refine ⟨_, ⟨fun Q w s hI hR => fShow_select rfl (fun w1 s1 hI1 => fSelected_any show_expr (m := ⟨6, tb.1, ⟨#[]⟩, [], [], [], its, j, on, wh, od, d⟩) (fun x hx => (hits x hx).2.1) (by show its.length ≤ 100; omega) (by show tb.1.size ≤ 1000; omega) j2 w2 (by show (whB wh).size ≤ 100000; omega) o2 hI1) hI, htx, .inl ⟨_, hsm, rfl⟩, hA 0, by omega⟩, hsm, rfl, htx, hA 1, by omega⟩

end Go.Proofs.YtnboooaockgoiaaGreatDoor
