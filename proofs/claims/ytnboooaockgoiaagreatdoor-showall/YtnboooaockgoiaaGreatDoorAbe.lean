import Derived.Test.YtnboooaockgoiaaGreatDoorAax
import Derived.Test.YtnboooaockgoiaaGreatDoorAas
import Derived.Test.YtnboooaockgoiaaGreatDoorAac
import Derived.Test.YtnboooaockgoiaaGreatDoorAaj
import Derived.Test.YtnboooaockgoiaaGreatDoorAbd
import Derived.Test.YtnboooaockgoiaaGreatDoorAak
namespace Go.Proofs.YtnboooaockgoiaaGreatDoor
open Go.RowKit
set_option linter.unusedVariables false
set_option linter.unusedSimpArgs false

theorem jo_size {α : Type} {sep : ByteArray} {g : ByteArray → α → ByteArray} {B : Nat} {l : List α} (h : ∀ s, ∀ y ∈ l, (g s y).size ≤ s.size + B) : (jo sep g l).size ≤ l.length * (B + sep.size) := by
  cases l with
  | nil => exact Nat.zero_le _
  | cons y l =>
    show (l.foldl (fun s y => g (s ++ sep) y) (g ⟨#[]⟩ y)).size ≤ _
    have h1 := joP_size l (g ⟨#[]⟩ y) (B := B) (sep := sep) (g := g) fun s x hx => h s x (by simp [hx])
    have h2 := h ⟨#[]⟩ y (by simp)
    have e : (⟨#[]⟩ : ByteArray).size = 0 := rfl
    rw [List.length_cons, Nat.add_mul]
    omega
theorem tags_size {l : List Int} (h : ∀ z ∈ l, 1 ≤ z ∧ z ≤ 3) (hl : l.length ≤ 3) : (tasB l).size ≤ 200 := by
  have h1 : (tasB l).size ≤ l.length * (31 + (⟨#[44]⟩ : ByteArray).size) := jo_size fun s z hz => by
    rw [taB, ByteArray.size_append, ByteArray.size_append]
    have := itoa_le (z := z) (by have := h z hz; omega) (by have := h z hz; omega)
    have e : (⟨#[32]⟩ : ByteArray).size = 1 := rfl
    omega
  have e : (⟨#[44]⟩ : ByteArray).size = 1 := rfl
  rw [e] at h1
  have : l.length * (31 + 1) ≤ 3 * 32 := Nat.mul_le_mul hl (Nat.le_refl _)
  omega
theorem tags_all {l : List Int} (h : ∀ z ∈ l, 1 ≤ z ∧ z ≤ 3) : (∀ z ∈ l, TaOK z) ∧ (∀ z ∈ l, 0 ≤ z ∧ z ≤ 65535) ∧ AllP (jp pcTag 1 l) :=
  ⟨fun z hz => ⟨by have := h z hz; omega, by have := h z hz; omega⟩, fun z hz => ⟨by have := h z hz; omega, by have := h z hz; omega⟩, .jp fun z hz k => .cons (okT (h z hz).1 (h z hz).2) .nil⟩
/-- A statement with none within it. -/
structure GoodS (m : Sm) (X : ByteArray) : Prop where
  good : Good (m, []) X
  less : X.size ≤ 100000
  sm : SmOK False m
  text : bs X = ren (pcS 0 m)
  words : AllP (pcS 1 m)
theorem nmC_nil : NmC [] := fun x h => absurd h (by simp)
theorem ins_good {tb : Tab} (htb : tb = tabT ∨ tb = tabU) {m : Sm} (h : InsOK tb m) : ∃ X, GoodS m X := by
  obtain ⟨vs, hl, hv, rfl⟩ := h
  have hl3 : vs.length = 3 := by rcases htb with rfl | rfl <;> exact hl
  have hne : vs ≠ [] := by rintro rfl; cases hl3
  have hall : ∀ t ∈ vs, ∃ kind, Pl [] 0 kind t := fun t ht => by
    obtain ⟨i, hi, rfl⟩ := List.getElem_of_mem ht
    obtain ⟨k, s, e, hk⟩ := hv i hi (by omega)
    refine ⟨_, ?_, .inr ⟨k, s, e, hk⟩⟩
    rcases hk with ⟨h, _⟩ | ⟨h, _⟩
    · exact .inr h
    · exact .inl h
  have hcn : ∀ t ∈ vs, CnD False t := fun t ht => by obtain ⟨k, h⟩ := hall t ht; exact pl_cnd h (by decide) False
  have hwd : ∀ t ∈ vs, ∀ w ∈ wdE t, WdOK w := fun t ht => by obtain ⟨k, h⟩ := hall t ht; exact pl_words nmC_nil h
  have hwf : ∀ t ∈ vs, WfT t := fun t ht => by obtain ⟨k, h⟩ := hall t ht; exact pl_wf nmC_nil h
  have hA : AllP (jp pcE 0 vs) := .jp fun t ht k => .expr (hwd t ht) k
  have hw : ∀ w ∈ jw wdE vs, WdOK w := by
    rw [← jp_words (g := pcE) (h := wdE) (fun k y => pcE_words y k) 0]
    exact hA.words
  obtain ⟨t1, t2⟩ := tbN htb
  have hz : (exsB vs).size ≤ 1000 := by
    have h1 : (exsB vs).size ≤ vs.length * (21 + (⟨#[44, 32]⟩ : ByteArray).size) := jo_size fun s t ht => by
      rw [exB, ByteArray.size_append]
      obtain ⟨k, h⟩ := hall t ht
      have := pl_size nmC_nil h
      have e : szN 0 = 21 := rfl
      omega
    have e : (⟨#[44, 32]⟩ : ByteArray).size = 2 := rfl
    rw [e, hl3] at h1
    omega
  have hsm : SmOK False ⟨5, tb.1, ⟨#[]⟩, [], [], vs, [], ⟨#[]⟩, [], [], [], false⟩ := .inl ⟨tb.1, vs, hne, hcn, rfl⟩
  have hP : ∀ k, AllP (pcS k ⟨5, tb.1, ⟨#[]⟩, [], [], vs, [], ⟨#[]⟩, [], [], [], false⟩) := fun k => .cons (okK rfl) (.cons (okK rfl) (.cons t1 (.cons (okK rfl) (.cons (okS 40 (by decide)) (hA.app (.cons (okS 41 (by decide)) .nil))))))
  have htx := insert_ren (m := ⟨5, tb.1, ⟨#[]⟩, [], [], vs, [], ⟨#[]⟩, [], [], [], false⟩) hcn hw
  have hs : ((((⟨#[105, 110, 115, 101, 114, 116, 32, 105, 110, 116, 111, 32]⟩ ++ tb.1) ++ ⟨#[32, 118, 97, 108, 117, 101, 115, 40]⟩) ++ exsB vs) ++ ⟨#[41]⟩).size ≤ 100000 := by
    rw [ByteArray.size_append, ByteArray.size_append, ByteArray.size_append, ByteArray.size_append]
    have e1 : (⟨#[105, 110, 115, 101, 114, 116, 32, 105, 110, 116, 111, 32]⟩ : ByteArray).size = 12 := rfl
    have e2 : (⟨#[32, 118, 97, 108, 117, 101, 115, 40]⟩ : ByteArray).size = 8 := rfl
    have e3 : (⟨#[41]⟩ : ByteArray).size = 1 := rfl
    omega
  exact ⟨_, ⟨fun Q w s hI _ => fShow_insert show_expr (m := ⟨5, tb.1, ⟨#[]⟩, [], [], vs, [], ⟨#[]⟩, [], [], [], false⟩) rfl hwf (by show tb.1.size + (exsB vs).size ≤ 900000; omega) hI, htx, .inl ⟨_, hsm, rfl⟩, hP 0, Nat.le_trans hs (by decide)⟩, hs, hsm, htx, hP 1⟩
theorem del_good {tb : Tab} (htb : tb = tabT ∨ tb = tabU) {m : Sm} (h : DelOK tb m) : ∃ X, GoodS m X := by
  obtain ⟨wh, hw, rfl⟩ := h
  obtain ⟨w1, w2, w3, w4, w5⟩ := wh_good (nmC_of htb) hw
  obtain ⟨t1, t2⟩ := tbN htb
  have hsm : SmOK False ⟨8, tb.1, ⟨#[]⟩, [], [], [], [], ⟨#[]⟩, [], wh, [], false⟩ := .inr (.inr (.inr ⟨tb.1, wh, w1, rfl⟩))
  have hP : ∀ k, AllP (pcS k ⟨8, tb.1, ⟨#[]⟩, [], [], [], [], ⟨#[]⟩, [], wh, [], false⟩) := fun k => .cons (okK rfl) (.cons (okK rfl) (.cons t1 w3))
  have htx := delete_ren (m := ⟨8, tb.1, ⟨#[]⟩, [], [], [], [], ⟨#[]⟩, [], wh, [], false⟩) w1 w4
  have hs : ((⟨#[100, 101, 108, 101, 116, 101, 32, 102, 114, 111, 109, 32]⟩ ++ tb.1) ++ whB wh).size ≤ 100000 := by
    rw [ByteArray.size_append, ByteArray.size_append]
    have e1 : (⟨#[100, 101, 108, 101, 116, 101, 32, 102, 114, 111, 109, 32]⟩ : ByteArray).size = 12 := rfl
    omega
  exact ⟨_, ⟨fun Q w s hI _ => fShow_delete show_expr (m := ⟨8, tb.1, ⟨#[]⟩, [], [], [], [], ⟨#[]⟩, [], wh, [], false⟩) rfl w2 (by show tb.1.size + (whB wh).size ≤ 900000; omega) hI, htx, .inl ⟨_, hsm, rfl⟩, hP 0, Nat.le_trans hs (by decide)⟩, hs, hsm, htx, hP 1⟩
theorem upd_good {tb : Tab} (htb : tb = tabT ∨ tb = tabU) {m : Sm} (h : UpdOK tb m) : ∃ X, GoodS m X := by
  obtain ⟨n, t, wh, hn, hw, rfl⟩ := h
  obtain ⟨w1, w2, w3, w4, w5⟩ := wh_good (nmC_of htb) hw
  obtain ⟨t1, t2⟩ := tbN htb
  obtain ⟨kk, hP⟩ : ∃ kk, Pl (colsOf tb) 4 kk t := by
    rcases hn with ⟨_, h⟩ | ⟨_, _, h⟩
    · exact ⟨1, h⟩
    · exact ⟨2, h⟩
  have hnn : WdOK (nm n) ∧ n.size = 1 := by
    rcases hn with ⟨rfl, _⟩ | ⟨rfl, _⟩
    · exact okN (mem_of rfl)
    · exact okN (mem_of rfl)
  have hz := pl_size (nmC_of htb) hP
  have e4 : szN 4 = 441 := rfl
  have hwd := pl_words (nmC_of htb) hP
  have hsm : SmOK False ⟨7, tb.1, n, [], [], [t], [], ⟨#[]⟩, [], wh, [], false⟩ := .inr (.inr (.inl ⟨tb.1, n, t, wh, pl_cnd hP (by decide) False, w1, rfl⟩))
  have hA : ∀ k, AllP (pcS k ⟨7, tb.1, n, [], [], [t], [], ⟨#[]⟩, [], wh, [], false⟩) := fun k => .cons (okK rfl) (.cons t1 (.cons (okK rfl) (.cons hnn.1 (.cons (okS 61 (by decide)) ((AllP.expr hwd 1).app w3)))))
  have htx := update_ren (m := ⟨7, tb.1, n, [], [], [t], [], ⟨#[]⟩, [], wh, [], false⟩) (t := t) rfl (pl_cnd hP (by decide) False) hwd w1 w4
  have hs : ((((((⟨#[117, 112, 100, 97, 116, 101, 32]⟩ ++ tb.1) ++ ⟨#[32, 115, 101, 116, 32]⟩) ++ n) ++ ⟨#[32, 61, 32]⟩) ++ shE t) ++ whB wh).size ≤ 100000 := by
    rw [ByteArray.size_append, ByteArray.size_append, ByteArray.size_append, ByteArray.size_append, ByteArray.size_append, ByteArray.size_append]
    have e1 : (⟨#[117, 112, 100, 97, 116, 101, 32]⟩ : ByteArray).size = 7 := rfl
    have e2 : (⟨#[32, 115, 101, 116, 32]⟩ : ByteArray).size = 5 := rfl
    have e3 : (⟨#[32, 61, 32]⟩ : ByteArray).size = 3 := rfl
    omega
  exact ⟨_, ⟨fun Q w s hI _ => fShow_update show_expr (m := ⟨7, tb.1, n, [], [], [t], [], ⟨#[]⟩, [], wh, [], false⟩) rfl (t := t) rfl (pl_wf (nmC_of htb) hP) w2 (by show tb.1.size + n.size + (shE t).size + (whB wh).size ≤ 900000; omega) hI, htx, .inl ⟨_, hsm, rfl⟩, hA 0, Nat.le_trans hs (by decide)⟩, hs, hsm, htx, hA 1⟩
theorem data_good {m : Sm} (h : DataOK m) : ∃ X, GoodS m X := by
  obtain ⟨tb, htb, h | h | h | h⟩ := h
  · exact ins_good htb h
  · exact upd_good htb h
  · exact del_good htb h
  · obtain ⟨X, h1, h2, _, h4, h5, h6⟩ := sel_good htb h
    exact ⟨X, h1, h6, h2, h4, h5⟩
theorem GoodS.inner {m : Sm} {X : ByteArray} (h : GoodS m X) {Q : Nat → Prop} : ∀ (w : World) (s : Sv), IsS Q w m s → s.inn = (none, 0, 0) → Calls Tryz.prog 15 #[stV s] w fun e w' => e = .returned (.string X) ∧ Below w.heap.size w w' := fun w s hI hn =>
  h.good.shows Q w s hI (by rw [hn]; exact RowIs.nil _ _ _)
theorem cols_good {cs : List Co} (h : ∀ c ∈ cs, ColP c) : (∀ c ∈ cs, CoOK c) ∧ (∀ k, AllP (jp pcCol k cs)) ∧ ∀ s, ∀ c ∈ cs, (cdB s c).size ≤ s.size + 20 := by
  refine ⟨fun c hc => (h c hc).2.1, fun k => .jp fun c hc k => ?_, fun s c hc => ?_⟩
  · obtain ⟨h1, h2, h3⟩ := h c hc
    refine .cons (okNm h1 (by decide +kernel)).1 (.cons ?_ ?_)
    · rcases h2 with e | e
      · rw [kindW, if_pos e]; exact okK rfl
      · rw [kindW, if_neg (by rw [e]; decide)]; exact okK rfl
    · split
      · exact .nil
      · rename_i hne
        rcases List.mem_cons.1 h3 with e | h3
        · exact absurd e hne
        · exact .cons (okK rfl) (.cons (okNm h3 (by decide +kernel)).1 .nil)
  · obtain ⟨h1, h2, h3⟩ := h c hc
    have e1 := (okNm h1 (by decide +kernel)).2
    have e2 : c.2.2.size ≤ 1 := by
      rcases List.mem_cons.1 h3 with e | h3
      · rw [e]; decide
      · rw [(okNm h3 (by decide +kernel)).2]; omega
    have e3 : (kiB c.2.1).size ≤ 4 := by unfold kiB; split <;> decide
    have e4 : (⟨#[32]⟩ : ByteArray).size = 1 := rfl
    have e5 : (⟨#[32, 114, 101, 102, 32]⟩ : ByteArray).size = 5 := rfl
    rw [cdB]
    split
    · rw [ByteArray.size_append, ByteArray.size_append, ByteArray.size_append]; omega
    · rw [ByteArray.size_append, ByteArray.size_append, ByteArray.size_append, ByteArray.size_append, ByteArray.size_append]; omega
/-- Every statement that the play makes. -/
theorem st_good {m : Sf} (h : StOK m) : ∃ X, Good m X := by
  rcases h with ⟨n, cs, hn, h0, h4, hc, rfl⟩ | ⟨tb, n, htb, hn, rfl⟩ | ⟨n, tg, x, tb, hn, ht, htb, hx, rfl⟩ | ⟨n, tg, x, hn, ht, hx, h6, rfl⟩ | ⟨k, hk, rfl⟩ | ⟨tg, h0, hl, ht, rfl⟩ | ⟨n, hn, rfl⟩ | ⟨x, hx, rfl⟩
  · obtain ⟨c1, c2, c3⟩ := cols_good hc
    obtain ⟨n1, n2⟩ := okNm hn (by decide +kernel)
    have hz : (taT ⟨1, ⟨#[]⟩, n, cs, [], [], [], ⟨#[]⟩, [], [], [], false⟩).size ≤ 1000 := by
      have e1 : (⟨#[99, 114, 101, 97, 116, 101, 32, 116, 97, 98, 108, 101, 32]⟩ : ByteArray).size = 13 := rfl
      have e2 : (⟨#[40]⟩ : ByteArray).size = 1 := rfl
      have e3 : (⟨#[41]⟩ : ByteArray).size = 1 := rfl
      have e4 : (⟨#[44, 32]⟩ : ByteArray).size = 2 := rfl
      obtain ⟨c, cs, rfl⟩ := List.exists_cons_of_ne_nil h0
      show (cs.foldl (fun s y => cdB (s ++ ⟨#[44, 32]⟩) y) (cdB ((⟨#[99, 114, 101, 97, 116, 101, 32, 116, 97, 98, 108, 101, 32]⟩ ++ n) ++ ⟨#[40]⟩) c) ++ ⟨#[41]⟩).size ≤ 1000
      rw [ByteArray.size_append]
      have h1 := joP_size cs (cdB ((⟨#[99, 114, 101, 97, 116, 101, 32, 116, 97, 98, 108, 101, 32]⟩ ++ n) ++ ⟨#[40]⟩) c) (B := 20) (sep := ⟨#[44, 32]⟩) (g := cdB) fun s y hy => c3 s y (by simp [hy])
      have h2 := c3 ((⟨#[99, 114, 101, 97, 116, 101, 32, 116, 97, 98, 108, 101, 32]⟩ ++ n) ++ ⟨#[40]⟩) c (by simp)
      rw [ByteArray.size_append, ByteArray.size_append] at h2
      have h3 : cs.length * (20 + (⟨#[44, 32]⟩ : ByteArray).size) ≤ 3 * 22 := by rw [e4]; exact Nat.mul_le_mul (by simp at h4; omega) (Nat.le_refl _)
      omega
    refine ⟨_, fun Q w s hI _ => fShow_table (m := ⟨1, ⟨#[]⟩, n, cs, [], [], [], ⟨#[]⟩, [], [], [], false⟩) rfl (fun c hc' => (hc c hc').2.1) (by omega) hI, table_ren ⟨1, ⟨#[]⟩, n, cs, [], [], [], ⟨#[]⟩, [], [], [], false⟩ h0, .inr (.inl ⟨n, cs, h0, c1, rfl⟩), .cons (okK rfl) (.cons (okK rfl) (.cons n1 (.cons (okS 40 (by decide)) ((c2 0).app (.cons (okS 41 (by decide)) .nil))))), by omega⟩
  · obtain ⟨t1, t2⟩ := okNm htb (by decide +kernel)
    obtain ⟨n1, n2⟩ := okNm hn (by decide +kernel)
    refine ⟨_, fun Q w s hI _ => fShow_index (m := ⟨2, tb, n, [], [], [], [], ⟨#[]⟩, [], [], [], false⟩) rfl (by show tb.size + n.size ≤ 900000; omega) hI, index_ren ⟨2, tb, n, [], [], [], [], ⟨#[]⟩, [], [], [], false⟩, .inr (.inr (.inl ⟨tb, n, rfl⟩)), .cons (okK rfl) (.cons (okK rfl) (.cons (okK rfl) (.cons t1 (.cons (okS 40 (by decide)) (.cons n1 (.cons (okS 41 (by decide)) .nil)))))), ?_⟩
    show ((((⟨#[99, 114, 101, 97, 116, 101, 32, 105, 110, 100, 101, 120, 32, 111, 110, 32]⟩ ++ tb) ++ ⟨#[40]⟩) ++ n) ++ ⟨#[41]⟩).size ≤ 200000
    rw [ByteArray.size_append, ByteArray.size_append, ByteArray.size_append, ByteArray.size_append]
    have e1 : (⟨#[99, 114, 101, 97, 116, 101, 32, 105, 110, 100, 101, 120, 32, 111, 110, 32]⟩ : ByteArray).size = 16 := rfl
    have e2 : (⟨#[40]⟩ : ByteArray).size = 1 := rfl
    have e3 : (⟨#[41]⟩ : ByteArray).size = 1 := rfl
    omega
  · obtain ⟨X, g1, g2, g3, g4, g5, g6⟩ := sel_good htb hx
    have hg : GoodS x X := ⟨g1, g6, g2, g4, g5⟩
    obtain ⟨n1, n2⟩ := okNm hn (by decide +kernel)
    obtain ⟨a1, a2, a3⟩ := tags_all ht.2
    have hts := tags_size ht.2 (by have := ht.1; omega)
    refine ⟨_, fun Q w s hI hR => fShow_view (m := ⟨3, ⟨#[]⟩, n, [], tg, [], [], ⟨#[]⟩, [], [], [], false⟩) rfl hR hg.inner a2 (by show n.size + (tasB tg).size + X.size ≤ 900000; omega) hI, view_ren (m := ⟨3, ⟨#[]⟩, n, [], tg, [], [], ⟨#[]⟩, [], [], [], false⟩) a1 g4, .inr (.inr (.inr (.inl ⟨n, tg, x, a1, g2, g3, rfl⟩))), .cons (okK rfl) (.cons (okK rfl) (.cons n1 (.cons (okK rfl) (a3.app (.cons (okK rfl) g5))))), ?_⟩
    show (((((⟨#[99, 114, 101, 97, 116, 101, 32, 118, 105, 101, 119, 32]⟩ ++ n) ++ ⟨#[32, 115, 116, 114, 105, 112]⟩) ++ tasB tg) ++ ⟨#[32, 97, 115, 32]⟩) ++ X).size ≤ 200000
    rw [ByteArray.size_append, ByteArray.size_append, ByteArray.size_append, ByteArray.size_append, ByteArray.size_append]
    have e1 : (⟨#[99, 114, 101, 97, 116, 101, 32, 118, 105, 101, 119, 32]⟩ : ByteArray).size = 12 := rfl
    have e2 : (⟨#[32, 115, 116, 114, 105, 112]⟩ : ByteArray).size = 6 := rfl
    have e3 : (⟨#[32, 97, 115, 32]⟩ : ByteArray).size = 4 := rfl
    omega
  · obtain ⟨X, hg⟩ := data_good hx
    obtain ⟨n1, n2⟩ := okNm hn (by decide +kernel)
    obtain ⟨a1, a2, a3⟩ := tags_all ht.2
    have hts := tags_size ht.2 (by have := ht.1; omega)
    have hXs := hg.less
    refine ⟨_, fun Q w s hI hR => fShow_closure (m := ⟨4, ⟨#[]⟩, n, [], tg, [], [], ⟨#[]⟩, [], [], [], false⟩) rfl hR hg.inner a2 (by show n.size + (tasB tg).size + X.size ≤ 900000; omega) hI, closure_ren (m := ⟨4, ⟨#[]⟩, n, [], tg, [], [], ⟨#[]⟩, [], [], [], false⟩) a1 hg.text, .inr (.inr (.inr (.inr (.inl ⟨n, tg, x, a1, hg.sm, h6, rfl⟩)))), .cons (okK rfl) (.cons (okK rfl) (.cons n1 (.cons (okK rfl) (a3.app (.cons (okK rfl) hg.words))))), ?_⟩
    show (((((⟨#[99, 114, 101, 97, 116, 101, 32, 99, 108, 111, 115, 117, 114, 101, 32]⟩ ++ n) ++ ⟨#[32, 115, 116, 114, 105, 112]⟩) ++ tasB tg) ++ ⟨#[32, 97, 115, 32]⟩) ++ X).size ≤ 200000
    rw [ByteArray.size_append, ByteArray.size_append, ByteArray.size_append, ByteArray.size_append, ByteArray.size_append]
    have e1 : (⟨#[99, 114, 101, 97, 116, 101, 32, 99, 108, 111, 115, 117, 114, 101, 32]⟩ : ByteArray).size = 15 := rfl
    have e2 : (⟨#[32, 115, 116, 114, 105, 112]⟩ : ByteArray).size = 6 := rfl
    have e3 : (⟨#[32, 97, 115, 32]⟩ : ByteArray).size = 4 := rfl
    omega
  · rcases hk with rfl | rfl | rfl
    · exact ⟨⟨#[98, 101, 103, 105, 110]⟩, fun Q w s hI _ => fShow_begin (m := sm 9) rfl hI, rfl, .inr (.inr (.inr (.inr (.inr (.inl ⟨9, .inl rfl, rfl⟩))))), .cons (okK rfl) .nil, by decide⟩
    · exact ⟨⟨#[99, 111, 109, 109, 105, 116]⟩, fun Q w s hI _ => fShow_commit (m := sm 10) rfl hI, rfl, .inr (.inr (.inr (.inr (.inr (.inl ⟨10, .inr (.inl rfl), rfl⟩))))), .cons (okK rfl) .nil, by decide⟩
    · exact ⟨⟨#[114, 111, 108, 108, 98, 97, 99, 107]⟩, fun Q w s hI _ => fShow_rollback (m := sm 11) rfl hI, rfl, .inr (.inr (.inr (.inr (.inr (.inl ⟨11, .inr (.inr rfl), rfl⟩))))), .cons (okK rfl) .nil, by decide⟩
  · obtain ⟨a1, a2, a3⟩ := tags_all ht
    have hts := tags_size ht hl
    refine ⟨_, fun Q w s hI _ => fShow_raise (m := ⟨12, ⟨#[]⟩, ⟨#[]⟩, [], tg, [], [], ⟨#[]⟩, [], [], [], false⟩) rfl a2 (by show (tasB tg).size ≤ 900000; omega) hI, raise_ren (m := ⟨12, ⟨#[]⟩, ⟨#[]⟩, [], tg, [], [], ⟨#[]⟩, [], [], [], false⟩) a1, .inr (.inr (.inr (.inr (.inr (.inr (.inl ⟨tg, h0, a1, rfl⟩)))))), .cons (okK rfl) a3, ?_⟩
    show (⟨#[114, 97, 105, 115, 101]⟩ ++ tasB tg).size ≤ 200000
    rw [ByteArray.size_append]
    have e1 : (⟨#[114, 97, 105, 115, 101]⟩ : ByteArray).size = 5 := rfl
    omega
  · obtain ⟨n1, n2⟩ := okNm hn (by decide +kernel)
    refine ⟨_, fun Q w s hI _ => fShow_call (m := ⟨13, ⟨#[]⟩, n, [], [], [], [], ⟨#[]⟩, [], [], [], false⟩) rfl (by show n.size ≤ 900000; omega) hI, call_ren ⟨13, ⟨#[]⟩, n, [], [], [], [], ⟨#[]⟩, [], [], [], false⟩, .inr (.inr (.inr (.inr (.inr (.inr (.inr ⟨n, rfl⟩)))))), .cons (okK rfl) (.cons n1 .nil), ?_⟩
    show (⟨#[99, 97, 108, 108, 32]⟩ ++ n).size ≤ 200000
    rw [ByteArray.size_append]
    have e1 : (⟨#[99, 97, 108, 108, 32]⟩ : ByteArray).size = 5 := rfl
    omega
  · obtain ⟨X, hg⟩ := data_good hx
    exact ⟨X, hg.good⟩

end Go.Proofs.YtnboooaockgoiaaGreatDoor
namespace Go.Proofs.YtnboooaockgoiaaGreatDoor
open Go.RowKit
set_option linter.unusedVariables false

theorem fld_tabs (a b : Value) (w : World) : (Instr.field 37 (.agg #[a, b]) 0).run Tryz.prog w = .ok a w := by kernel_rfl
theorem nums_of {w : World} {a : Option Addr} {len cap : Nat} {xs : List Int} (h : Rd .u8 w a len cap xs) (hx : ∀ x ∈ xs, 0 ≤ x ∧ x ≤ 255) : Nums w w.heap.size a len := fun hp => by
  obtain ⟨b, o, ha, hc⟩ := h.cells hp
  have hb : b < w.heap.size := World.block_lt_of_cell? _ _ (hc 0 hp)
  refine ⟨b, o, ha, hb, hb, fun k hk => ?_⟩
  have hk' : k < xs.length := by rw [h.len]; exact hk
  have hm : nth xs k ∈ xs := by rw [nth, List.getElem?_eq_getElem hk']; exact List.getElem_mem _
  exact ⟨nth xs k, (hx _ hm).1, (hx _ hm).2, hc k hk⟩

set_option maxRecDepth 100000 in
set_option maxHeartbeats 1000000 in
theorem made_any {w : World} {a : Option Addr} {len cap : Nat} (h1 : len ≤ cap) (h2 : cap ≤ 9223372036854775807) (h3 : Nums w w.heap.size a len) :
    Calls Tryz.prog 7 #[.slice a len cap] w fun e w' => e = .returned (.pointer (some ⟨w.heap.size, 0, none⟩)) ∧ Pk w' w.heap.size len ∧ Below w.heap.size w w' := by
  have hb := bal (Below.refl _ w) (.cells #[.slice a len cap, .int .i64 ((0 : Nat) : Int)] 60)
  have hp : Pk (w.alloc (.cells #[.slice a len cap, .int .i64 ((0 : Nat) : Int)] 60)) w.heap.size len := ⟨a, len, cap, 0, ⟨heap_alloc_new w _⟩, by omega, h1, h2, h3.keep (by have := hb.size; omega) fun k hk => hb.block k hk⟩
  have T : Hid _ := hid (And.intro hp hb)
  clear hp hb h3
  go_enter Tryz.func7, Tryz.ntmps7
  go_wp2
  go_ret
  exact ⟨rfl, T.out.1, T.out.2⟩

end Go.Proofs.YtnboooaockgoiaaGreatDoor
namespace Go.Proofs.YtnboooaockgoiaaGreatDoor
open Go.RowKit
set_option linter.unusedVariables false
set_option linter.unusedSimpArgs false

set_option maxRecDepth 100000 in
set_option maxHeartbeats 8000000 in
theorem showAll_any {a : Option Addr} {len cap : Nat} (x1 : UInt8) {w : World} (he : Ev w.heap.size w) (h1 : len ≤ cap) (h2 : cap ≤ 9223372036854775807) (h3 : Nums w w.heap.size a len) :
    Calls Tryz.prog 3 #[.slice a len cap, .int .u8 (x1.toNat : Int)] w fun e w' => e = .returned (.bool true) ∧ Below w.heap.size w w' := by
  have HB : Hid _ := hid (begun8_any he)
  have HEv : Hid (∀ w', Below w.heap.size w w' → Ev w'.heap.size w') := hid fun w' hb => he.up2 hb hb.size
  clear he
  have hfld := fld_tabs
  obtain ⟨d, hd, hd'⟩ : ∃ r : Nat, r < 3 ∧ x1.toNat % 3 = r := ⟨_, Nat.mod_lt _ (by decide), rfl⟩
  have b1 : x1.toNat < 256 := x1.toNat_lt
  have t1 : (x1.toNat : Int).tmod 3 = (d : Int) := by rw [Int.tmod_eq_emod_of_nonneg (by omega)]; omega
  have g1 : (x1.toNat : Int) % 3 = (d : Int) := by omega
  go_enter Tryz.func3, Tryz.ntmps3
  go_wp2_with fail
  refine Calls.mono HB.out ?_
  rintro e w1 ⟨rfl, hb1⟩
  clear HB hd'
  by_cases h50 : 100 < len
  · have g50 : decide ((100 : Int) < (len : Int)) = true := by simp; omega
    have g51 : decide (100 < len) = true := by simpa using h50
    go_wp2
    go_ret
    exact ⟨rfl, hb1⟩
  have g50 : decide ((100 : Int) < (len : Int)) = false := by simp; omega
  have g51 : decide (100 < len) = false := by simpa using h50
  have hN1 : Nums w1 w1.heap.size a len := fun hp => by
    obtain ⟨b, o, e, hb, hl, hz⟩ := h3 hp
    refine ⟨b, o, e, by have := hb1.size; omega, by have := hb1.size; omega, fun k hk => ?_⟩
    obtain ⟨z, z0, z1, hc⟩ := hz k hk
    exact ⟨z, z0, z1, cell_later hb1 hc⟩
  have HM : Hid _ := hid (made_any h1 h2 hN1)
  clear hN1 h3
  go_wp2_with fail
  refine Calls.mono HM.out ?_
  rintro e w2 ⟨rfl, hp2, hb2⟩
  have hB2 := Below.on hb1 hb2
  have hs1 := hb1.size
  have hgl := hp2.lt
  generalize w1.heap.size = g at *
  clear HM hb1 hb2 w1
  have HS : Hid _ := hid (schema_any w2)
  go_wp2_with fail
  refine Calls.mono HS.out ?_
  rintro e w3 ⟨bt, rfl, hT, hbt, hb3⟩
  obtain ⟨hbl, -, -, ⟨xa, xn, xc, ya, yn, yc, q0, q1, q2, rT⟩, -⟩ := hT.tabs
  have HC : Hid _ := hid (playCols_any (nm := ⟨#[116]⟩) (a' := ya) (n' := yn) (c' := yc) rT (by decide))
  have hB3 := Below.on hB2 hb3
  have hp3 := hp2.later hb3
  have hg3 := hp3.lt
  clear HS hT hb3 rT hp2 hB2
  go_wp2_with fail
  clear hfld
  refine Calls.mono HC.out ?_
  rintro e w4 ⟨v1, v2, rfl, ho1, ho2, -, hb4⟩
  have ho1' : OwnR 64 3 w3.heap.size w4 v1 ((colsOf tabT).map fun x => itC x.1) := by rw [colsOf, List.map_map]; exact ho1
  have ho2' : OwnR 3 1 w3.heap.size w4 v2 ((colsOf tabT).map fun x => [.int .i64 x.2]) := by rw [colsOf, List.map_map]; exact ho2
  obtain ⟨i1, m1, j1, rfl⟩ := ho1'.sl
  obtain ⟨i2, m2, j2, rfl⟩ := ho2'.sl
  obtain ⟨hone, htwo, hl3⟩ := has1 (tb := tabT) (.inl rfl)
  obtain ⟨e5, e6, hC4⟩ := Cols.of (g := g) ho1' ho2' hg3 (by omega) hone htwo
  subst e5
  subst e6
  have hp4 := hp3.later hb4
  have hB4 := Below.on hB3 hb4
  clear HC ho1 ho2 ho1' ho2' hone htwo hl3 hb4 hB3 hp3 q0 q1 q2 hbl hbt hg3
  generalize hCC : colsOf tabT = CC at *
  have hgl4 := hp4.lt
  go_upto_region 7 with fail
  go_cut [8] (fun v8 w' => ∃ q o p ao n c t r', v8 = .pointer (some ⟨q, 0, none⟩) ∧ Be w' q o p (.slice ao n c) ∧ Ex (fun b => b ≠ g) w' t (exV o p (.slice ao n c)) ∧ q ≠ g ∧ Pl CC 5 ((1 : Int) + (d : Int)) t ∧ Pk w' g r' ∧ Below w.heap.size w w')
  case first =>
    have hk3 : ((1 : Int) + (d : Int) = 1 ∨ (1 : Int) + (d : Int) = 2 ∨ ((1 : Int) + (d : Int) = 3 ∧ 0 < 5)) := by omega
    have HE : Hid _ := hid (play_any 5 ((1 : Int) + (d : Int)) 0 hp4 hC4 hk3 rfl)
    clear hp4 hC4
    go_wp2_with fail
    refine Calls.mono HE.out ?_
    rintro e w5 ⟨o, p, ao, n, c, t, r', rfl, hX, -, hp5, hb5, hx⟩
    have hB5 : Below w.heap.size w w5 := hb5.below hB4 (by omega) (by omega)
    have hg5 := hp5.lt
    have T1 : Hid _ := hid (Be.new w5 o p (.slice ao n c))
    have T2 : Hid _ := hid (bal (Below.refl _ w5) (.cells #[.int .i64 o, .int .i64 p.1, .int .i64 p.2.1, .string p.2.2.1, .string p.2.2.2.1, .string p.2.2.2.2, .slice ao n c] 43))
    have T3 : Hid _ := hid (hp5.alloc (.cells #[.int .i64 o, .int .i64 p.1, .int .i64 p.2.1, .string p.2.2.1, .string p.2.2.2.1, .string p.2.2.2.2, .slice ao n c] 43))
    have T4 : Hid (Ex (fun b => b ≠ g) _ t (exV o p (.slice ao n c))) := hid ((hx.mono (Q' := fun b => b ≠ g) fun b hb _ => by omega).later T2.out)
    clear HE hb5 hp5 hB4 hx
    unfold exV
    go_wp2_with fail
    go_meet
    exact ⟨_, o, p, ao, n, c, t, r', rfl, T1.out, T4.out, by omega, hX, T3.out, Below.on hB5 T2.out⟩
  case rest =>
  obtain ⟨q, o, p, ao, n, c, t, r', rfl, hq, hx, hqg, hP, hp5, hB5⟩ := hcut
  clear hp4 hC4 hB4 hgl4
  subst hCC
  have hg5 := hp5.lt
  have hcn := pl_cn hP
  have hw := pl_words nmC_T hP
  have hwf := pl_wf nmC_T hP
  have hzt : (shE t).size ≤ 1000 := Nat.le_trans (pl_size nmC_T hP) (by decide)
  have HS : Hid _ := hid (playStmt_any hp5)
  go_upto_region 8 with fail
  go_cut [9] (fun v9 w' => ∃ q9 s m, v9 = .pointer (some ⟨q9, 0, none⟩) ∧ Bs w' q9 s ∧ IsS (fun b => True) w' m.1 s ∧ RowIs eStmt (fun b => True) w' (slV s.inn) m.2 ∧ StOK m ∧ Be w' q o p (.slice ao n c) ∧ Ex (fun b => b ≠ g) w' t (exV o p (.slice ao n c)) ∧ Below w.heap.size w w')
  case first =>
    go_wp2_with fail
    refine Calls.mono HS.out ?_
    rintro e u ⟨s, m, r2, rfl, hm, -, -, hb6, hI, hR⟩
    have hB6 : Below w.heap.size w u := hb6.below hB5 (by omega) (by omega)
    have hq6 := hq.but hb6 hqg
    have hx6 := hx.keep fun k hk hl => hb6.block k hl hk
    obtain ⟨sk, stb, snm, sco, sta, sva, sit, sjn, son, swh, sod, sds, sinn⟩ := s
    have T2 := bal (Below.refl _ u) (svO ⟨sk, stb, snm, sco, sta, sva, sit, sjn, son, swh, sod, sds, sinn⟩)
    have T : Hid _ := hid (And.intro (Bs.new u ⟨sk, stb, snm, sco, sta, sva, sit, sjn, son, swh, sod, sds, sinn⟩) (And.intro ((hI.mono (Q' := fun _ => True) fun _ _ _ => trivial).keep fun b _ hl => T2.block b hl) (And.intro ((hR.mono (by decide) (Q' := fun _ => True) fun _ _ _ => trivial).keep (by decide) fun b _ hl => T2.block b hl) (And.intro (hq6.later T2) (And.intro (hx6.later T2) (Below.on hB6 T2))))))
    clear HS hb6 hI hR hB5 hB6 T2 hq6 hx6 hq hx hp5
    unfold stV
    dsimp only
    go_wp2_with fail
    go_meet
    exact ⟨_, _, m, rfl, T.out.1, T.out.2.1, T.out.2.2.1, hm, T.out.2.2.2.1, T.out.2.2.2.2.1, T.out.2.2.2.2.2⟩
  case rest =>
  clear HS hq hx hp5 hB5 hg5
  obtain ⟨q9, s, m, rfl, hq9, hI, hR, hm, hq, hx, hB⟩ := hcut
  obtain ⟨X, hg⟩ := st_good hm
  obtain ⟨pk, pi, pt, pb, pn⟩ := p
  have H1 : Hid (∀ w1, Below wc.heap.size wc w1 → _) := hid fun w1 hb => showE_any (HEv.out w1 (Below.on hB hb)) (wfS_of hcn hw) (by omega) (hx.later hb)
  have H2 : Hid (∀ w1, Below wc.heap.size wc w1 → _) := hid fun w1 hb => show_expr t hwf (by omega) _ w1 _ (hx.later hb)
  have hzX := hg.few
  have H3 : Hid (∀ w1, Below wc.heap.size wc w1 → _) := hid fun w1 hb => showS_any (HEv.out w1 (Below.on hB hb)) (hI.keep fun b _ hl => hb.block b hl) (hR.keep (by decide) fun b _ hl => hb.block b hl) (whl_of hg.sf hg.words) hg.sf hg.words hg.text (by omega)
  have H4 : Hid (∀ w1, Below wc.heap.size wc w1 → _) := hid fun w1 hb => hg.shows _ w1 _ (hI.keep fun b _ hl => hb.block b hl) (hR.keep (by decide) fun b _ hl => hb.block b hl)
  obtain ⟨sk, stb, snm, sco, sta, sva, sit, sjn, son, swh, sod, sds, sinn⟩ := s
  generalize shE t = sE at *
  have k0 := hq9.c0
  have k1 := hq9.c1
  have k2 := hq9.c2
  have k3 := hq9.c3
  have k4 := hq9.c4
  have k5 := hq9.c5
  have k6 := hq9.c6
  have k7 := hq9.c7
  have k8 := hq9.c8
  have k9 := hq9.c9
  have k10 := hq9.c10
  have k11 := hq9.c11
  have k12 := hq9.c12
  obtain ⟨a0, a1, a2, a3, a4, a5, a6⟩ := hq.cells
  unfold stV at H3 H4
  unfold exV at H2
  dsimp only at H1 H2 H3 H4 k0 k1 k2 k3 k4 k5 k6 k7 k8 k9 k10 k11 k12 a1 a2 a3 a4 a5
  have hC : Below wc.heap.size wc wc.drew := (Below.refl _ wc).drew
  clear hg hm hI hR hq9 hq hx hcn hw hwf hP HEv g50 g51 t1 g1 hd b1 h1 h2 h50
  go_upto_region 9 with fail
  go_region_held (fun w' => w'.cell? ⟨q, 0, none⟩ = some (.int .i64 o) ∧ w'.cell? ⟨q, 1, none⟩ = some (.int .i64 pk) ∧ w'.cell? ⟨q, 2, none⟩ = some (.int .i64 pi) ∧ w'.cell? ⟨q, 3, none⟩ = some (.string pt) ∧ w'.cell? ⟨q, 4, none⟩ = some (.string pb) ∧ w'.cell? ⟨q, 5, none⟩ = some (.string pn) ∧ w'.cell? ⟨q, 6, none⟩ = some (.slice ao n c) ∧ w'.cell? ⟨q9, 0, none⟩ = some (.int .i64 sk) ∧ w'.cell? ⟨q9, 1, none⟩ = some (.string stb) ∧ w'.cell? ⟨q9, 2, none⟩ = some (.string snm) ∧ w'.cell? ⟨q9, 3, none⟩ = some (.slice sco.1 sco.2.1 sco.2.2) ∧ w'.cell? ⟨q9, 4, none⟩ = some (.slice sta.1 sta.2.1 sta.2.2) ∧ w'.cell? ⟨q9, 5, none⟩ = some (.slice sva.1 sva.2.1 sva.2.2) ∧ w'.cell? ⟨q9, 6, none⟩ = some (.slice sit.1 sit.2.1 sit.2.2) ∧ w'.cell? ⟨q9, 7, none⟩ = some (.string sjn) ∧ w'.cell? ⟨q9, 8, none⟩ = some (.slice son.1 son.2.1 son.2.2) ∧ w'.cell? ⟨q9, 9, none⟩ = some (.slice swh.1 swh.2.1 swh.2.2) ∧ w'.cell? ⟨q9, 10, none⟩ = some (.slice sod.1 sod.2.1 sod.2.2) ∧ w'.cell? ⟨q9, 11, none⟩ = some (.bool sds) ∧ w'.cell? ⟨q9, 12, none⟩ = some (.slice sinn.1 sinn.2.1 sinn.2.2))
    (first | exact ⟨cell_later hC a0, cell_later hC a1, cell_later hC a2, cell_later hC a3, cell_later hC a4, cell_later hC a5, cell_later hC a6, cell_later hC k0, cell_later hC k1, cell_later hC k2, cell_later hC k3, cell_later hC k4, cell_later hC k5, cell_later hC k6, cell_later hC k7, cell_later hC k8, cell_later hC k9, cell_later hC k10, cell_later hC k11, cell_later hC k12⟩)
    (first
    | (go_at_call 12; with_reducible refine Calls.mono (H1.out _ hC) ?_; rintro e z1 ⟨rfl, hb1⟩; replace hC := Below.on hC hb1)
    | (go_at_call 13; with_reducible refine Calls.mono (H2.out _ hC) ?_; rintro e z1 ⟨rfl, hb1⟩; replace hC := Below.on hC hb1)
    | (go_at_call 14; with_reducible refine Calls.mono (H3.out _ hC) ?_; rintro e z1 ⟨rfl, hb1⟩; replace hC := Below.on hC hb1)
    | (go_at_call 15; with_reducible refine Calls.mono (H4.out _ hC) ?_; rintro e z1 ⟨rfl, hb1⟩; replace hC := Below.on hC hb1))
  all_goals
    go_wp2
    go_ret
    exact ⟨rfl, Below.on hB hC⟩

end Go.Proofs.YtnboooaockgoiaaGreatDoor
