import Derived.Test.YtnboooaockgoiaaGreatDoorPbj
import Derived.Test.YtnboooaockgoiaaGreatDoorPap
namespace Go.Proofs.YtnboooaockgoiaaGreatDoor
open Go.RowKit
set_option linter.unusedVariables false
set_option linter.unusedSimpArgs false

theorem Md.fill {α : Type} {R : List Tk → Re Sm} {P : List Tk → Re α} {G : Sm → Nat → Prop} {H : α → Nat → Prop} (hR : Md R G) (hP : Md P H) (f : Sm → α → Sm) : Md (fun ts => fillR P f (R ts)) (fun m u => ∃ m0 x u1 u2, G m0 u1 ∧ H x u2 ∧ m = f m0 x ∧ u = u1 + u2) :=
  (hR.bind fun m => hP.map (f m)).mono fun t u ⟨m0, u1, u2, h1, ⟨x, h2, h3⟩, h4⟩ => ⟨m0, x, u1, u2, h1, h2, h3, h4⟩
theorem Md.want {α : Type} {R : List Tk → Re α} {G : α → Nat → Prop} (hR : Md R G) (s : ByteArray) : Md (fun ts => wantR s (R ts)) (fun m u => ∃ u1, G m u1 ∧ u = u1 + 3) :=
  (hR.bind (f := fun x r => if isTk s r then .inr (x, r.tail) else .inl (atOf r, 5)) fun x => Md.disp (s := s) (P := fun r => .inr (x, r)) (Q := fun r => .inl (atOf r, 5)) (Md.ret x) (Md.fail fun _ _ => False)).mono fun t u ⟨x, u1, u2, h1, h2, h3⟩ => by
    rcases h2 with ⟨u3, ⟨rfl, rfl⟩, rfl⟩ | h2
    · exact ⟨u1, h1, by omega⟩
    · exact h2.elim
theorem md_start (k : Int) : Md (fun ts => startR k (.inr ts)) (fun m u => m = sm k ∧ u = 0) := Md.ret (sm k)

/-- Columns, tags, items that were read. -/
def KG (c : Co) (u : Nat) : Prop := CoOK c ∧ (∀ k, AllP (pcCol k c)) ∧ 4 ≤ u
theorem md_col : Md colP KG := by
  refine (md_seq md_name (md_seq (md_choice opsKind) (md_opt md_name))).mono fun c u h => ?_
  obtain ⟨n, x, u1, u2, ⟨hn, rfl⟩, ⟨kd, rf, u3, u4, ⟨⟨c0, hc0, rfl⟩, rfl⟩, h2, rfl, rfl⟩, rfl, rfl⟩ := h
  have hk : c0.2 = 1 ∨ c0.2 = 2 := by
    simp [opsKind] at hc0
    rcases hc0 with rfl | rfl
    · exact .inl rfl
    · exact .inr rfl
  have hkw : WdOK (kw (kindW c0.2)) := by
    rcases hk with e | e <;> rw [e]
    · exact okK rfl
    · exact okK rfl
  refine ⟨hk, fun k => ?_, by omega⟩
  show AllP ((k, nm n) :: (1, kw (kindW c0.2)) :: (if rf = ⟨#[]⟩ then [] else [(1, kw ⟨#[114, 101, 102]⟩), (1, nm rf)]))
  refine AllP.cons hn (AllP.cons hkw ?_)
  rcases h2 with ⟨u5, ⟨h2, _⟩, _⟩ | ⟨rfl, _⟩
  · split
    · exact AllP.nil
    · exact AllP.cons (okK rfl) (AllP.cons h2 AllP.nil)
  · rw [if_pos rfl]
    exact AllP.nil
def GG (z : Int) (u : Nat) : Prop := TaOK z ∧ 1 ≤ u
theorem tag_word {z : Int} (h : TaOK z) : WdOK (3, ⟨#[]⟩, z) := by
  obtain ⟨k, rfl⟩ := Int.eq_ofNat_of_zero_le h.1
  exact .num k ⟨by omega, by have := h.2; omega⟩
theorem md_tag : Md tagP GG := fun ts t r ho e => by
  cases ts with
  | nil => cases e
  | cons a ts =>
    have e' : (if a.1 = 3 then (if 65535 < a.2.2.1 then (.inl (a.2.2.2, 3) : Re Int) else .inr (IntKind.u16.wrap a.2.2.1, ts)) else .inl (a.2.2.2, 5)) = .inr (t, r) := e
    split at e'
    · rename_i h3
      split at e'
      · cases e'
      · rename_i h6
        cases e'
        have hw := (ho a (by simp)).resolve_left (by omega)
        rw [wd3 hw h3] at hw
        have h0 := ok_num hw
        have h0' : 0 ≤ a.2.2.1 := h0.1
        have ew : IntKind.u16.wrap a.2.2.1 = a.2.2.1 := by rw [IntKind.wrap_u16]; omega
        rw [ew]
        exact ⟨fun x hx => ho x (by simp [hx]), 3, ⟨⟨h0', by omega⟩, by omega⟩, by simp; omega⟩
    · cases e'
def JG (x : It) (u : Nat) : Prop := ItOK x ∧ (∀ k, AllP (pcItem k x)) ∧ (pcItem 0 x).length ≤ u
theorem item_len (k : Nat) (x : It) : (pcItem k x).length = (pcItem 0 x).length := by
  unfold pcItem
  split
  · rw [← List.length_map Prod.snd, pcE_words, ← pcE_words _ 0, List.length_map]
  split <;> rfl
theorem md_item : Md itemP JG := by
  refine (Md.disp (α := It) (s := ⟨#[99, 111, 117, 110, 116]⟩) (P := seqP (fun _ _ => ((1, ⟨#[]⟩, ⟨#[]⟩) : It)) (wantU ⟨#[40]⟩) (seqP (fun _ _ => ()) (wantU ⟨#[42]⟩) (wantU ⟨#[41]⟩))) (md_seq (md_want _) (md_seq (md_want _) (md_want _)))
    (Md.ops opsAgg (P := fun z ts => seqP (fun _ x => itemC z x) (wantU ⟨#[40]⟩) (seqP (fun x _ => x) columnP (wantU ⟨#[41]⟩)) ts) (fun z => md_seq (md_want _) (md_seq md_column (md_want _))) (md_column.map (itemC 0)))).mono fun x u h => ?_
  rcases h with ⟨u1, ⟨_, _, u2, u3, rfl, ⟨_, _, u4, u5, rfl, rfl, _, rfl⟩, rfl, rfl⟩, rfl⟩ | ⟨z, u1, ⟨c, hc, rfl⟩, ⟨_, y, u2, u3, rfl, ⟨t, _, u4, u5, ⟨⟨a, n, rfl⟩, hE⟩, rfl, rfl, rfl⟩, rfl, rfl⟩, rfl⟩ | ⟨t, ⟨⟨a, n, rfl⟩, hE⟩, rfl⟩
  · refine ⟨.inr (.inl rfl), fun k => ?_, by show 4 ≤ _; omega⟩
    exact AllP.cons (okK rfl) (AllP.cons (okS 40 rfl) (AllP.cons (okS 42 rfl) (AllP.cons (okS 41 rfl) AllP.nil)))
  · have hz : c.2 = 2 ∨ c.2 = 3 ∨ c.2 = 4 := by
      simp [opsAgg] at hc
      rcases hc with rfl | rfl | rfl
      · exact .inl rfl
      · exact .inr (.inl rfl)
      · exact .inr (.inr rfl)
    have hkw : WdOK (kw (aggW c.2)) := by
      rcases hz with e | e | e <;> rw [e]
      · exact okK rfl
      · exact okK rfl
      · exact okK rfl
    have e : ∀ k, pcItem k (itemC c.2 (tCol a n)) = (k, kw (aggW c.2)) :: (0, sg ⟨#[40]⟩) :: (pcE 0 (tCol a n) ++ [(0, sg ⟨#[41]⟩)]) := fun k => by
      show (if c.2 = 0 then _ else if c.2 = 1 then _ else _) = _
      rw [if_neg (by omega), if_neg (by omega)]
      rfl
    refine ⟨.inr (.inr hz), fun k => ?_, ?_⟩
    · rw [e]
      exact AllP.cons hkw (AllP.cons (okS 40 rfl) ((AllP.expr hE.2.1 0).app (AllP.cons (okS 41 rfl) AllP.nil)))
    · rw [e]
      have := hE.2.2
      rw [← pcE_words _ 0, List.length_map] at this
      simp only [List.length_cons, List.length_append, List.length_nil]
      omega
  · refine ⟨.inl rfl, fun k => ?_, ?_⟩
    · show AllP (pcE k (tCol a n))
      exact AllP.expr hE.2.1 k
    · show (pcE 0 (tCol a n)).length ≤ _
      have := hE.2.2
      rw [← pcE_words _ 0, List.length_map] at this
      exact this
/-- Pieces of lists. -/
theorem jpT_len {α : Type} {g : Nat → α → List Pc} {n : α → Nat} : ∀ (l : List α), (∀ y ∈ l, (g 1 y).length ≤ n y) → (jpT g l).length ≤ (l.map fun x => n x + 1).sum
  | [], _ => Nat.zero_le _
  | y :: l, h => by
    have h1 := jpT_len l fun z hz => h z (by simp [hz])
    have h2 := h y (by simp)
    rw [jpT, List.map_cons, List.sum_cons, List.length_cons, List.length_append]
    omega
theorem jp_len {α : Type} {g : Nat → α → List Pc} {n : α → Nat} {k : Nat} {l : List α} (h0 : l ≠ []) (h : ∀ y ∈ l, ∀ k, (g k y).length ≤ n y) : (jp g k l).length + 1 ≤ (l.map fun x => n x + 1).sum := by
  cases l with
  | nil => exact absurd rfl h0
  | cons y l =>
    have h1 := jpT_len (g := g) (n := n) l fun z hz => h z (by simp [hz]) 1
    have h2 := h y (by simp) k
    rw [jp, List.map_cons, List.sum_cons, List.length_append]
    omega
theorem pcE_len (k : Nat) (t : Tr) : (pcE k t).length = (wdE t).length := by rw [← pcE_words t k, List.length_map]
/-- Lists of expressions, that were read. -/
abbrev EL (l : List Tr) (u : Nat) : Prop := LG (fun t => (∃ d, Cn d t) ∧ ∀ w ∈ wdE t, WdOK w) (fun t => (wdE t).length) l u
theorem md_exprs : Md (brP (exprP 64)) (fun l u => ∃ u1, EL l u1 ∧ u = u1 + 6) := md_br (md_expr 64) fun x u h => ⟨⟨h.1, h.2.1⟩, h.2.2⟩
theorem EL.pcs {l : List Tr} {u k : Nat} (h : EL l u) : AllP (jp pcE k l) ∧ (jp pcE k l).length ≤ u ∧ ∀ t ∈ l, CnD True t := by
  obtain ⟨h0, h1, h2⟩ := h
  refine ⟨AllP.jp fun y hy k => AllP.expr (h1 y hy).2 k, ?_, fun t ht => ?_⟩
  · have := jp_len (g := pcE) (n := fun t => (wdE t).length) (k := k) h0 fun y _ k => Nat.le_of_eq (pcE_len k y)
    exact Nat.le_of_succ_le_succ (Nat.le_trans this h2)
  · obtain ⟨d, hd⟩ := (h1 t ht).1
    exact ⟨d, hd, .inr trivial⟩
def WG (l : List Tr) (u : Nat) : Prop := One True l ∧ AllP (pcWh l) ∧ (pcWh l).length ≤ u
theorem md_behind : Md behindP WG := by
  refine (md_opt (s := ⟨#[119, 104, 101, 114, 101]⟩) (z := []) ((md_expr 64).map fun x => [x])).mono fun l u h => ?_
  rcases h with ⟨u1, ⟨t, ⟨⟨d, hd⟩, hw, hn⟩, rfl⟩, rfl⟩ | ⟨rfl, rfl⟩
  · refine ⟨.inr ⟨t, rfl, d, hd, .inr trivial⟩, AllP.cons (okK rfl) (AllP.expr hw 1), ?_⟩
    show ((1, kw ⟨#[119, 104, 101, 114, 101]⟩) :: pcE 1 t).length ≤ _
    rw [List.length_cons, pcE_len]
    omega
  · exact ⟨.inl rfl, AllP.nil, Nat.zero_le _⟩
theorem CG.pcs {t : Tr} {u : Nat} (h : CG t u) : IsCol t ∧ (∀ k, AllP (pcE k t)) ∧ ∀ k, (pcE k t).length ≤ u := ⟨h.1, fun k => AllP.expr h.2.2.1 k, fun k => by rw [pcE_len]; exact h.2.2.2⟩
def OG (x : ByteArray × List Tr) (u : Nat) : Prop := JoOK x.1 x.2 ∧ AllP (pcJoin x.1 x.2) ∧ (pcJoin x.1 x.2).length ≤ u
theorem md_join : Md joinP OG := by
  refine (md_opt (s := ⟨#[106, 111, 105, 110]⟩) (z := (⟨#[]⟩, [])) (md_seq (f := Prod.mk) md_name (md_seq (f := fun _ l => l) (md_want ⟨#[111, 110]⟩) (md_seq (f := fun a b => [a, b]) md_column (md_seq (f := fun _ b => b) (md_want ⟨#[61]⟩) md_column))))).mono fun x u h => ?_
  rcases h with ⟨u0, ⟨j, l, u1, u2, ⟨hj, rfl⟩, ⟨_, l2, u3, u4, rfl, ⟨a, b, u5, u6, ha, ⟨_, b2, u7, u8, rfl, hb, rfl, rfl⟩, rfl, rfl⟩, rfl, rfl⟩, rfl, rfl⟩, rfl⟩ | ⟨rfl, rfl⟩
  · obtain ⟨a1, a2, a3⟩ := ha.pcs
    obtain ⟨b1, b2, b3⟩ := hb.pcs
    refine ⟨.inr ⟨_, _, rfl, a1, b1⟩, ?_, ?_⟩
    · exact AllP.cons (okK rfl) (AllP.cons hj (AllP.cons (okK rfl) ((a2 1).app (AllP.cons (okS 61 rfl) (b2 1)))))
    · show ((1, kw ⟨#[106, 111, 105, 110]⟩) :: (1, nm j) :: (1, kw ⟨#[111, 110]⟩) :: (pcE 1 _ ++ (1, sg ⟨#[61]⟩) :: pcE 1 _)).length ≤ _
      have := a3 1
      have := b3 1
      simp only [List.length_cons, List.length_append]
      omega
  · exact ⟨.inl ⟨rfl, rfl⟩, AllP.nil, Nat.zero_le _⟩
def RG (x : List Tr × Bool) (u : Nat) : Prop := OrOK x.2 x.1 ∧ AllP (pcOrd x.2 x.1) ∧ (pcOrd x.2 x.1).length ≤ u
theorem md_desc : Md descP (fun d u => d = true ∧ u = 3 ∨ d = false ∧ u = 0) := by
  have e : descP = fun ts => if isTk ⟨#[100, 101, 115, 99]⟩ ts then (fun ts => (.inr (true, ts) : Re Bool)) ts.tail else (fun ts => .inr (false, ts)) ts := by
    funext ts
    rw [descP]
    cases isTk ⟨#[100, 101, 115, 99]⟩ ts <;> rfl
  rw [e]
  refine (Md.disp (Md.ret true) (Md.ret false)).mono fun d u h => ?_
  rcases h with ⟨u1, ⟨rfl, rfl⟩, rfl⟩ | ⟨rfl, rfl⟩
  · exact .inl ⟨rfl, rfl⟩
  · exact .inr ⟨rfl, rfl⟩
theorem md_ord : Md ordP RG := by
  refine (md_opt (s := ⟨#[111, 114, 100, 101, 114]⟩) (z := ([], false)) (md_seq (f := Prod.mk) (md_seq (f := fun _ l => l) (md_want ⟨#[98, 121]⟩) (md_column.map fun x => [x])) md_desc)).mono fun x u h => ?_
  rcases h with ⟨u0, ⟨l, d, u1, u2, ⟨_, l2, u3, u4, rfl, ⟨t, ht, rfl⟩, rfl, rfl⟩, hd, rfl, rfl⟩, rfl⟩ | ⟨rfl, rfl⟩
  · obtain ⟨a1, a2, a3⟩ := ht.pcs
    have h1 := a3 1
    refine ⟨.inr ⟨_, rfl, a1⟩, ?_, ?_⟩
    · refine AllP.cons (okK rfl) (AllP.cons (okK rfl) ((a2 1).app ?_))
      split
      · exact AllP.cons (okK rfl) AllP.nil
      · exact AllP.nil
    · show ((1, kw ⟨#[111, 114, 100, 101, 114]⟩) :: (1, kw ⟨#[98, 121]⟩) :: (pcE 1 t ++ if d = true then [(1, kw ⟨#[100, 101, 115, 99]⟩)] else [])).length ≤ _
      rcases hd with ⟨rfl, rfl⟩ | ⟨rfl, rfl⟩
      · simp only [List.length_cons, List.length_append, if_true, List.length_nil]
        omega
      · simp only [List.length_cons, List.length_append, Bool.false_eq_true, if_false, List.length_nil]
        omega
  · exact ⟨.inl ⟨rfl, rfl⟩, AllP.nil, Nat.zero_le _⟩
def SG (l : List It) (u : Nat) : Prop := (∀ x ∈ l, ItOK x) ∧ AllP (pcStar l) ∧ (pcStar l).length ≤ u
theorem md_star : Md starP SG := by
  refine (Md.disp (s := ⟨#[42]⟩) (P := fun ts => .inr ([], ts)) (Md.ret []) (md_list (g := fun x => ItOK x ∧ ∀ k, AllP (pcItem k x)) (n := fun x => (pcItem 0 x).length) md_item fun x u h => ⟨⟨h.1, h.2.1⟩, h.2.2⟩)).mono fun l u h => ?_
  rcases h with ⟨u1, ⟨rfl, rfl⟩, rfl⟩ | ⟨h0, h1, h2⟩
  · refine ⟨fun x hx => absurd hx (by simp), ?_, ?_⟩
    · unfold pcStar
      rw [if_pos rfl]
      exact AllP.cons (okS 42 rfl) AllP.nil
    · unfold pcStar
      rw [if_pos rfl]
      show 1 ≤ _
      omega
  · refine ⟨fun x hx => (h1 x hx).1, ?_, ?_⟩
    · unfold pcStar
      rw [if_neg h0]
      exact AllP.jp fun y hy k => (h1 y hy).2 k
    · unfold pcStar
      rw [if_neg h0]
      have := jp_len (g := pcItem) (n := fun x => (pcItem 0 x).length) (k := 1) h0 fun y _ k => Nat.le_of_eq (item_len k y)
      exact Nat.le_of_succ_le_succ (Nat.le_trans this h2)
/-- A statement with none within it that was read; its first word is not counted. -/
def PG (m : Sm) (u : Nat) : Prop := SmOK True m ∧ (∀ k, AllP (pcS k m)) ∧ ∀ k, (pcS k m).length ≤ u + 3
theorem md_insert : Md insertP (fun m u => PG m u ∧ m.kind = 5) := by
  refine (Md.fill (Md.want (Md.fill (Md.want (md_start 5) ⟨#[105, 110, 116, 111]⟩) md_name up_tb) ⟨#[118, 97, 108, 117, 101, 115]⟩) md_exprs up_va).mono fun m u h => ?_
  obtain ⟨m0, vs, u1, u2, ⟨u3, ⟨m1, tb, u4, u5, ⟨u6, ⟨rfl, rfl⟩, rfl⟩, ⟨htb, rfl⟩, rfl, rfl⟩, rfl⟩, ⟨u7, hE, rfl⟩, rfl, rfl⟩ := h
  refine ⟨⟨.inl ⟨tb, vs, hE.1, (hE.pcs (k := 0)).2.2, rfl⟩, fun k => ?_, fun k => ?_⟩, rfl⟩
  · exact AllP.cons (okK rfl) (AllP.cons (okK rfl) (AllP.cons htb (AllP.cons (okK rfl) (AllP.cons (okS 40 rfl) ((hE.pcs (k := 0)).1.app (AllP.cons (okS 41 rfl) AllP.nil))))))
  · show ((k, kw ⟨#[105, 110, 115, 101, 114, 116]⟩) :: (1, kw ⟨#[105, 110, 116, 111]⟩) :: (1, nm tb) :: (1, kw ⟨#[118, 97, 108, 117, 101, 115]⟩) :: (0, sg ⟨#[40]⟩) :: (jp pcE 0 vs ++ [(0, sg ⟨#[41]⟩)])).length ≤ _
    have := (hE.pcs (k := 0)).2.1
    simp only [List.length_cons, List.length_append, List.length_nil]
    omega
theorem md_delete : Md deleteP (fun m u => PG m u ∧ m.kind = 8) := by
  refine (Md.fill (Md.fill (Md.want (md_start 8) ⟨#[102, 114, 111, 109]⟩) md_name up_tb) md_behind up_wh).mono fun m u h => ?_
  obtain ⟨m0, wh, u1, u2, ⟨m1, tb, u4, u5, ⟨u6, ⟨rfl, rfl⟩, rfl⟩, ⟨htb, rfl⟩, rfl, rfl⟩, ⟨hW, hp, hn⟩, rfl, rfl⟩ := h
  refine ⟨⟨.inr (.inr (.inr ⟨tb, wh, hW, rfl⟩)), fun k => ?_, fun k => ?_⟩, rfl⟩
  · exact AllP.cons (okK rfl) (AllP.cons (okK rfl) (AllP.cons htb hp))
  · show ((k, kw ⟨#[100, 101, 108, 101, 116, 101]⟩) :: (1, kw ⟨#[102, 114, 111, 109]⟩) :: (1, nm tb) :: pcWh wh).length ≤ _
    simp only [List.length_cons]
    omega
theorem md_update : Md updateP (fun m u => PG m u ∧ m.kind = 7) := by
  refine (Md.fill (Md.fill (Md.want (Md.fill (Md.want (Md.fill (md_start 7) md_name up_tb) ⟨#[115, 101, 116]⟩) md_name up_nm) ⟨#[61]⟩) ((md_expr 64).map fun x => [x]) up_va) md_behind up_wh).mono fun m u h => ?_
  obtain ⟨m0, wh, u1, u2, ⟨m1, vs, u3, u4, ⟨u5, ⟨m2, n, u6, u7, ⟨u8, ⟨m3, tb, u9, u10, ⟨rfl, rfl⟩, ⟨htb, rfl⟩, rfl, rfl⟩, rfl⟩, ⟨hn, rfl⟩, rfl, rfl⟩, rfl⟩, ⟨t, ⟨⟨d, hd⟩, hw, hl⟩, rfl⟩, rfl, rfl⟩, ⟨hW, hp, hnw⟩, rfl, rfl⟩ := h
  refine ⟨⟨.inr (.inr (.inl ⟨tb, n, t, wh, ⟨d, hd, .inr trivial⟩, hW, rfl⟩)), fun k => ?_, fun k => ?_⟩, rfl⟩
  · exact AllP.cons (okK rfl) (AllP.cons htb (AllP.cons (okK rfl) (AllP.cons hn (AllP.cons (okS 61 rfl) ((AllP.expr hw 1).app hp)))))
  · show ((k, kw ⟨#[117, 112, 100, 97, 116, 101]⟩) :: (1, nm tb) :: (1, kw ⟨#[115, 101, 116]⟩) :: (1, nm n) :: (1, sg ⟨#[61]⟩) :: (pcE 1 t ++ pcWh wh)).length ≤ _
    simp only [List.length_cons, List.length_append, pcE_len]
    omega
theorem md_query : Md queryP (fun m u => ∃ u1, PG m u1 ∧ m.kind = 6 ∧ u = u1 + 3) := by
  refine (Md.fill (Md.fill (Md.fill (Md.fill (Md.want (Md.fill (Md.want (md_start 6) ⟨#[115, 101, 108, 101, 99, 116]⟩) md_star up_it) ⟨#[102, 114, 111, 109]⟩) md_name up_tb) md_join up_jo) md_behind up_wh) md_ord up_oo).mono fun m u h => ?_
  obtain ⟨m0, od, u1, u2, ⟨m1, wh, u3, u4, ⟨m2, jo, u5, u6, ⟨m3, tb, u7, u8, ⟨u9, ⟨m4, its, u10, u11, ⟨u12, ⟨rfl, rfl⟩, rfl⟩, ⟨hI, hpI, hnI⟩, rfl, rfl⟩, rfl⟩, ⟨htb, rfl⟩, rfl, rfl⟩, ⟨hJ, hpJ, hnJ⟩, rfl, rfl⟩, ⟨hW, hpW, hnW⟩, rfl, rfl⟩, ⟨hO, hpO, hnO⟩, rfl, rfl⟩ := h
  obtain ⟨j, on⟩ := jo
  obtain ⟨ol, d⟩ := od
  refine ⟨u11 + 3 + 3 + u6 + u4 + u2, ⟨.inr (.inl ⟨its, tb, j, on, wh, ol, d, hI, hJ, hW, hO, rfl⟩), fun k => ?_, fun k => ?_⟩, rfl, by omega⟩
  · exact AllP.cons (okK rfl) (hpI.app (AllP.cons (okK rfl) (AllP.cons htb (hpJ.app (hpW.app hpO)))))
  · show ((k, kw ⟨#[115, 101, 108, 101, 99, 116]⟩) :: (pcStar its ++ (1, kw ⟨#[102, 114, 111, 109]⟩) :: (1, nm tb) :: (pcJoin j on ++ (pcWh wh ++ pcOrd d ol)))).length ≤ _
    have h1 : (pcJoin j on).length ≤ u6 := hnJ
    have h2 : (pcOrd d ol).length ≤ u2 := hnO
    simp only [List.length_cons, List.length_append]
    omega
/-- The three that write. -/
def ChG (m : Sm) (u : Nat) : Prop := ∃ u1, PG m u1 ∧ m.kind ≠ 6 ∧ u = u1 + 3
theorem md_change : Md changeP ChG := by
  refine (Md.disp (s := ⟨#[105, 110, 115, 101, 114, 116]⟩) md_insert (Md.disp (s := ⟨#[117, 112, 100, 97, 116, 101]⟩) md_update (Md.disp (s := ⟨#[100, 101, 108, 101, 116, 101]⟩) md_delete (Md.fail fun _ _ => False)))).mono fun m u h => ?_
  rcases h with ⟨u1, ⟨h, hk⟩, rfl⟩ | ⟨u1, ⟨h, hk⟩, rfl⟩ | ⟨u1, ⟨h, hk⟩, rfl⟩ | h
  · exact ⟨u1, h, by rw [hk]; decide, rfl⟩
  · exact ⟨u1, h, by rw [hk]; decide, rfl⟩
  · exact ⟨u1, h, by rw [hk]; decide, rfl⟩
  · exact h.elim
abbrev TL (l : List Int) (u : Nat) : Prop := LG TaOK (fun _ => 1) l u
theorem md_taglist : Md (listP tagP) TL := md_list md_tag fun x u h => h
theorem TL.pcs {l : List Int} {u k : Nat} (h : TL l u) : AllP (jp pcTag k l) ∧ (jp pcTag k l).length ≤ u := by
  obtain ⟨h0, h1, h2⟩ := h
  refine ⟨AllP.jp fun y hy k => AllP.cons (tag_word (h1 y hy)) AllP.nil, ?_⟩
  have := jp_len (g := pcTag) (n := fun _ => 1) (k := k) h0 fun y _ k => Nat.le_refl _
  exact Nat.le_of_succ_le_succ (Nat.le_trans this h2)
def TsG (l : List Int) (u : Nat) : Prop := (∀ z ∈ l, TaOK z) ∧ AllP (jp pcTag 1 l) ∧ (jp pcTag 1 l).length ≤ u
theorem md_tags : Md tagsP TsG := by
  refine (Md.kd (k := 3) md_taglist (Md.ret [])).mono fun l u h => ?_
  rcases h with h | ⟨rfl, rfl⟩
  · exact ⟨h.2.1, h.pcs.1, h.pcs.2⟩
  · exact ⟨fun z hz => absurd hz (by simp), AllP.nil, Nat.zero_le _⟩
/-- A statement that was read; the words that were read ahead of it are not counted. -/
def FG (c : Nat) (m : Sf) (u : Nat) : Prop := SfOK True m ∧ AllP (pcF m) ∧ (pcF m).length ≤ u + c
theorem FG.up {c c' : Nat} {m : Sf} {u u' : Nat} (h : FG c m u) (hu : u + c ≤ u' + c') : FG c' m u' := ⟨h.1, h.2.1, by have := h.2.2; omega⟩
theorem md_door3 : Md (doorP 3 queryP) (FG 6) := by
  refine (Md.bind (P := fun ts => wantR ⟨#[97, 115]⟩ (fillR tagsP up_ta (wantR ⟨#[115, 116, 114, 105, 112]⟩ (fillR nameP up_nm (startR 3 (.inr ts)))))) (f := fun m r => mapR (fun x => ((m, [x]) : Sf)) (queryP r)) (Md.want (Md.fill (Md.want (Md.fill (md_start 3) md_name up_nm) ⟨#[115, 116, 114, 105, 112]⟩) md_tags up_ta) ⟨#[97, 115]⟩) fun m => md_query.map fun x => (m, [x])).mono fun m u h => ?_
  obtain ⟨m0, u1, u2, ⟨u3, ⟨m1, tg, u4, u5, ⟨u6, ⟨m2, n, u7, u8, ⟨rfl, rfl⟩, ⟨hn, rfl⟩, rfl, rfl⟩, rfl⟩, ⟨ht, hpt, hnt⟩, rfl, rfl⟩, rfl⟩, ⟨x, ⟨u9, hx, h6, rfl⟩, rfl⟩, rfl⟩ := h
  refine ⟨.inr (.inr (.inr (.inl ⟨n, tg, x, ht, hx.1, h6, rfl⟩))), ?_, ?_⟩
  · exact AllP.cons (okK rfl) (AllP.cons (okK rfl) (AllP.cons hn (AllP.cons (okK rfl) (hpt.app (AllP.cons (okK rfl) (hx.2.1 1))))))
  · show ((0, kw ⟨#[99, 114, 101, 97, 116, 101]⟩) :: (1, kw ⟨#[118, 105, 101, 119]⟩) :: (1, nm n) :: (1, kw ⟨#[115, 116, 114, 105, 112]⟩) :: (jp pcTag 1 tg ++ (1, kw ⟨#[97, 115]⟩) :: pcS 1 x)).length ≤ _
    have := hx.2.2 1
    simp only [List.length_cons, List.length_append]
    omega
theorem md_door4 : Md (doorP 4 changeP) (FG 6) := by
  refine (Md.bind (P := fun ts => wantR ⟨#[97, 115]⟩ (fillR tagsP up_ta (wantR ⟨#[115, 116, 114, 105, 112]⟩ (fillR nameP up_nm (startR 4 (.inr ts)))))) (f := fun m r => mapR (fun x => ((m, [x]) : Sf)) (changeP r)) (Md.want (Md.fill (Md.want (Md.fill (md_start 4) md_name up_nm) ⟨#[115, 116, 114, 105, 112]⟩) md_tags up_ta) ⟨#[97, 115]⟩) fun m => md_change.map fun x => (m, [x])).mono fun m u h => ?_
  obtain ⟨m0, u1, u2, ⟨u3, ⟨m1, tg, u4, u5, ⟨u6, ⟨m2, n, u7, u8, ⟨rfl, rfl⟩, ⟨hn, rfl⟩, rfl, rfl⟩, rfl⟩, ⟨ht, hpt, hnt⟩, rfl, rfl⟩, rfl⟩, ⟨x, ⟨u9, hx, h6, rfl⟩, rfl⟩, rfl⟩ := h
  refine ⟨.inr (.inr (.inr (.inr (.inl ⟨n, tg, x, ht, hx.1, h6, rfl⟩)))), ?_, ?_⟩
  · exact AllP.cons (okK rfl) (AllP.cons (okK rfl) (AllP.cons hn (AllP.cons (okK rfl) (hpt.app (AllP.cons (okK rfl) (hx.2.1 1))))))
  · show ((0, kw ⟨#[99, 114, 101, 97, 116, 101]⟩) :: (1, kw ⟨#[99, 108, 111, 115, 117, 114, 101]⟩) :: (1, nm n) :: (1, kw ⟨#[115, 116, 114, 105, 112]⟩) :: (jp pcTag 1 tg ++ (1, kw ⟨#[97, 115]⟩) :: pcS 1 x)).length ≤ _
    have := hx.2.2 1
    simp only [List.length_cons, List.length_append]
    omega
theorem md_table : Md (plain tableP) (FG 6) := by
  refine (Md.map (Md.fill (Md.fill (md_start 1) md_name up_nm) (md_br (g := fun c => CoOK c ∧ ∀ k, AllP (pcCol k c)) (n := fun _ => 4) md_col fun x u h => ⟨⟨h.1, h.2.1⟩, h.2.2⟩) up_co) fun m => ((m, []) : Sf)).mono fun m u h => ?_
  obtain ⟨m0, ⟨m1, cs, u1, u2, ⟨m2, n, u3, u4, ⟨rfl, rfl⟩, ⟨hn, rfl⟩, rfl, rfl⟩, ⟨u5, ⟨h0, h1, h2⟩, rfl⟩, rfl, rfl⟩, rfl⟩ := h
  have hp : ∀ k, AllP (jp pcCol k cs) := fun k => AllP.jp fun y hy k => (h1 y hy).2 k
  have hl : (jp pcCol 0 cs).length ≤ u5 := by
    have := jp_len (g := pcCol) (n := fun _ => 4) (k := 0) h0 fun y _ k => by
      unfold pcCol
      split <;> simp
    exact Nat.le_of_succ_le_succ (Nat.le_trans this h2)
  refine ⟨.inr (.inl ⟨n, cs, h0, fun c hc => (h1 c hc).1, rfl⟩), ?_, ?_⟩
  · exact AllP.cons (okK rfl) (AllP.cons (okK rfl) (AllP.cons hn (AllP.cons (okS 40 rfl) ((hp 0).app (AllP.cons (okS 41 rfl) AllP.nil)))))
  · show ((0, kw ⟨#[99, 114, 101, 97, 116, 101]⟩) :: (1, kw ⟨#[116, 97, 98, 108, 101]⟩) :: (1, nm n) :: (0, sg ⟨#[40]⟩) :: (jp pcCol 0 cs ++ [(0, sg ⟨#[41]⟩)])).length ≤ _
    simp only [List.length_cons, List.length_append, List.length_nil]
    omega
theorem md_index : Md (plain indexP) (FG 6) := by
  refine (Md.map (Md.want (Md.fill (Md.want (Md.fill (Md.want (md_start 2) ⟨#[111, 110]⟩) md_name up_tb) ⟨#[40]⟩) md_name up_nm) ⟨#[41]⟩) fun m => ((m, []) : Sf)).mono fun m u h => ?_
  obtain ⟨m0, ⟨u0, ⟨m1, n, u1, u2, ⟨u3, ⟨m2, tb, u4, u5, ⟨u6, ⟨rfl, rfl⟩, rfl⟩, ⟨htb, rfl⟩, rfl, rfl⟩, rfl⟩, ⟨hn, rfl⟩, rfl, rfl⟩, rfl⟩, rfl⟩ := h
  refine ⟨.inr (.inr (.inl ⟨tb, n, rfl⟩)), ?_, ?_⟩
  · exact AllP.cons (okK rfl) (AllP.cons (okK rfl) (AllP.cons (okK rfl) (AllP.cons htb (AllP.cons (okS 40 rfl) (AllP.cons hn (AllP.cons (okS 41 rfl) AllP.nil))))))
  · show 7 ≤ _
    omega
theorem md_create : Md createP (FG 3) := by
  refine (Md.disp (s := ⟨#[116, 97, 98, 108, 101]⟩) md_table (Md.disp (s := ⟨#[105, 110, 100, 101, 120]⟩) md_index (Md.disp (s := ⟨#[118, 105, 101, 119]⟩) md_door3 (Md.disp (s := ⟨#[99, 108, 111, 115, 117, 114, 101]⟩) md_door4 (Md.fail fun _ _ => False))))).mono fun m u h => ?_
  rcases h with ⟨u1, h, rfl⟩ | ⟨u1, h, rfl⟩ | ⟨u1, h, rfl⟩ | ⟨u1, h, rfl⟩ | h
  · exact h.up (by omega)
  · exact h.up (by omega)
  · exact h.up (by omega)
  · exact h.up (by omega)
  · exact h.elim
theorem pcF_plain' {D : Prop} {x : Sm} (hx : SmOK D x) : pcF (x, []) = pcS 0 x := by rcases hx with ⟨_, _, _, _, rfl⟩ | ⟨_, _, _, _, _, _, _, _, _, _, _, rfl⟩ | ⟨_, _, _, _, _, _, rfl⟩ | ⟨_, _, _, rfl⟩ <;> rfl
theorem PG.fg {m : Sm} {u : Nat} (h : PG m u) : FG 3 (m, []) u := by
  have e := pcF_plain' h.1
  exact ⟨.inl ⟨m, h.1, rfl⟩, by rw [e]; exact h.2.1 0, by rw [e]; exact h.2.2 0⟩
theorem only_fg {k : Int} (hk : k = 9 ∨ k = 10 ∨ k = 11) : FG 3 (sm k, []) 0 := by
  refine ⟨.inr (.inr (.inr (.inr (.inr (.inl ⟨k, hk, rfl⟩))))), ?_, ?_⟩
  · rcases hk with rfl | rfl | rfl
    · exact AllP.cons (okK rfl) AllP.nil
    · exact AllP.cons (okK rfl) AllP.nil
    · exact AllP.cons (okK rfl) AllP.nil
  · rcases hk with rfl | rfl | rfl
    · show 1 ≤ 3
      decide
    · show 1 ≤ 3
      decide
    · show 1 ≤ 3
      decide
theorem md_stmt : Md stmtP (FG 0) := by
  refine (Md.disp (s := ⟨#[99, 114, 101, 97, 116, 101]⟩) md_create (Md.is (s := ⟨#[115, 101, 108, 101, 99, 116]⟩) (md_query.map fun m => ((m, []) : Sf)) (Md.disp (s := ⟨#[98, 101, 103, 105, 110]⟩) (Md.ret ((sm 9, []) : Sf)) (Md.disp (s := ⟨#[99, 111, 109, 109, 105, 116]⟩) (Md.ret ((sm 10, []) : Sf)) (Md.disp (s := ⟨#[114, 111, 108, 108, 98, 97, 99, 107]⟩) (Md.ret ((sm 11, []) : Sf)) (Md.disp (s := ⟨#[114, 97, 105, 115, 101]⟩) (md_taglist.map fun l => ((up_ta (sm 12) l, []) : Sf)) (Md.disp (s := ⟨#[99, 97, 108, 108]⟩) (md_name.map fun x => ((up_nm (sm 13) x, []) : Sf)) (md_change.map fun m => ((m, []) : Sf))))))))).mono fun m u h => ?_
  rcases h with ⟨u1, h, rfl⟩ | ⟨x, ⟨u1, h, hk, rfl⟩, rfl⟩ | ⟨u1, ⟨rfl, rfl⟩, rfl⟩ | ⟨u1, ⟨rfl, rfl⟩, rfl⟩ | ⟨u1, ⟨rfl, rfl⟩, rfl⟩ | ⟨u1, ⟨l, hl, rfl⟩, rfl⟩ | ⟨u1, ⟨x, ⟨hx, rfl⟩, rfl⟩, rfl⟩ | ⟨x, ⟨u1, h, hk, rfl⟩, rfl⟩
  · exact h.up (by omega)
  · exact h.fg.up (by omega)
  · exact (only_fg (.inl rfl)).up (by omega)
  · exact (only_fg (.inr (.inl rfl))).up (by omega)
  · exact (only_fg (.inr (.inr rfl))).up (by omega)
  · refine ⟨.inr (.inr (.inr (.inr (.inr (.inr (.inl ⟨l, hl.1, hl.2.1, rfl⟩)))))), AllP.cons (okK rfl) (hl.pcs (k := 1)).1, ?_⟩
    show ((0, kw ⟨#[114, 97, 105, 115, 101]⟩) :: jp pcTag 1 l).length ≤ _
    have := (hl.pcs (k := 1)).2
    simp only [List.length_cons]
    omega
  · refine ⟨.inr (.inr (.inr (.inr (.inr (.inr (.inr ⟨x, rfl⟩)))))), AllP.cons (okK rfl) (AllP.cons hx AllP.nil), ?_⟩
    show 2 ≤ _
    omega
  · exact h.fg.up (by omega)

end Go.Proofs.YtnboooaockgoiaaGreatDoor
