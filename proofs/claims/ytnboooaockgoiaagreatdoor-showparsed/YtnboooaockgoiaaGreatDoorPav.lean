import Derived.Test.YtnboooaockgoiaaGreatDoorPau
import Derived.Test.YtnboooaockgoiaaGreatDoorPax
import Derived.Test.YtnboooaockgoiaaGreatDoorPae
import Derived.Test.YtnboooaockgoiaaGreatDoorPas
import Derived.Lib.AppendIntMem
namespace Go.Proofs.YtnboooaockgoiaaGreatDoor
open Go.RowKit
set_option linter.unusedVariables false

/-- The pieces of an expression, so many spaces ahead of it. -/
def pcE (sp : Nat) : Tr → List Pc
  | .nil => []
  | .node _ op p l r =>
    if op = 1 then [(sp, if p.1 = 1 then (3, ⟨#[]⟩, p.2.1) else (4, p.2.2.1, 0))]
    else if op = 2 then (if p.2.2.2.1 = ⟨#[]⟩ then [(sp, (1, p.2.2.2.2, 0))] else [(sp, (1, p.2.2.2.1, 0)), (0, (5, ⟨#[46]⟩, 0)), (0, (1, p.2.2.2.2, 0))])
    else if op = 3 then (sp, (5, ⟨#[40]⟩, 0)) :: (0, (5, ⟨#[45]⟩, 0)) :: (pcE 0 l ++ [(0, (5, ⟨#[41]⟩, 0))])
    else if op = 4 then (sp, (5, ⟨#[40]⟩, 0)) :: (0, (2, ⟨#[110, 111, 116]⟩, 0)) :: (pcE 1 l ++ [(0, (5, ⟨#[41]⟩, 0))])
    else (sp, (5, ⟨#[40]⟩, 0)) :: (pcE 0 l ++ (1, opW (op - 5)) :: (pcE 1 r ++ [(0, (5, ⟨#[41]⟩, 0))]))
theorem pcE_words (t : Tr) : ∀ sp, (pcE sp t).map Prod.snd = wdE t := by
  induction t with
  | nil => intro sp; rfl
  | node x op p l r ihl ihr =>
    intro sp
    rw [pcE, wdE]
    split
    · rfl
    · split
      · split <;> rfl
      · split
        · simp [ihl]
        · split
          · simp [ihl]
          · simp [ihl, ihr]
/-- Nothing runs into what follows, whatever the names are. -/
def Ad : Bool → List Pc → Prop
  | _, [] => True
  | b, p :: l => (b = false ∨ 0 < p.1 ∨ softW p.2 = true) ∧ Ad (!sgS p.2) l
theorem Fl.of : ∀ {b : Bool} {l : List Pc}, Ad b l → (∀ w ∈ l.map Prod.snd, WdOK w) → Fl b l
  | _, [], _, _ => trivial
  | b, p :: l, h, hw => ⟨h.1, hw p.2 (by simp), Fl.of h.2 fun w m => hw w (by rw [List.map_cons]; exact List.mem_cons_of_mem _ m)⟩
theorem Ad.mono {l : List Pc} (h : Ad true l) (b : Bool) : Ad b l := by
  cases l with
  | nil => trivial
  | cons p l => exact ⟨.inr (h.1.resolve_left (by decide)), h.2⟩
theorem Ad.app : ∀ {l : List Pc} {b : Bool} {m : List Pc}, Ad b l → Ad true m → Ad b (l ++ m)
  | [], b, m, _, h => h.mono b
  | p :: l, b, m, h, h' => ⟨h.1, Ad.app h.2 h'⟩
theorem Ad.cons {b : Bool} {p : Pc} {l : List Pc} (h : b = false ∨ 0 < p.1 ∨ softW p.2 = true) (h' : Ad true l) : Ad b (p :: l) := ⟨h, h'.mono _⟩
theorem Ad.sign {b : Bool} {p : Pc} {l : List Pc} (h : b = false ∨ 0 < p.1 ∨ softW p.2 = true) (hs : sgS p.2 = true) (h' : Ad false l) : Ad b (p :: l) := ⟨h, by rw [hs]; exact h'⟩
theorem ad_expr (t : Tr) : ∀ (sp : Nat) (b : Bool), (b = false ∨ 0 < sp) → Ad b (pcE sp t) := by
  induction t with
  | nil => intro sp b _; trivial
  | node x op p l r ihl ihr =>
    intro sp b hb
    have hb' : ∀ w : Wd, b = false ∨ 0 < sp ∨ softW w = true := fun w => hb.elim .inl fun h => .inr (.inl h)
    have he : Ad true [((0, (5, ⟨#[41]⟩, 0)) : Pc)] := ⟨.inr (.inr rfl), trivial⟩
    rw [pcE]
    split
    · exact ⟨hb' _, trivial⟩
    · split
      · split
        · exact ⟨hb' _, trivial⟩
        · exact Ad.cons (hb' _) (Ad.sign (.inr (.inr rfl)) rfl ⟨.inl rfl, trivial⟩)
      · split
        · exact Ad.sign (hb' _) rfl (Ad.sign (.inl rfl) rfl ((ihl 0 false (.inl rfl)).app he))
        · split
          · exact Ad.sign (hb' _) rfl (Ad.cons (.inl rfl) ((ihl 1 true (.inr (by decide))).app he))
          · exact Ad.sign (hb' _) rfl ((ihl 0 false (.inl rfl)).app (Ad.cons (.inr (.inl Nat.one_pos)) ((ihr 1 true (.inr (by decide))).app he)))
/-- Some things with commas. -/
def jpT {α : Type} (g : Nat → α → List Pc) : List α → List Pc
  | [] => []
  | y :: l => (0, sg ⟨#[44]⟩) :: (g 1 y ++ jpT g l)
def jp {α : Type} (g : Nat → α → List Pc) (k : Nat) : List α → List Pc
  | [] => []
  | y :: l => g k y ++ jpT g l
theorem jpT_words {α : Type} {g : Nat → α → List Pc} {h : α → List Wd} (hg : ∀ k y, (g k y).map Prod.snd = h y) : ∀ l, (jpT g l).map Prod.snd = jwT h l
  | [] => rfl
  | y :: l => by rw [jpT, jwT, List.map_cons, List.map_append, hg, jpT_words hg l]
theorem jp_words {α : Type} {g : Nat → α → List Pc} {h : α → List Wd} (hg : ∀ k y, (g k y).map Prod.snd = h y) (k : Nat) : ∀ l, (jp g k l).map Prod.snd = jw h l
  | [] => rfl
  | y :: l => by rw [jp, jw, List.map_append, hg, jpT_words hg l]
theorem jpT_ad {α : Type} {g : Nat → α → List Pc} (hg : ∀ y, Ad true (g 1 y)) : ∀ l, Ad true (jpT g l)
  | [] => trivial
  | y :: l => Ad.sign (.inr (.inr rfl)) rfl (((hg y).app (jpT_ad hg l)).mono _)
theorem jp_ad {α : Type} {g : Nat → α → List Pc} {b : Bool} {k : Nat} (hg : ∀ y, Ad true (g 1 y)) (hk : ∀ y, Ad b (g k y)) : ∀ l, Ad b (jp g k l)
  | [] => trivial
  | y :: l => (hk y).app (jpT_ad hg l)
def pcTag (k : Nat) (z : Int) : List Pc := [(k, (3, ⟨#[]⟩, z))]
def kindW (k : Int) : ByteArray := if k = 1 then ⟨#[105, 110, 116]⟩ else ⟨#[116, 101, 120, 116]⟩
def pcCol (k : Nat) (c : Co) : List Pc := (k, nm c.1) :: (1, kw (kindW c.2.1)) :: (if c.2.2 = ⟨#[]⟩ then [] else [(1, kw ⟨#[114, 101, 102]⟩), (1, nm c.2.2)])
def aggW (g : Int) : ByteArray := if g = 2 then ⟨#[115, 117, 109]⟩ else if g = 3 then ⟨#[109, 105, 110]⟩ else ⟨#[109, 97, 120]⟩
def pcItem (k : Nat) (x : It) : List Pc :=
  if x.1 = 0 then pcE k (tCol x.2.1 x.2.2)
  else if x.1 = 1 then [(k, kw ⟨#[99, 111, 117, 110, 116]⟩), (0, sg ⟨#[40]⟩), (0, sg ⟨#[42]⟩), (0, sg ⟨#[41]⟩)]
  else (k, kw (aggW x.1)) :: (0, sg ⟨#[40]⟩) :: (pcE 0 (tCol x.2.1 x.2.2) ++ [(0, sg ⟨#[41]⟩)])
def pcWh : List Tr → List Pc
  | [] => []
  | t :: _ => (1, kw ⟨#[119, 104, 101, 114, 101]⟩) :: pcE 1 t
def pcStar (l : List It) : List Pc := if l = [] then [(1, sg ⟨#[42]⟩)] else jp pcItem 1 l
def pcJoin (j : ByteArray) : List Tr → List Pc
  | a :: b :: _ => (1, kw ⟨#[106, 111, 105, 110]⟩) :: (1, nm j) :: (1, kw ⟨#[111, 110]⟩) :: (pcE 1 a ++ (1, sg ⟨#[61]⟩) :: pcE 1 b)
  | _ => []
def pcOrd (d : Bool) : List Tr → List Pc
  | [] => []
  | t :: _ => (1, kw ⟨#[111, 114, 100, 101, 114]⟩) :: (1, kw ⟨#[98, 121]⟩) :: (pcE 1 t ++ if d then [(1, kw ⟨#[100, 101, 115, 99]⟩)] else [])
def pcTable (m : Sm) : List Pc := (1, nm m.name) :: (0, sg ⟨#[40]⟩) :: (jp pcCol 0 m.cols ++ [(0, sg ⟨#[41]⟩)])
def pcIndex (m : Sm) : List Pc := [(1, kw ⟨#[111, 110]⟩), (1, nm m.table), (0, sg ⟨#[40]⟩), (0, nm m.name), (0, sg ⟨#[41]⟩)]
def pcInsert (m : Sm) : List Pc := (1, kw ⟨#[105, 110, 116, 111]⟩) :: (1, nm m.table) :: (1, kw ⟨#[118, 97, 108, 117, 101, 115]⟩) :: (0, sg ⟨#[40]⟩) :: (jp pcE 0 m.values ++ [(0, sg ⟨#[41]⟩)])
def pcDelete (m : Sm) : List Pc := (1, kw ⟨#[102, 114, 111, 109]⟩) :: (1, nm m.table) :: pcWh m.wh
def pcVal : List Tr → List Pc
  | [] => []
  | t :: _ => pcE 1 t
def pcUpdate (m : Sm) : List Pc := (1, nm m.table) :: (1, kw ⟨#[115, 101, 116]⟩) :: (1, nm m.name) :: (1, sg ⟨#[61]⟩) :: (pcVal m.values ++ pcWh m.wh)
def pcQuery (m : Sm) : List Pc := pcStar m.items ++ (1, kw ⟨#[102, 114, 111, 109]⟩) :: (1, nm m.table) :: (pcJoin m.join m.on ++ (pcWh m.wh ++ pcOrd m.desc m.order))
/-- A statement with none within it; so many spaces ahead. -/
def pcS (k : Nat) (m : Sm) : List Pc :=
  if m.kind = 5 then (k, kw ⟨#[105, 110, 115, 101, 114, 116]⟩) :: pcInsert m
  else if m.kind = 6 then (k, kw ⟨#[115, 101, 108, 101, 99, 116]⟩) :: pcQuery m
  else if m.kind = 7 then (k, kw ⟨#[117, 112, 100, 97, 116, 101]⟩) :: pcUpdate m
  else (k, kw ⟨#[100, 101, 108, 101, 116, 101]⟩) :: pcDelete m
def pcDoor (m : Sm) : List Sm → List Pc
  | [] => []
  | x :: _ => (1, nm m.name) :: (1, kw ⟨#[115, 116, 114, 105, 112]⟩) :: (jp pcTag 1 m.tags ++ (1, kw ⟨#[97, 115]⟩) :: pcS 1 x)
def pcF (m : Sf) : List Pc :=
  if m.1.kind = 1 then (0, kw ⟨#[99, 114, 101, 97, 116, 101]⟩) :: (1, kw ⟨#[116, 97, 98, 108, 101]⟩) :: pcTable m.1
  else if m.1.kind = 2 then (0, kw ⟨#[99, 114, 101, 97, 116, 101]⟩) :: (1, kw ⟨#[105, 110, 100, 101, 120]⟩) :: pcIndex m.1
  else if m.1.kind = 3 then (0, kw ⟨#[99, 114, 101, 97, 116, 101]⟩) :: (1, kw ⟨#[118, 105, 101, 119]⟩) :: pcDoor m.1 m.2
  else if m.1.kind = 4 then (0, kw ⟨#[99, 114, 101, 97, 116, 101]⟩) :: (1, kw ⟨#[99, 108, 111, 115, 117, 114, 101]⟩) :: pcDoor m.1 m.2
  else if m.1.kind = 9 then [(0, kw ⟨#[98, 101, 103, 105, 110]⟩)]
  else if m.1.kind = 10 then [(0, kw ⟨#[99, 111, 109, 109, 105, 116]⟩)]
  else if m.1.kind = 11 then [(0, kw ⟨#[114, 111, 108, 108, 98, 97, 99, 107]⟩)]
  else if m.1.kind = 12 then (0, kw ⟨#[114, 97, 105, 115, 101]⟩) :: jp pcTag 1 m.1.tags
  else if m.1.kind = 13 then [(0, kw ⟨#[99, 97, 108, 108]⟩), (1, nm m.1.name)]
  else pcS 0 m.1
theorem ad_clo : Ad true [((0, sg ⟨#[41]⟩) : Pc)] := ⟨.inr (.inr rfl), trivial⟩
theorem ad_e1 (t : Tr) : Ad true (pcE 1 t) := ad_expr t 1 true (.inr (by decide))
theorem ad_wh : ∀ l, Ad true (pcWh l)
  | [] => trivial
  | t :: _ => Ad.cons (.inr (.inl Nat.one_pos)) (ad_e1 t)
theorem ad_ord (d : Bool) : ∀ l, Ad true (pcOrd d l)
  | [] => trivial
  | t :: _ => Ad.cons (.inr (.inl Nat.one_pos)) (Ad.cons (.inr (.inl Nat.one_pos)) ((ad_e1 t).app (by cases d; exact trivial; exact Ad.cons (.inr (.inl Nat.one_pos)) trivial)))
theorem ad_join (j : ByteArray) : ∀ l, Ad true (pcJoin j l)
  | a :: b :: _ => Ad.cons (.inr (.inl Nat.one_pos)) (Ad.cons (.inr (.inl Nat.one_pos)) (Ad.cons (.inr (.inl Nat.one_pos)) ((ad_e1 a).app (Ad.cons (.inr (.inl Nat.one_pos)) (ad_e1 b)))))
  | [] => trivial
  | [_] => trivial
theorem ad_item (k : Nat) (b : Bool) (h : b = false ∨ 0 < k) (x : It) : Ad b (pcItem k x) := by
  have h' : ∀ w : Wd, b = false ∨ 0 < k ∨ softW w = true := fun w => h.elim .inl fun h => .inr (.inl h)
  rw [pcItem]
  split
  · exact ad_expr _ _ _ h
  · split
    · exact Ad.cons (h' _) (Ad.sign (.inr (.inr rfl)) rfl (Ad.sign (.inl rfl) rfl (Ad.mono ad_clo _)))
    · exact Ad.cons (h' _) (Ad.sign (.inr (.inr rfl)) rfl ((ad_expr _ 0 false (.inl rfl)).app ad_clo))
theorem ad_col (k : Nat) (b : Bool) (h : b = false ∨ 0 < k) (x : Co) : Ad b (pcCol k x) := by
  have h' : ∀ w : Wd, b = false ∨ 0 < k ∨ softW w = true := fun w => h.elim .inl fun h => .inr (.inl h)
  refine Ad.cons (h' _) (Ad.cons (.inr (.inl Nat.one_pos)) ?_)
  split
  · trivial
  · exact Ad.cons (.inr (.inl Nat.one_pos)) (Ad.cons (.inr (.inl Nat.one_pos)) trivial)
theorem ad_tags (l : List Int) : Ad true (jp pcTag 1 l) := jp_ad (g := pcTag) (b := true) (k := 1) (fun y => ⟨.inr (.inl Nat.one_pos), trivial⟩) (fun y => ⟨.inr (.inl Nat.one_pos), trivial⟩) l
theorem ad_star (l : List It) : Ad true (pcStar l) := by
  rw [pcStar]
  split
  · exact ⟨.inr (.inl Nat.one_pos), trivial⟩
  · exact jp_ad (fun y => ad_item 1 true (.inr (by decide)) y) (fun y => ad_item 1 true (.inr (by decide)) y) l
theorem ad_val : ∀ l, Ad true (pcVal l)
  | [] => trivial
  | t :: _ => ad_e1 t
theorem ad_s (k : Nat) (b : Bool) (h : b = false ∨ 0 < k) (m : Sm) : Ad b (pcS k m) := by
  have h' : ∀ w : Wd, b = false ∨ 0 < k ∨ softW w = true := fun w => h.elim .inl fun h => .inr (.inl h)
  rw [pcS]
  split
  · exact Ad.cons (h' _) (Ad.cons (.inr (.inl Nat.one_pos)) (Ad.cons (.inr (.inl Nat.one_pos)) (Ad.cons (.inr (.inl Nat.one_pos)) (Ad.sign (.inr (.inr rfl)) rfl ((jp_ad ad_e1 (fun y => ad_expr y 0 false (.inl rfl)) _).app ad_clo)))))
  · split
    · exact Ad.cons (h' _) ((ad_star _).app (Ad.cons (.inr (.inl Nat.one_pos)) (Ad.cons (.inr (.inl Nat.one_pos)) ((ad_join _ _).app ((ad_wh _).app (ad_ord _ _))))))
    · split
      · exact Ad.cons (h' _) (Ad.cons (.inr (.inl Nat.one_pos)) (Ad.cons (.inr (.inl Nat.one_pos)) (Ad.cons (.inr (.inl Nat.one_pos)) (Ad.cons (.inr (.inl Nat.one_pos)) ((ad_val _).app (ad_wh _))))))
      · exact Ad.cons (h' _) (Ad.cons (.inr (.inl Nat.one_pos)) (Ad.cons (.inr (.inl Nat.one_pos)) (ad_wh _)))
theorem ad_door (m : Sm) : ∀ l, Ad true (pcDoor m l)
  | [] => trivial
  | x :: _ => Ad.cons (.inr (.inl Nat.one_pos)) (Ad.cons (.inr (.inl Nat.one_pos)) ((ad_tags _).app (Ad.cons (.inr (.inl Nat.one_pos)) (ad_s 1 true (.inr (by decide)) x))))
theorem ad_f (m : Sf) : Ad false (pcF m) := by
  rw [pcF]
  split
  · exact Ad.cons (.inl rfl) (Ad.cons (.inr (.inl Nat.one_pos)) (Ad.cons (.inr (.inl Nat.one_pos)) (Ad.sign (.inr (.inr rfl)) rfl ((jp_ad (fun y => ad_col 1 true (.inr (by decide)) y) (fun y => ad_col 0 false (.inl rfl) y) _).app ad_clo))))
  split
  · exact Ad.cons (.inl rfl) (Ad.cons (.inr (.inl Nat.one_pos)) (Ad.cons (.inr (.inl Nat.one_pos)) (Ad.cons (.inr (.inl Nat.one_pos)) (Ad.sign (.inr (.inr rfl)) rfl (Ad.cons (.inl rfl) ad_clo)))))
  split
  · exact Ad.cons (.inl rfl) (Ad.cons (.inr (.inl Nat.one_pos)) (ad_door _ _))
  split
  · exact Ad.cons (.inl rfl) (Ad.cons (.inr (.inl Nat.one_pos)) (ad_door _ _))
  split
  · exact ⟨.inl rfl, trivial⟩
  split
  · exact ⟨.inl rfl, trivial⟩
  split
  · exact ⟨.inl rfl, trivial⟩
  split
  · exact Ad.cons (.inl rfl) (ad_tags _)
  split
  · exact Ad.cons (.inl rfl) (Ad.cons (.inr (.inl Nat.one_pos)) trivial)
  · exact ad_s 0 false (.inl rfl) _

end Go.Proofs.YtnboooaockgoiaaGreatDoor
namespace Go.Proofs.YtnboooaockgoiaaGreatDoor
open Go.RowKit
set_option linter.unusedVariables false

def IsCol (t : Tr) : Prop := ∃ a n, t = tCol a n
theorem rds_col' {D : Prop} {t : Tr} (h : IsCol t) {S : List ByteArray} (hS : ⟨#[46]⟩ ∉ S) : Rds D columnP (wdE t) t (some S) := by
  obtain ⟨a, n, rfl⟩ := h
  exact rds_col a n hS
def ItOK (x : It) : Prop := x.1 = 0 ∨ x = (1, ⟨#[]⟩, ⟨#[]⟩) ∨ x.1 = 2 ∨ x.1 = 3 ∨ x.1 = 4
def CoOK (c : Co) : Prop := c.2.1 = 1 ∨ c.2.1 = 2
def TaOK (z : Int) : Prop := 0 ≤ z ∧ z ≤ 65535
def One (D : Prop) (l : List Tr) : Prop := l = [] ∨ ∃ t, l = [t] ∧ CnD D t
def wIt (x : It) : List Wd := (pcItem 0 x).map Prod.snd
def wCo (c : Co) : List Wd := (pcCol 0 c).map Prod.snd
theorem item_words (k : Nat) (x : It) : (pcItem k x).map Prod.snd = wIt x := by
  rw [wIt, pcItem, pcItem]
  split
  · rw [pcE_words, pcE_words]
  · split <;> rfl
theorem col_words (k : Nat) (c : Co) : (pcCol k c).map Prod.snd = wCo c := rfl
def itF : List ByteArray := [⟨#[44]⟩, ⟨#[102, 114, 111, 109]⟩]
theorem wdE_head {t n : ByteArray} {ts R : List Tk} (hm : ts.map wdOf = wdE (tCol t n)) : kdOf (ts ++ R) = 1 := by
  by_cases h0 : t = ⟨#[]⟩
  · subst h0
    obtain ⟨a, l', rfl, h1, h2⟩ := List.map_eq_cons_iff.1 (show ts.map wdOf = [(1, n, 0)] from hm)
    rw [tk_eta h1]; rfl
  · have hm' : ts.map wdOf = [(1, t, 0), (5, ⟨#[46]⟩, 0), (1, n, 0)] := hm.trans (by show (if t = ⟨#[]⟩ then _ else _) = _; rw [if_neg h0])
    obtain ⟨a, l', rfl, h1, h2⟩ := List.map_eq_cons_iff.1 hm'
    rw [tk_eta h1]; rfl
theorem name_no {X : List Tk} (h : kdOf X = 1) (s : ByteArray) : isTk s X = false := by
  cases X with
  | nil => rfl
  | cons a X => have h' : a.1 = 1 := h; simp [isTk, h']
theorem name_ops {X : List Tk} (h : kdOf X = 1) : ∀ l : List (ByteArray × Int), oneOf l X = 0
  | [] => rfl
  | c :: l => by rw [oneOf, if_neg (by rw [name_no h]; simp), name_ops h l]
theorem rds_item {D : Prop} {x : It} (h : ItOK x) : Rds D itemP (wIt x) x (some itF) := by
  obtain ⟨g, t, n⟩ := x
  intro ts R hm hR
  rcases h with h | h | h
  · have h' : g = 0 := h
    subst h'
    have hm' : ts.map wdOf = wdE (tCol t n) := hm.trans (by rw [wIt, pcItem, if_pos rfl, pcE_words])
    have hk := wdE_head (R := R) hm'
    rw [itemP, if_neg (by rw [name_no hk]; simp), if_pos (name_ops hk _)]
    exact (rds_col t n (S := itF) (nmem_of rfl) ts R hm' hR).map (itemC 0)
  · cases h
    have hm' : ts.map wdOf = [kw ⟨#[99, 111, 117, 110, 116]⟩, sg ⟨#[40]⟩, sg ⟨#[42]⟩, sg ⟨#[41]⟩] := hm
    obtain ⟨a, l1, rfl, h1, h2⟩ := List.map_eq_cons_iff.1 hm'
    obtain ⟨b, l2, rfl, h3, h4⟩ := List.map_eq_cons_iff.1 h2
    obtain ⟨c, l3, rfl, h5, h6⟩ := List.map_eq_cons_iff.1 h4
    obtain ⟨d, l4, rfl, h7, h8⟩ := List.map_eq_cons_iff.1 h6
    obtain rfl := List.map_eq_nil_iff.1 h8
    rw [tk_eta h1, tk_eta h3, tk_eta h5, tk_eta h7]
    exact .inl rfl
  · have hg : g = 2 ∨ g = 3 ∨ g = 4 := h
    have hm' : ts.map wdOf = kw (aggW g) :: (sg ⟨#[40]⟩ :: (wdE (tCol t n) ++ [sg ⟨#[41]⟩])) := hm.trans (by
      rw [wIt, pcItem, if_neg (show ¬ g = 0 by omega), if_neg (show ¬ g = 1 by omega)]
      simp [pcE_words])
    obtain ⟨a, l1, rfl, h1, h2⟩ := List.map_eq_cons_iff.1 hm'
    have hx := Rds.seq (D := D) (f := fun (_ : Unit) x => itemC g x) (rds_want (w := sg ⟨#[40]⟩) (.inr rfl)) (Rds.seq (f := fun x (_ : Unit) => x) (rds_col t n (S := [⟨#[41]⟩]) (nmem_of rfl)) (rds_want (w := sg ⟨#[41]⟩) (.inr rfl)) ⟨.inr rfl, mem_of rfl⟩) trivial l1 R h2 trivial
    have e1 : isTk ⟨#[99, 111, 117, 110, 116]⟩ (a :: (l1 ++ R)) = false := by rw [tk_eta h1]; rcases hg with rfl | rfl | rfl <;> rfl
    have e2 : oneOf opsAgg (a :: (l1 ++ R)) = g := by rw [tk_eta h1]; rcases hg with rfl | rfl | rfl <;> rfl
    rw [List.cons_append, itemP, if_neg (by rw [e1]; simp), e2, if_neg (by omega)]
    exact hx
theorem rds_coldef {D : Prop} {c : Co} (h : CoOK c) : Rds D colP (wCo c) c (some [⟨#[44]⟩, ⟨#[41]⟩]) := by
  obtain ⟨n, k, r⟩ := c
  have hk : k = 1 ∨ k = 2 := h
  have h1 : Rds D (choiceP opsKind) [kw (kindW k)] k none := by
    intro ts R hm _
    obtain ⟨a, l1, rfl, h1, h2⟩ := List.map_eq_cons_iff.1 hm
    obtain rfl := List.map_eq_nil_iff.1 h2
    have e2 : oneOf opsKind (a :: ([] ++ R)) = k := by rw [tk_eta h1]; rcases hk with rfl | rfl <;> rfl
    rw [List.cons_append, choiceP, e2, if_neg (by omega)]
    exact .inl rfl
  by_cases hr : r = ⟨#[]⟩
  · subst hr
    exact Rds.seq (f := fun n (x : Int × ByteArray) => ((n, x.1, x.2) : Co)) (rds_name n) (Rds.seq (f := Prod.mk) h1 (rds_opt_no (s := ⟨#[114, 101, 102]⟩) (z := (⟨#[]⟩ : ByteArray)) (P := nameP) (S := [⟨#[44]⟩, ⟨#[41]⟩]) (nmem_of rfl)) trivial) trivial
  · have e : wCo (n, k, r) = [nm n] ++ ([kw (kindW k)] ++ (kw ⟨#[114, 101, 102]⟩ :: [nm r])) := by
      rw [wCo, pcCol, if_neg hr]; rfl
    rw [e]
    exact (Rds.seq (f := fun n (x : Int × ByteArray) => ((n, x.1, x.2) : Co)) (rds_name n) (Rds.seq (f := Prod.mk) h1 (rds_opt (w := kw ⟨#[114, 101, 102]⟩) (.inl rfl) (z := (⟨#[]⟩ : ByteArray)) (rds_name r)) trivial) trivial).mono trivial
/-- What may follow a where; a join; all. -/
def whF : List ByteArray := [⟨#[111, 114, 100, 101, 114]⟩, ⟨#[41]⟩]
def joF : List ByteArray := [⟨#[119, 104, 101, 114, 101]⟩, ⟨#[111, 114, 100, 101, 114]⟩, ⟨#[41]⟩]
def fiF : List ByteArray := [⟨#[41]⟩]
def wWh (l : List Tr) : List Wd := (pcWh l).map Prod.snd
theorem rds_where {D : Prop} {l : List Tr} (h : One D l) : Rds D behindP (wWh l) l (some whF) := by
  rcases h with rfl | ⟨t, rfl, ht⟩
  · exact rds_opt_no (nmem_of rfl)
  · have e : wWh [t] = kw ⟨#[119, 104, 101, 114, 101]⟩ :: wdE t := by rw [wWh, pcWh, List.map_cons, pcE_words]
    rw [e]
    exact rds_opt (w := kw ⟨#[119, 104, 101, 114, 101]⟩) (.inl rfl) (((rds_expr ht).mono ⟨_, rfl, sub_of rfl⟩).map fun x => [x])
def wJo (j : ByteArray) (l : List Tr) : List Wd := (pcJoin j l).map Prod.snd
def JoOK (j : ByteArray) (l : List Tr) : Prop := (j = ⟨#[]⟩ ∧ l = []) ∨ ∃ a b, l = [a, b] ∧ IsCol a ∧ IsCol b
theorem rds_join {D : Prop} {j : ByteArray} {l : List Tr} (h : JoOK j l) : Rds D joinP (wJo j l) (j, l) (some joF) := by
  rcases h with ⟨rfl, rfl⟩ | ⟨a, b, rfl, ha, hb⟩
  · exact rds_opt_no (nmem_of rfl)
  · have e : wJo j [a, b] = kw ⟨#[106, 111, 105, 110]⟩ :: ([nm j] ++ ([kw ⟨#[111, 110]⟩] ++ (wdE a ++ ([sg ⟨#[61]⟩] ++ wdE b)))) := by
      rw [wJo, pcJoin]
      simp [pcE_words]
    rw [e]
    exact rds_opt (w := kw ⟨#[106, 111, 105, 110]⟩) (.inl rfl) (Rds.seq (f := Prod.mk) (rds_name j) (Rds.seq (f := fun (_ : Unit) l => l) (rds_want (w := kw ⟨#[111, 110]⟩) (.inl rfl)) (Rds.seq (f := fun a b => [a, b]) (rds_col' ha (S := [⟨#[61]⟩]) (nmem_of rfl)) (Rds.seq (f := fun (_ : Unit) b => b) (rds_want (w := sg ⟨#[61]⟩) (.inr rfl)) (rds_col' hb (nmem_of rfl)) trivial) ⟨.inr rfl, mem_of rfl⟩) trivial) trivial)
def wOr (d : Bool) (l : List Tr) : List Wd := (pcOrd d l).map Prod.snd
def OrOK (d : Bool) (l : List Tr) : Prop := (d = false ∧ l = []) ∨ ∃ a, l = [a] ∧ IsCol a
theorem rds_desc {D : Prop} (d : Bool) : Rds D descP (if d then [kw ⟨#[100, 101, 115, 99]⟩] else []) d (some fiF) := by
  intro ts R hm hR
  refine .inl ?_
  cases d with
  | false =>
    obtain rfl := List.map_eq_nil_iff.1 (show ts.map wdOf = [] from hm)
    have := hR.no (s := ⟨#[100, 101, 115, 99]⟩) (nmem_of rfl)
    rw [List.nil_append, descP, this]
    rfl
  | true =>
    obtain ⟨a, l1, rfl, h1, h2⟩ := List.map_eq_cons_iff.1 (show ts.map wdOf = [kw ⟨#[100, 101, 115, 99]⟩] from hm)
    obtain rfl := List.map_eq_nil_iff.1 h2
    rw [tk_eta h1]
    rfl
theorem rds_order {D : Prop} {d : Bool} {l : List Tr} (h : OrOK d l) : Rds D ordP (wOr d l) (l, d) (some fiF) := by
  rcases h with ⟨rfl, rfl⟩ | ⟨a, rfl, ha⟩
  · exact rds_opt_no (nmem_of rfl)
  · have e : wOr d [a] = kw ⟨#[111, 114, 100, 101, 114]⟩ :: (([kw ⟨#[98, 121]⟩] ++ wdE a) ++ (if d then [kw ⟨#[100, 101, 115, 99]⟩] else [])) := by
      rw [wOr, pcOrd]
      cases d <;> simp [pcE_words]
    rw [e]
    have h1 : Rds D orderP ([kw ⟨#[98, 121]⟩] ++ wdE a) [a] (some [⟨#[100, 101, 115, 99]⟩, ⟨#[41]⟩]) := Rds.seq (f := fun (_ : Unit) l => l) (rds_want (w := kw ⟨#[98, 121]⟩) (.inl rfl)) ((rds_col' ha (nmem_of rfl)).map fun x => [x]) trivial
    refine rds_opt (w := kw ⟨#[111, 114, 100, 101, 114]⟩) (.inl rfl) (Rds.seq (f := Prod.mk) h1 (rds_desc d) ?_)
    cases d with
    | false => exact ⟨fiF, rfl, sub_of rfl⟩
    | true => exact ⟨.inl rfl, mem_of rfl⟩
def wSt (l : List It) : List Wd := (pcStar l).map Prod.snd
theorem jw_item (k : Nat) (l : List It) : (jp pcItem k l).map Prod.snd = jw wIt l := jp_words item_words k l
theorem item_head {x : It} (h : ItOK x) {ts R : List Tk} (hm : ts.map wdOf = wIt x) : isTk ⟨#[42]⟩ (ts ++ R) = false := by
  obtain ⟨g, t, n⟩ := x
  rcases h with h | h | h
  · have h' : g = 0 := h
    subst h'
    exact name_no (wdE_head (R := R) (hm.trans (by rw [wIt, pcItem, if_pos rfl, pcE_words]))) _
  · cases h
    obtain ⟨a, l1, rfl, h1, h2⟩ := List.map_eq_cons_iff.1 (show ts.map wdOf = [kw ⟨#[99, 111, 117, 110, 116]⟩, sg ⟨#[40]⟩, sg ⟨#[42]⟩, sg ⟨#[41]⟩] from hm)
    rw [tk_eta h1]; rfl
  · have hg : g = 2 ∨ g = 3 ∨ g = 4 := h
    have hm' : ts.map wdOf = kw (aggW g) :: (sg ⟨#[40]⟩ :: (wdE (tCol t n) ++ [sg ⟨#[41]⟩])) := hm.trans (by
      rw [wIt, pcItem, if_neg (show ¬ g = 0 by omega), if_neg (show ¬ g = 1 by omega)]
      simp [pcE_words])
    obtain ⟨a, l1, rfl, h1, h2⟩ := List.map_eq_cons_iff.1 hm'
    rw [tk_eta h1]; rcases hg with rfl | rfl | rfl <;> rfl
theorem rds_star {D : Prop} {l : List It} (h : ∀ x ∈ l, ItOK x) : Rds D starP (wSt l) l (some [⟨#[102, 114, 111, 109]⟩]) := by
  by_cases h0 : l = []
  · subst h0
    intro ts R hm _
    obtain ⟨a, l1, rfl, h1, h2⟩ := List.map_eq_cons_iff.1 (show ts.map wdOf = [sg ⟨#[42]⟩] from hm)
    obtain rfl := List.map_eq_nil_iff.1 h2
    rw [tk_eta h1]
    exact .inl rfl
  · have e : wSt l = jw wIt l := by rw [wSt, pcStar, if_neg h0, jw_item]
    rw [e]
    intro ts R hm hR
    have hs : isTk ⟨#[42]⟩ (ts ++ R) = false := by
      obtain ⟨x, l, rfl⟩ := List.exists_cons_of_ne_nil h0
      obtain ⟨t1, t2, rfl, h3, h4⟩ := List.map_eq_append_iff.1 (show ts.map wdOf = wIt x ++ jwT wIt l from hm)
      rw [List.append_assoc]
      exact item_head (h x (by simp)) h3
    rw [starP, if_neg (by rw [hs]; simp)]
    exact rds_list (S := some itF) (S' := [⟨#[102, 114, 111, 109]⟩]) ⟨.inr rfl, mem_of rfl⟩ ⟨_, rfl, sub_of rfl⟩ (nmem_of rfl) h0 (fun x hx => rds_item (h x hx)) ts R hm hR

end Go.Proofs.YtnboooaockgoiaaGreatDoor
namespace Go.Proofs.YtnboooaockgoiaaGreatDoor
open Go.RowKit
set_option linter.unusedVariables false
set_option linter.unusedSimpArgs false

/-- What the library's functions read of the world: the powers of ten, and a number. -/
def Env1 (w : World) : Prop := Lib.TabIs Tryz.prog w "internal/strconv.uint64pow10" .u64 Lib.pow10Tab ∧ ∃ m, w.cell? ⟨1, 0, none⟩ = some (.int .i64 m)
/-- It stays so as long as what lies below block g does. -/
def Ev (g : Nat) (w : World) : Prop := ∀ w', Below g w w' → Env1 w'
theorem Ev.on {g : Nat} {w w' : World} (h : Ev g w) (hb : Below g w w') : Ev g w' := fun w2 h2 => h w2 (hb.trans h2)
theorem fmt_any {g : Nat} {v : Sl} {l : List Int} {sp : Bool} {w : World} (hW : Wt w g v l sp) (he : Ev g w) {n : Int} (hn : Fits n) : Calls Tryz.prog 109 #[.int .i64 n, .int .i64 10] w fun e w' => e = .returned (.string ⟨(Lib.itoa n).toArray⟩) ∧ Below w.heap.size w w' :=
  (Tryz.strconv_FormatInt_10 n hn.1 hn.2 w (he w (Below.refl _ _)).1).mono fun e w' ⟨h1, k, os, h2⟩ => ⟨h1, h2 ▸ Lib.below_grow w.heap.size w (Nat.le_refl _) k os⟩
theorem itoa_any {g : Nat} {v : Sl} {l : List Int} {sp : Bool} {w : World} (hW : Wt w g v l sp) (he : Ev g w) {n : Int} (hn : Fits n) : Calls Tryz.prog 96 #[.int .i64 n] w fun e w' => e = .returned (.string ⟨(Lib.itoa n).toArray⟩) ∧ Below w.heap.size w w' :=
  (Tryz.strconv_Itoa n hn.1 hn.2 w (he w (Below.refl _ _)).1).mono fun e w' ⟨h1, k, os, h2⟩ => ⟨h1, h2 ▸ Lib.below_grow w.heap.size w (Nat.le_refl _) k os⟩
theorem repl_dbl : ∀ l : List UInt8, Lib.replaceK [39] [39, 39] (Lib.count l [39]) l = dblQ l
  | [] => by rw [Lib.count_miss (by simp [Lib.index])]; rfl
  | b :: l => by
    have ih := repl_dbl l
    by_cases h : b = 39
    · subst h
      have hix : Lib.index (39 :: l) [39] = ((0 : Nat) : Int) := by rw [Lib.index]; simp [List.isPrefixOf]
      rw [Lib.count_cons_eq, Nat.add_comm, Lib.replaceK_hit [39] [39, 39] _ _ 0 hix]
      show [39, 39] ++ Lib.replaceK [39] [39, 39] (Lib.count l [39]) l = _
      rw [ih]
      rfl
    · have hb : ¬ b.toNat = 39 := fun e => h (UInt8.toNat_inj.1 e)
      rw [Lib.count_cons_ne b 39 l h, dblQ, if_neg hb, ← ih]
      cases hn : Lib.count l [39] with
      | zero => rfl
      | succ m =>
        obtain ⟨j, hj⟩ := Lib.index_of_count (s := l) (old := [39]) (by omega)
        have hp : ([39] : List UInt8).isPrefixOf (b :: l) = false := by simp [List.isPrefixOf, Ne.symm h]
        have hix : Lib.index (b :: l) [39] = ((j + 1 : Nat) : Int) := by
          rw [Lib.index, hp]
          have : ¬ (Lib.index l [39] == -1) = true := fun e => by have := beq_iff_eq.1 e; omega
          simp only [Bool.false_eq_true, if_false]
          rw [if_neg this, hj]
          omega
        rw [Lib.replaceK_hit [39] [39, 39] m _ _ hix, Lib.replaceK_hit [39] [39, 39] m _ _ hj]
        simp
theorem replAll_dbl (l : List UInt8) : Lib.replaceAll l [39] [39, 39] = dblQ l := by
  have e : Lib.replaceNum l [39] (-1) = Lib.count l [39] := by unfold Lib.replaceNum; rw [if_pos (.inl (by decide))]
  rw [Lib.replaceAll, Lib.replace, if_neg (by decide), e, repl_dbl]
theorem repl_any {g : Nat} {v : Sl} {l : List Int} {sp : Bool} {w : World} (hW : Wt w g v l sp) (he : Ev g w) {s : ByteArray} (hs : s.size ≤ 1000) : Calls Tryz.prog 110 #[.string s, .string ⟨#[39]⟩, .string ⟨#[39, 39]⟩] w fun e w' => e = .returned (.string ⟨(dblQ (bs s)).toArray⟩) ∧ Below w.heap.size w w' := by
  obtain ⟨m, hm⟩ := (he w (Below.refl _ _)).2
  have hc : Lib.countB s ⟨#[39]⟩ ≤ s.size := Lib.countB_le ⟨#[39]⟩ (by decide) s.size s (Nat.le_refl _)
  have h2 : (⟨#[39, 39]⟩ : ByteArray).size = 2 := rfl
  have := Tryz.strings_ReplaceAll s ⟨#[39]⟩ ⟨#[39, 39]⟩ m w (by omega) hm (by decide) (by rw [h2]; omega)
  have e : Lib.replaceAll s.data.toList [39] [39, 39] = dblQ (bs s) := replAll_dbl _
  rw [← e]
  exact this

set_option maxRecDepth 100000 in
theorem wColumn_any {g : Nat} {v : Sl} {s : Ws} {w : World} (h : Wt w g v s.1 s.2) (t n : ByteArray) (hz : s.1.length + t.size + n.size ≤ 900000) : Calls Tryz.prog 80 #[.pointer (some ⟨g, 0, none⟩), .string t, .string n] w (TeS2 g v w (puS [coB t n] s)) := by
  have hs : (t.toList == (⟨#[]⟩ : ByteArray).toList) = eqS t ⟨#[]⟩ := same_str t ⟨#[]⟩
  by_cases ht : t = ⟨#[]⟩
  · subst ht
    have e : coB ⟨#[]⟩ n = n := if_pos rfl
    rw [e]
    have H : Hid _ := hid (put1 h n (by have : (catN [n]).length = n.size := by simp [catN, nums_len]
                                        omega))
    clear h hs e
    go_enter Tryz.func80, Tryz.ntmps80
    go_wp2_with fail
    refine Calls.mono H.out ?_
    rintro e w1 ⟨v1, rfl, hW, hU, hK⟩
    clear H
    go_wp2
    exact bodyPost_end (results_none rfl _ _ _) rfl ⟨v1, rfl, hW, hU, hK⟩
  · have e : coB t n = (t ++ ⟨#[46]⟩) ++ n := if_neg ht
    have he : eqS t ⟨#[]⟩ = false := by
      cases hc : eqS t ⟨#[]⟩ with
      | false => rfl
      | true => exact absurd (by simpa [eqS] using hc) ht
    rw [he] at hs
    have e0 : (⟨#[]⟩ : ByteArray).toList = [] := by rw [ByteArray.toList_eq]
    have hi : t.toList.isEmpty = false := by
      rw [e0] at hs
      cases hl : t.toList with
      | nil => rw [hl] at hs; cases hs
      | cons x l => rfl
    have hc2 : (catN [t, ⟨#[46]⟩]).length = t.size + 1 := by simp [catN, nums_len]; rfl
    have hc1 : (catN [n]).length = n.size := by simp [catN, nums_len]
    have hcat : s.1 ++ catN [t, ⟨#[46]⟩] ++ catN [n] = s.1 ++ catN [coB t n] := by
      rw [e, List.append_assoc]
      congr 1
      simp [catN, nums]
    have H : Hid _ := hid (put2 h t ⟨#[46]⟩ (by omega))
    clear h e0 hs he ht e
    go_enter Tryz.func80, Tryz.ntmps80
    go_wp2_with fail
    refine Calls.mono H.out ?_
    rintro e w1 ⟨v1, rfl, hW, hU, hK⟩
    have H2 : Hid _ := hid (put1 hW n (by rw [List.length_append]; omega))
    clear H hW
    go_wp2_with fail
    refine Calls.mono H2.out ?_
    rintro e w2 ⟨v2, rfl, hW2, hU2, hK2⟩
    have hU3 := hU.trans hU2 hK
    have hK3 := hK.trans hK2 hU.size
    rw [hcat] at hW2
    clear H2 hU2 hK2
    go_wp2
    exact bodyPost_end (results_none rfl _ _ _) rfl ⟨v2, rfl, hW2, hU3, hK3⟩

set_option maxRecDepth 100000 in
set_option maxHeartbeats 1000000 in
theorem wValue_any {g : Nat} {v : Sl} {s : Ws} {w : World} (h : Wt w g v s.1 s.2) (he : Ev g w) {k i : Int} {t : ByteArray} (hk : (k = 1 ∧ 0 ≤ i ∧ Fits i) ∨ k = 2) (ht : t.size ≤ 1000) (a b : ByteArray) (hz : s.1.length ≤ 800000) :
    Calls Tryz.prog 79 #[.pointer (some ⟨g, 0, none⟩), .agg #[.int .i64 k, .int .i64 i, .string t]] w (TeS2 g v w (puS [vaB (k, i, t, a, b)] s)) := by
  have hbx := bal (Below.refl _ w) (.cells #[.int .i64 k, .int .i64 i, .string t] 40)
  rcases hk with ⟨rfl, hi, hf⟩ | rfl
  · have e : vaB (1, i, t, a, b) = ⟨(Lib.itoa i).toArray⟩ := if_pos rfl
    have hl : (⟨(Lib.itoa i).toArray⟩ : ByteArray).size ≤ 30 := by
      have := Lib.itoa_length_le i hf.1 hf.2
      rw [sz_mk]
      simp
      omega
    rw [e]
    have H : Hid _ := hid (fmt_any (h.later hbx) (he.on (hbx.mono (Nat.le_of_lt h.lt))) hf)
    have hW0 := h.later hbx
    generalize (⟨(Lib.itoa i).toArray⟩ : ByteArray) = D at *
    clear h e
    go_enter Tryz.func79, Tryz.ntmps79
    go_wp2_with fail
    refine Calls.mono H.out ?_
    rintro e w1 ⟨rfl, hb1⟩
    have hW1 := hW0.later hb1
    have hbw := Below.on hbx hb1
    have H2 : Hid _ := hid (put1 hW1 D (by have : (catN [D]).length = D.size := by simp [catN, nums_len]
                                           omega))
    clear H hW0 hW1
    go_wp2_with fail
    refine Calls.mono H2.out ?_
    rintro e w2 ⟨v2, rfl, hW2, hU2, hK2⟩
    have hU3 : WUp g v w w2 := (WUp.of hbw).trans hU2 (WKp.refl _ _)
    have hK3 : WKp v v2 w.heap.size := (WKp.refl v w.heap.size).trans hK2 hbw.size
    clear H2 hU2 hK2
    go_wp2
    exact bodyPost_end (results_none rfl _ _ _) rfl ⟨v2, rfl, hW2, hU3, hK3⟩
  · have e : vaB (2, i, t, a, b) = quB t := if_neg (show ¬ (2 : Int) = 1 by decide)
    rw [e]
    have hq := dblQ_len (bs t)
    rw [bs_length] at hq
    have hcat : catN [⟨#[39]⟩, ⟨(dblQ (bs t)).toArray⟩, ⟨#[39]⟩] = catN [quB t] := by simp [catN, nums, quB]
    have hql : (catN [quB t]).length ≤ 2002 := by
      have := quB_size t
      have h2 : (catN [quB t]).length = (quB t).size := by simp [catN, nums_len]
      omega
    have H : Hid _ := hid (repl_any (h.later hbx) (he.on (hbx.mono (Nat.le_of_lt h.lt))) ht)
    have hW0 := h.later hbx
    have Hc : Hid _ := hid hcat
    generalize (⟨(dblQ (bs t)).toArray⟩ : ByteArray) = D at *
    clear h e hcat hq
    go_enter Tryz.func79, Tryz.ntmps79
    go_wp2_with fail
    refine Calls.mono H.out ?_
    rintro e w1 ⟨rfl, hb1⟩
    have hW1 := hW0.later hb1
    have hbw := Below.on hbx hb1
    have H2 := put3 hW1 ⟨#[39]⟩ D ⟨#[39]⟩ (by rw [Hc.out]; omega)
    rw [Hc.out] at H2
    replace H2 : Hid _ := hid H2
    clear H hW0 hW1 Hc
    go_wp2_with fail
    refine Calls.mono H2.out ?_
    rintro e w2 ⟨v2, rfl, hW2, hU2, hK2⟩
    have hU3 : WUp g v w w2 := (WUp.of hbw).trans hU2 (WKp.refl _ _)
    have hK3 : WKp v v2 w.heap.size := (WKp.refl v w.heap.size).trans hK2 hbw.size
    clear H2 hU2 hK2
    go_wp2
    exact bodyPost_end (results_none rfl _ _ _) rfl ⟨v2, rfl, hW2, hU3, hK3⟩

end Go.Proofs.YtnboooaockgoiaaGreatDoor
