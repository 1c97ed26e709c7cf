import Derived.Test.YtfopfhlohihihaaGreatSay
namespace Go.Proofs.YtfopfhlohihihaaGreat
open Go.RowKit
set_option linter.unusedVariables false
set_option linter.unusedSimpArgs false
def memB (s : ByteArray) : List ByteArray → Bool
 | [] => false
 | t :: S => decide (s = t) || memB s S
theorem memB_iff {s : ByteArray} : ∀ {S : List ByteArray},memB s S = true ↔ s ∈ S
 | [] => by simp [memB]
 | t :: S => by rw [memB,Bool.or_eq_true,decide_eq_true_eq,memB_iff,List.mem_cons]
theorem mem_of {s : ByteArray} {S : List ByteArray} (h : memB s S = true) : s ∈ S := memB_iff.1 h
theorem nmem_of {s : ByteArray} {S : List ByteArray} (h : memB s S = false) : s ∉ S := fun k => by rw [memB_iff.2 k] at h; cases h
theorem sub_of {A B : List ByteArray} (h : (A.all fun s => memB s B) = true) : ∀ s ∈ A,s ∈ B := fun s m => memB_iff.1 (List.all_eq_true.1 h s m)
abbrev Fo := Option (List ByteArray)
def Tl : Fo → List Tk → Prop
 | none,_ => True
 | some S,X => kdOf X = 6 ∨ ∃ s ∈ S,isTk s X = true
def Hd (S1 : Fo) (vs : List Wd) (S2 : Fo) : Prop :=
 match S1 with
 | none => True
 | some A =>
  match vs with
  | [] => ∃ B,S2 = some B ∧ ∀ s ∈ B,s ∈ A
  | v :: _ => (v.1 = 2 ∨ v.1 = 5) ∧ v.2.1 ∈ A
theorem isTk_iff {s : ByteArray} {a : Tk} {X : List Tk} : isTk s (a :: X) = true ↔ (a.1 = 2 ∨ a.1 = 5) ∧ a.2.1 = s := by
 simp [isTk]
theorem Tl.no {S : List ByteArray} {X : List Tk} (h : Tl (some S) X) {s : ByteArray} (hs : s ∉ S) : isTk s X = false := by
 cases X with
 | nil => rfl
 | cons a X =>
  cases hb : isTk s (a :: X) with
  | false => rfl
  | true =>
   rw [isTk_iff] at hb
   rcases h with h | ⟨t,ht,h⟩
   ·have h' : a.1 = 6 := h
    rw [h'] at hb
    rcases hb.1 with e | e <;> cases e
   ·rw [isTk_iff] at h
    exact (hs (by rw [← hb.2,h.2]; exact ht)).elim
theorem Tl.ops {S : List ByteArray} {X : List Tk} (h : Tl (some S) X) : ∀ {l : List (ByteArray × Int)},(∀ c ∈ l.map Prod.fst,c ∉ S) → oneOf l X = 0
 | [],_ => rfl
 | c :: l,hl => by
  rw [oneOf,if_neg (by rw [h.no (hl c.1 (by simp))]; simp)]
  exact Tl.ops h fun c hc => hl c (by rw [List.map_cons]; exact List.mem_cons_of_mem _ hc)
theorem Tl.hd {S1 S2 : Fo} {vs : List Wd} (h : Hd S1 vs S2) {ts R : List Tk} (hm : ts.map wdOf = vs) (hR : Tl S2 R) : Tl S1 (ts ++ R) := by
 cases S1 with
 | none => trivial
 | some A =>
  cases vs with
  | nil =>
   obtain rfl := List.map_eq_nil_iff.1 hm
   obtain ⟨B,rfl,hB⟩ := h
   rcases hR with hR | ⟨s,hs,hR⟩
   ·exact .inl hR
   ·exact .inr ⟨s,hB s hs,hR⟩
  | cons v vs =>
   obtain ⟨a,l',rfl,h1,h2⟩ := List.map_eq_cons_iff.1 hm
   obtain ⟨h3,h4⟩ := h
   subst h1
   exact .inr ⟨a.2.1,h4,isTk_iff.2 ⟨h3,rfl⟩⟩
def Rds (D : Prop) {α : Type} (P : List Tk → Re α) (ws : List Wd) (t : α) (S : Fo) : Prop := ∀ ts R,ts.map wdOf = ws → Tl S R → Got D (P (ts ++ R)) (t,R)
theorem Rds.mono {D : Prop} {α : Type} {P : List Tk → Re α} {ws : List Wd} {t : α} {S S' : Fo} (h : Rds D P ws t S) (hs : Hd S [] S') : Rds D P ws t S' :=
 fun ts R hm hR => h ts R hm (Tl.hd (ts := []) hs rfl hR)
theorem Rds.map {D : Prop} {α β : Type} {P : List Tk → Re α} {ws : List Wd} {t : α} {S : Fo} (h : Rds D P ws t S) (f : α → β) : Rds D (fun r => mapR f (P r)) ws (f t) S :=
 fun ts R hm hR => (h ts R hm hR).map f
theorem Rds.seq {D : Prop} {α β γ : Type} {f : α → β → γ} {P : List Tk → Re α} {P' : List Tk → Re β} {ws vs : List Wd} {a : α} {b : β} {S1 S2 : Fo} (h : Rds D P ws a S1) (h' : Rds D P' vs b S2) (hd : Hd S1 vs S2) : Rds D (seqP f P P') (ws ++ vs) (f a b) S2 := by
 intro ts R hm hR
 obtain ⟨t1,t2,rfl,h1,h2⟩ := List.map_eq_append_iff.1 hm
 rw [seqP,List.append_assoc]
 exact (h t1 _ h1 (Tl.hd hd h2 hR)).then ((h' t2 R h2 hR).map (f a))
def kw (s : ByteArray) : Wd := (2,s,0)
def sg (s : ByteArray) : Wd := (5,s,0)
def nm (s : ByteArray) : Wd := (1,s,0)
theorem rds_want {D : Prop} {w : Wd} (hw : w.1 = 2 ∨ w.1 = 5) : Rds D (wantU w.2.1) [w] () none := by
 intro ts R hm _
 obtain ⟨a,l',rfl,h1,h2⟩ := List.map_eq_cons_iff.1 hm
 obtain rfl := List.map_eq_nil_iff.1 h2
 subst h1
 have hi : isTk (wdOf a).2.1 (a :: ([] ++ R)) = true := isTk_iff.2 ⟨hw,rfl⟩
 rw [List.cons_append,wantU,if_pos hi]
 exact .inl rfl
theorem rds_name {D : Prop} (n : ByteArray) : Rds D nameP [nm n] n none := by
 intro ts R hm _
 obtain ⟨a,l',rfl,h1,h2⟩ := List.map_eq_cons_iff.1 hm
 obtain rfl := List.map_eq_nil_iff.1 h2
 rw [tk_eta h1]
 exact .inl rfl
theorem rds_opt_no {D : Prop} {α : Type} {s : ByteArray} {z : α} {P : List Tk → Re α} {S : List ByteArray} (hs : s ∉ S) : Rds D (optP s z P) [] z (some S) := by
 intro ts R hm hR
 obtain rfl := List.map_eq_nil_iff.1 hm
 rw [List.nil_append,optP,if_neg (by rw [hR.no hs]; simp)]
 exact .inl rfl
theorem rds_opt {D : Prop} {α : Type} {w : Wd} (hw : w.1 = 2 ∨ w.1 = 5) {z t : α} {P : List Tk → Re α} {ws : List Wd} {S : Fo} (h : Rds D P ws t S) : Rds D (optP w.2.1 z P) (w :: ws) t S := by
 intro ts R hm hR
 obtain ⟨a,l',rfl,h1,h2⟩ := List.map_eq_cons_iff.1 hm
 subst h1
 have hi : isTk (wdOf a).2.1 (a :: (l' ++ R)) = true := isTk_iff.2 ⟨hw,rfl⟩
 rw [List.cons_append,optP,if_pos hi]
 exact h l' R h2 hR
theorem rds_tag {D : Prop} {z : Int} (h0 : 0 ≤ z) (h1 : z ≤ 65535) : Rds D tagP [(3,⟨#[]⟩,z)] z none := by
 intro ts R hm _
 obtain ⟨a,l',rfl,h1',h2⟩ := List.map_eq_cons_iff.1 hm
 obtain rfl := List.map_eq_nil_iff.1 h2
 rw [tk_eta h1']
 refine .inl ?_
 show (if (3 : Int) = 3 then (if 65535 < z then (Sum.inl (a.2.2.2,3) : Re Int) else .inr (IntKind.u16.wrap z,R)) else .inl (a.2.2.2,5)) = _
 rw [if_pos rfl,if_neg (by omega)]
 have : IntKind.u16.wrap z = z := by
  show (if (false && decide (z % (2 ^ 16 : Int) ≥ (2 ^ (16 - 1) : Int))) = true then z % (2 ^ 16 : Int) - (2 ^ 16 : Int) else z % (2 ^ 16 : Int)) = z
  rw [if_neg (by simp)]
  omega
 rw [this]
theorem rds_col {D : Prop} (t n : ByteArray) {S : List ByteArray} (hS : ⟨#[46]⟩ ∉ S) : Rds D columnP (wdE (tCol t n)) (tCol t n) (some S) := by
 intro ts R hm hR
 refine .inl ?_
 have hd := hR.no hS
 by_cases h0 : t = ⟨#[]⟩
 ·subst h0
  have hm' : ts.map wdOf = [(1,n,0)] := hm
  obtain ⟨a,l',rfl,h1,h2⟩ := List.map_eq_cons_iff.1 hm'
  obtain rfl := List.map_eq_nil_iff.1 h2
  rw [tk_eta h1]
  show (if isTk ⟨#[46]⟩ R then _ else (Sum.inr (tCol ⟨#[]⟩ n,R) : Re Tr)) = _
  rw [if_neg (by rw [hd]; simp)]
 ·have hm' : ts.map wdOf = [(1,t,0),(5,⟨#[46]⟩,0),(1,n,0)] := hm.trans (by show (if t = ⟨#[]⟩ then _ else _) = _; rw [if_neg h0])
  obtain ⟨a,l',rfl,h1,h2⟩ := List.map_eq_cons_iff.1 hm'
  obtain ⟨b,l'',rfl,h3,h4⟩ := List.map_eq_cons_iff.1 h2
  obtain ⟨c,l3,rfl,h5,h6⟩ := List.map_eq_cons_iff.1 h4
  obtain rfl := List.map_eq_nil_iff.1 h6
  rw [tk_eta h1,tk_eta h3,tk_eta h5]
  rfl
def exF : List ByteArray := [⟨#[41]⟩,⟨#[44]⟩,⟨#[111,114,100,101,114]⟩]
theorem rds_expr {D : Prop} {t : Tr} (h : CnD D t) : Rds D (exprP 64) (wdE t) t (some exF) := by
 obtain ⟨d,h,hd⟩ := h
 intro ts R hm hR
 exact expr_of (back h 64 hd ts R hm (hR.no (nmem_of rfl))) (head_not h hm R) (hR.ops (by simp [opsTerm,exF])) (hR.ops (by simp [opsSum,exF])) (hR.ops (by simp [opsComp,exF])) (hR.ops (by simp [opsAnd,exF])) (hR.ops (by simp [opsOr,exF]))
def jwT {α : Type} (g : α → List Wd) : List α → List Wd
 | [] => []
 | y :: l => sg ⟨#[44]⟩ :: (g y ++ jwT g l)
def jw {α : Type} (g : α → List Wd) : List α → List Wd
 | [] => []
 | y :: l => g y ++ jwT g l
theorem list_more {D : Prop} {α : Type} {P : List Tk → Re α} {g : α → List Wd} {S : Fo} (hS : Hd S [sg ⟨#[44]⟩] none) : ∀ (l acc : List α) (k : Nat) (ts R : List Tk),(∀ x ∈ l,Rds D P (g x) x S) → ts.map wdOf = jwT g l → Tl S R → isTk ⟨#[44]⟩ R = false → l.length ≤ k → Got D (listL P k acc (ts ++ R)) (acc ++ l,R)
 | [],acc,k,ts,R,_,hm,hR,hc,hk => by
  obtain rfl := List.map_eq_nil_iff.1 hm
  rw [List.nil_append,List.append_nil]
  cases k with
  | zero => exact .inl rfl
  | succ k => rw [listL,if_neg (by rw [hc]; simp)]; exact .inl rfl
 | y :: l,acc,k,ts,R,h,hm,hR,hc,hk => by
  obtain ⟨k,rfl⟩ : ∃ j,k = j + 1 := ⟨k - 1,by simp at hk; omega⟩
  obtain ⟨a,l',rfl,h1,h2⟩ := List.map_eq_cons_iff.1 (show ts.map wdOf = sg ⟨#[44]⟩ :: (g y ++ jwT g l) from hm)
  obtain ⟨t1,t2,rfl,h3,h4⟩ := List.map_eq_append_iff.1 h2
  have hi : isTk ⟨#[44]⟩ (a :: ((t1 ++ t2) ++ R)) = true := by rw [tk_eta h1]; rfl
  rw [List.cons_append,listL,if_pos hi]
  show Got D (thenR (P ((t1 ++ t2) ++ R)) _) _
  have hT : Tl S (t2 ++ R) := by
   cases l with
   | nil =>
    obtain rfl := List.map_eq_nil_iff.1 (show t2.map wdOf = [] from h4)
    exact hR
   | cons z l =>
    refine Tl.hd (S2 := none) (vs := sg ⟨#[44]⟩ :: (g z ++ jwT g l)) ?_ h4 trivial
    cases S with
    | none => trivial
    | some A => exact hS
  rw [List.append_assoc]
  refine (h y (by simp) t1 _ h3 hT).then ?_
  have := list_more hS l (acc ++ [y]) k t2 R (fun x hx => h x (by simp [hx])) h4 hR hc (by simp at hk; omega)
  rwa [List.append_assoc] at this
theorem jwT_len {α : Type} (g : α → List Wd) : ∀ l : List α,l.length ≤ (jwT g l).length
 | [] => Nat.zero_le _
 | y :: l => by rw [jwT]; have := jwT_len g l; simp; omega
theorem rds_list {D : Prop} {α : Type} {P : List Tk → Re α} {g : α → List Wd} {S : Fo} {S' : List ByteArray} (hS : Hd S [sg ⟨#[44]⟩] none) (hS' : Hd S [] (some S')) (hc : ⟨#[44]⟩ ∉ S') {l : List α} (hl : l ≠ []) (h : ∀ x ∈ l,Rds D P (g x) x S) : Rds D (listP P) (jw g l) l (some S') := by
 obtain ⟨y,l,rfl⟩ := List.exists_cons_of_ne_nil hl
 intro ts R hm hR
 obtain ⟨t1,t2,rfl,h3,h4⟩ := List.map_eq_append_iff.1 (show ts.map wdOf = g y ++ jwT g l from hm)
 have hR' : Tl S R := Tl.hd (ts := []) hS' rfl hR
 have hT : Tl S (t2 ++ R) := by
  cases l with
  | nil =>
   obtain rfl := List.map_eq_nil_iff.1 (show t2.map wdOf = [] from h4)
   exact hR'
  | cons z l =>
   refine Tl.hd (S2 := none) (vs := sg ⟨#[44]⟩ :: (g z ++ jwT g l)) ?_ h4 trivial
   cases S with
   | none => trivial
   | some A => exact hS
 rw [listP,List.append_assoc]
 refine (h y (by simp) t1 _ h3 hT).then ?_
 have hk : l.length ≤ (t2 ++ R).length := by
  have := jwT_len g l
  rw [← h4,List.length_map] at this
  simp; omega
 exact list_more hS l [y] _ t2 R (fun x hx => h x (by simp [hx])) h4 hR' (hR.no hc) hk
theorem rds_br {D : Prop} {α : Type} {P : List Tk → Re α} {g : α → List Wd} {S : Fo} (hS : Hd S [sg ⟨#[44]⟩] none) (hS' : Hd S [] (some [⟨#[41]⟩])) {l : List α} (hl : l ≠ []) (h : ∀ x ∈ l,Rds D P (g x) x S) : Rds D (brP P) (sg ⟨#[40]⟩ :: (jw g l ++ [sg ⟨#[41]⟩])) l none :=
 Rds.seq (rds_want (w := sg ⟨#[40]⟩) (.inr rfl)) (Rds.seq (rds_list hS hS' (nmem_of rfl) hl h) (rds_want (w := sg ⟨#[41]⟩) (.inr rfl)) ⟨.inr rfl,mem_of rfl⟩) trivial
def Fr (D : Prop) (F : Re Sm → Re Sm) (ws : List Wd) (m m' : Sm) (S : Fo) : Prop := (∀ x,F (.inl x) = .inl x) ∧ ∀ ts R,ts.map wdOf = ws → Tl S R → Got D (F (.inr (m,ts ++ R))) (m',R)
theorem fr_want {D : Prop} {w : Wd} (hw : w.1 = 2 ∨ w.1 = 5) (m : Sm) : Fr D (wantR w.2.1) [w] m m none := by
 refine ⟨fun x => rfl,?_⟩
 intro ts R hm _
 obtain ⟨a,l',rfl,h1,h2⟩ := List.map_eq_cons_iff.1 hm
 obtain rfl := List.map_eq_nil_iff.1 h2
 subst h1
 have hi : isTk (wdOf a).2.1 (a :: R) = true := isTk_iff.2 ⟨hw,rfl⟩
 refine .inl ?_
 show (if isTk (wdOf a).2.1 (a :: R) then (Sum.inr (m,R) : Re Sm) else _) = _
 rw [if_pos hi]
theorem fr_fill {D : Prop} {α : Type} {P : List Tk → Re α} {ws : List Wd} {t : α} {S : Fo} (h : Rds D P ws t S) (f : Sm → α → Sm) (m : Sm) : Fr D (fillR P f) ws m (f m t) S :=
 ⟨fun x => rfl,fun ts R hm hR => (h ts R hm hR).map (f m)⟩
theorem Fr.then {D : Prop} {F G : Re Sm → Re Sm} {ws vs : List Wd} {m m' m'' : Sm} {S1 S2 : Fo} (h : Fr D F ws m m' S1) (h' : Fr D G vs m' m'' S2) (hd : Hd S1 vs S2) : Fr D (fun R => G (F R)) (ws ++ vs) m m'' S2 := by
 refine ⟨fun x => by show G (F (.inl x)) = _; rw [h.1,h'.1],?_⟩
 intro ts R hm hR
 obtain ⟨t1,t2,rfl,h1,h2⟩ := List.map_eq_append_iff.1 hm
 rw [List.append_assoc]
 show Got D (G (F _)) _
 rcases h.2 t1 _ h1 (Tl.hd hd h2 hR) with e | ⟨k,a,e⟩
 ·rw [e]; exact h'.2 t2 R h2 hR
 ·rw [e,h'.1]; exact .inr ⟨k,a,rfl⟩
theorem Fr.rds {D : Prop} {F : Re Sm → Re Sm} {ws : List Wd} {k : Int} {m' : Sm} {S : Fo} (h : Fr D F ws (sm k) m' S) : Rds D (fun ts => F (startR k (.inr ts))) ws m' S := fun ts R hm hR => h.2 ts R hm hR
def pcE (sp : Nat) : Tr → List Pc
 | .nil => []
 | .node _ op p l r =>
  if op = 1 then [(sp,if p.1 = 1 then (3,⟨#[]⟩,p.2.1) else (4,p.2.2.1,0))]
  else if op = 2 then (if p.2.2.2.1 = ⟨#[]⟩ then [(sp,(1,p.2.2.2.2,0))] else [(sp,(1,p.2.2.2.1,0)),(0,(5,⟨#[46]⟩,0)),(0,(1,p.2.2.2.2,0))])
  else if op = 3 then (sp,(5,⟨#[40]⟩,0)) :: (0,(5,⟨#[45]⟩,0)) :: (pcE 0 l ++ [(0,(5,⟨#[41]⟩,0))])
  else if op = 4 then (sp,(5,⟨#[40]⟩,0)) :: (0,(2,⟨#[110,111,116]⟩,0)) :: (pcE 1 l ++ [(0,(5,⟨#[41]⟩,0))])
  else (sp,(5,⟨#[40]⟩,0)) :: (pcE 0 l ++ (1,opW (op - 5)) :: (pcE 1 r ++ [(0,(5,⟨#[41]⟩,0))]))
theorem pcE_words (t : Tr) : ∀ sp,(pcE sp t).map Prod.snd = wdE t := by
 induction t with
 | nil => intro sp; rfl
 | node x op p l r ihl ihr =>
  intro sp
  rw [pcE,wdE]
  split
  ·rfl
  ·split
   ·split <;> rfl
   ·split
    ·simp [ihl]
    ·split
     ·simp [ihl]
     ·simp [ihl,ihr]
def Ad : Bool → List Pc → Prop
 | _,[] => True
 | b,p :: l => (b = false ∨ 0 < p.1 ∨ softW p.2 = true) ∧ Ad (!sgS p.2) l
theorem Fl.of : ∀ {b : Bool} {l : List Pc},Ad b l → (∀ w ∈ l.map Prod.snd,WdOK w) → Fl b l
 | _,[],_,_ => trivial
 | b,p :: l,h,hw => ⟨h.1,hw p.2 (by simp),Fl.of h.2 fun w m => hw w (by rw [List.map_cons]; exact List.mem_cons_of_mem _ m)⟩
theorem Ad.mono {l : List Pc} (h : Ad true l) (b : Bool) : Ad b l := by
 cases l with
 | nil => trivial
 | cons p l => exact ⟨.inr (h.1.resolve_left (by decide)),h.2⟩
theorem Ad.app : ∀ {l : List Pc} {b : Bool} {m : List Pc},Ad b l → Ad true m → Ad b (l ++ m)
 | [],b,m,_,h => h.mono b
 | p :: l,b,m,h,h' => ⟨h.1,Ad.app h.2 h'⟩
theorem Ad.cons {b : Bool} {p : Pc} {l : List Pc} (h : b = false ∨ 0 < p.1 ∨ softW p.2 = true) (h' : Ad true l) : Ad b (p :: l) := ⟨h,h'.mono _⟩
theorem Ad.sign {b : Bool} {p : Pc} {l : List Pc} (h : b = false ∨ 0 < p.1 ∨ softW p.2 = true) (hs : sgS p.2 = true) (h' : Ad false l) : Ad b (p :: l) := ⟨h,by rw [hs]; exact h'⟩
theorem ad_expr (t : Tr) : ∀ (sp : Nat) (b : Bool),(b = false ∨ 0 < sp) → Ad b (pcE sp t) := by
 induction t with
 | nil => intro sp b _; trivial
 | node x op p l r ihl ihr =>
  intro sp b hb
  have hb' : ∀ w : Wd,b = false ∨ 0 < sp ∨ softW w = true := fun w => hb.elim .inl fun h => .inr (.inl h)
  have he : Ad true [((0,(5,⟨#[41]⟩,0)) : Pc)] := ⟨.inr (.inr rfl),trivial⟩
  rw [pcE]
  split
  ·exact ⟨hb' _,trivial⟩
  ·split
   ·split
    ·exact ⟨hb' _,trivial⟩
    ·exact Ad.cons (hb' _) (Ad.sign (.inr (.inr rfl)) rfl ⟨.inl rfl,trivial⟩)
   ·split
    ·exact Ad.sign (hb' _) rfl (Ad.sign (.inl rfl) rfl ((ihl 0 false (.inl rfl)).app he))
    ·split
     ·exact Ad.sign (hb' _) rfl (Ad.cons (.inl rfl) ((ihl 1 true (.inr (by decide))).app he))
     ·exact Ad.sign (hb' _) rfl ((ihl 0 false (.inl rfl)).app (Ad.cons (.inr (.inl Nat.one_pos)) ((ihr 1 true (.inr (by decide))).app he)))
def jpT {α : Type} (g : Nat → α → List Pc) : List α → List Pc
 | [] => []
 | y :: l => (0,sg ⟨#[44]⟩) :: (g 1 y ++ jpT g l)
def jp {α : Type} (g : Nat → α → List Pc) (k : Nat) : List α → List Pc
 | [] => []
 | y :: l => g k y ++ jpT g l
theorem jpT_words {α : Type} {g : Nat → α → List Pc} {h : α → List Wd} (hg : ∀ k y,(g k y).map Prod.snd = h y) : ∀ l,(jpT g l).map Prod.snd = jwT h l
 | [] => rfl
 | y :: l => by rw [jpT,jwT,List.map_cons,List.map_append,hg,jpT_words hg l]
theorem jp_words {α : Type} {g : Nat → α → List Pc} {h : α → List Wd} (hg : ∀ k y,(g k y).map Prod.snd = h y) (k : Nat) : ∀ l,(jp g k l).map Prod.snd = jw h l
 | [] => rfl
 | y :: l => by rw [jp,jw,List.map_append,hg,jpT_words hg l]
theorem jpT_ad {α : Type} {g : Nat → α → List Pc} (hg : ∀ y,Ad true (g 1 y)) : ∀ l,Ad true (jpT g l)
 | [] => trivial
 | y :: l => Ad.sign (.inr (.inr rfl)) rfl (((hg y).app (jpT_ad hg l)).mono _)
theorem jp_ad {α : Type} {g : Nat → α → List Pc} {b : Bool} {k : Nat} (hg : ∀ y,Ad true (g 1 y)) (hk : ∀ y,Ad b (g k y)) : ∀ l,Ad b (jp g k l)
 | [] => trivial
 | y :: l => (hk y).app (jpT_ad hg l)
def pcTag (k : Nat) (z : Int) : List Pc := [(k,(3,⟨#[]⟩,z))]
def kindW (k : Int) : ByteArray := if k = 1 then ⟨#[105,110,116]⟩ else ⟨#[116,101,120,116]⟩
def pcCol (k : Nat) (c : Co) : List Pc := (k,nm c.1) :: (1,kw (kindW c.2.1)) :: (if c.2.2 = ⟨#[]⟩ then [] else [(1,kw ⟨#[114,101,102]⟩),(1,nm c.2.2)])
def aggW (g : Int) : ByteArray := if g = 2 then ⟨#[115,117,109]⟩ else if g = 3 then ⟨#[109,105,110]⟩ else ⟨#[109,97,120]⟩
def pcItem (k : Nat) (x : It) : List Pc :=
 if x.1 = 0 then pcE k (tCol x.2.1 x.2.2)
 else if x.1 = 1 then [(k,kw ⟨#[99,111,117,110,116]⟩),(0,sg ⟨#[40]⟩),(0,sg ⟨#[42]⟩),(0,sg ⟨#[41]⟩)]
 else (k,kw (aggW x.1)) :: (0,sg ⟨#[40]⟩) :: (pcE 0 (tCol x.2.1 x.2.2) ++ [(0,sg ⟨#[41]⟩)])
def pcWh : List Tr → List Pc
 | [] => []
 | t :: _ => (1,kw ⟨#[119,104,101,114,101]⟩) :: pcE 1 t
def pcStar (l : List It) : List Pc := if l = [] then [(1,sg ⟨#[42]⟩)] else jp pcItem 1 l
def pcJoin (j : ByteArray) : List Tr → List Pc
 | a :: b :: _ => (1,kw ⟨#[106,111,105,110]⟩) :: (1,nm j) :: (1,kw ⟨#[111,110]⟩) :: (pcE 1 a ++ (1,sg ⟨#[61]⟩) :: pcE 1 b)
 | _ => []
def pcOrd (d : Bool) : List Tr → List Pc
 | [] => []
 | t :: _ => (1,kw ⟨#[111,114,100,101,114]⟩) :: (1,kw ⟨#[98,121]⟩) :: (pcE 1 t ++ if d then [(1,kw ⟨#[100,101,115,99]⟩)] else [])
def pcTable (m : Sm) : List Pc := (1,nm m.name) :: (0,sg ⟨#[40]⟩) :: (jp pcCol 0 m.cols ++ [(0,sg ⟨#[41]⟩)])
def pcIndex (m : Sm) : List Pc := [(1,kw ⟨#[111,110]⟩),(1,nm m.table),(0,sg ⟨#[40]⟩),(0,nm m.name),(0,sg ⟨#[41]⟩)]
def pcInsert (m : Sm) : List Pc := (1,kw ⟨#[105,110,116,111]⟩) :: (1,nm m.table) :: (1,kw ⟨#[118,97,108,117,101,115]⟩) :: (0,sg ⟨#[40]⟩) :: (jp pcE 0 m.values ++ [(0,sg ⟨#[41]⟩)])
def pcDelete (m : Sm) : List Pc := (1,kw ⟨#[102,114,111,109]⟩) :: (1,nm m.table) :: pcWh m.wh
def pcVal : List Tr → List Pc
 | [] => []
 | t :: _ => pcE 1 t
def pcUpdate (m : Sm) : List Pc := (1,nm m.table) :: (1,kw ⟨#[115,101,116]⟩) :: (1,nm m.name) :: (1,sg ⟨#[61]⟩) :: (pcVal m.values ++ pcWh m.wh)
def pcQuery (m : Sm) : List Pc := pcStar m.items ++ (1,kw ⟨#[102,114,111,109]⟩) :: (1,nm m.table) :: (pcJoin m.join m.on ++ (pcWh m.wh ++ pcOrd m.desc m.order))
def pcS (k : Nat) (m : Sm) : List Pc :=
 if m.kind = 5 then (k,kw ⟨#[105,110,115,101,114,116]⟩) :: pcInsert m
 else if m.kind = 6 then (k,kw ⟨#[115,101,108,101,99,116]⟩) :: pcQuery m
 else if m.kind = 7 then (k,kw ⟨#[117,112,100,97,116,101]⟩) :: pcUpdate m
 else (k,kw ⟨#[100,101,108,101,116,101]⟩) :: pcDelete m
def pcDoor (m : Sm) : List Sm → List Pc
 | [] => []
 | x :: _ => (1,nm m.name) :: (1,kw ⟨#[115,116,114,105,112]⟩) :: (jp pcTag 1 m.tags ++ (1,kw ⟨#[97,115]⟩) :: pcS 1 x)
def pcF (m : Sf) : List Pc :=
 if m.1.kind = 1 then (0,kw ⟨#[99,114,101,97,116,101]⟩) :: (1,kw ⟨#[116,97,98,108,101]⟩) :: pcTable m.1
 else if m.1.kind = 2 then (0,kw ⟨#[99,114,101,97,116,101]⟩) :: (1,kw ⟨#[105,110,100,101,120]⟩) :: pcIndex m.1
 else if m.1.kind = 3 then (0,kw ⟨#[99,114,101,97,116,101]⟩) :: (1,kw ⟨#[118,105,101,119]⟩) :: pcDoor m.1 m.2
 else if m.1.kind = 4 then (0,kw ⟨#[99,114,101,97,116,101]⟩) :: (1,kw ⟨#[99,108,111,115,117,114,101]⟩) :: pcDoor m.1 m.2
 else if m.1.kind = 9 then [(0,kw ⟨#[98,101,103,105,110]⟩)]
 else if m.1.kind = 10 then [(0,kw ⟨#[99,111,109,109,105,116]⟩)]
 else if m.1.kind = 11 then [(0,kw ⟨#[114,111,108,108,98,97,99,107]⟩)]
 else if m.1.kind = 12 then (0,kw ⟨#[114,97,105,115,101]⟩) :: jp pcTag 1 m.1.tags
 else if m.1.kind = 13 then [(0,kw ⟨#[99,97,108,108]⟩),(1,nm m.1.name)]
 else pcS 0 m.1
theorem ad_clo : Ad true [((0,sg ⟨#[41]⟩) : Pc)] := ⟨.inr (.inr rfl),trivial⟩
theorem ad_e1 (t : Tr) : Ad true (pcE 1 t) := ad_expr t 1 true (.inr (by decide))
theorem ad_wh : ∀ l,Ad true (pcWh l)
 | [] => trivial
 | t :: _ => Ad.cons (.inr (.inl Nat.one_pos)) (ad_e1 t)
theorem ad_ord (d : Bool) : ∀ l,Ad true (pcOrd d l)
 | [] => trivial
 | t :: _ => Ad.cons (.inr (.inl Nat.one_pos)) (Ad.cons (.inr (.inl Nat.one_pos)) ((ad_e1 t).app (by cases d; exact trivial; exact Ad.cons (.inr (.inl Nat.one_pos)) trivial)))
theorem ad_join (j : ByteArray) : ∀ l,Ad true (pcJoin j l)
 | a :: b :: _ => Ad.cons (.inr (.inl Nat.one_pos)) (Ad.cons (.inr (.inl Nat.one_pos)) (Ad.cons (.inr (.inl Nat.one_pos)) ((ad_e1 a).app (Ad.cons (.inr (.inl Nat.one_pos)) (ad_e1 b)))))
 | [] => trivial
 | [_] => trivial
theorem ad_item (k : Nat) (b : Bool) (h : b = false ∨ 0 < k) (x : It) : Ad b (pcItem k x) := by
 have h' : ∀ w : Wd,b = false ∨ 0 < k ∨ softW w = true := fun w => h.elim .inl fun h => .inr (.inl h)
 rw [pcItem]
 split
 ·exact ad_expr _ _ _ h
 ·split
  ·exact Ad.cons (h' _) (Ad.sign (.inr (.inr rfl)) rfl (Ad.sign (.inl rfl) rfl (Ad.mono ad_clo _)))
  ·exact Ad.cons (h' _) (Ad.sign (.inr (.inr rfl)) rfl ((ad_expr _ 0 false (.inl rfl)).app ad_clo))
theorem ad_col (k : Nat) (b : Bool) (h : b = false ∨ 0 < k) (x : Co) : Ad b (pcCol k x) := by
 have h' : ∀ w : Wd,b = false ∨ 0 < k ∨ softW w = true := fun w => h.elim .inl fun h => .inr (.inl h)
 refine Ad.cons (h' _) (Ad.cons (.inr (.inl Nat.one_pos)) ?_)
 split
 ·trivial
 ·exact Ad.cons (.inr (.inl Nat.one_pos)) (Ad.cons (.inr (.inl Nat.one_pos)) trivial)
theorem ad_tags (l : List Int) : Ad true (jp pcTag 1 l) := jp_ad (g := pcTag) (b := true) (k := 1) (fun y => ⟨.inr (.inl Nat.one_pos),trivial⟩) (fun y => ⟨.inr (.inl Nat.one_pos),trivial⟩) l
theorem ad_star (l : List It) : Ad true (pcStar l) := by
 rw [pcStar]
 split
 ·exact ⟨.inr (.inl Nat.one_pos),trivial⟩
 ·exact jp_ad (fun y => ad_item 1 true (.inr (by decide)) y) (fun y => ad_item 1 true (.inr (by decide)) y) l
theorem ad_val : ∀ l,Ad true (pcVal l)
 | [] => trivial
 | t :: _ => ad_e1 t
theorem ad_s (k : Nat) (b : Bool) (h : b = false ∨ 0 < k) (m : Sm) : Ad b (pcS k m) := by
 have h' : ∀ w : Wd,b = false ∨ 0 < k ∨ softW w = true := fun w => h.elim .inl fun h => .inr (.inl h)
 rw [pcS]
 split
 ·exact Ad.cons (h' _) (Ad.cons (.inr (.inl Nat.one_pos)) (Ad.cons (.inr (.inl Nat.one_pos)) (Ad.cons (.inr (.inl Nat.one_pos)) (Ad.sign (.inr (.inr rfl)) rfl ((jp_ad ad_e1 (fun y => ad_expr y 0 false (.inl rfl)) _).app ad_clo)))))
 ·split
  ·exact Ad.cons (h' _) ((ad_star _).app (Ad.cons (.inr (.inl Nat.one_pos)) (Ad.cons (.inr (.inl Nat.one_pos)) ((ad_join _ _).app ((ad_wh _).app (ad_ord _ _))))))
  ·split
   ·exact Ad.cons (h' _) (Ad.cons (.inr (.inl Nat.one_pos)) (Ad.cons (.inr (.inl Nat.one_pos)) (Ad.cons (.inr (.inl Nat.one_pos)) (Ad.cons (.inr (.inl Nat.one_pos)) ((ad_val _).app (ad_wh _))))))
   ·exact Ad.cons (h' _) (Ad.cons (.inr (.inl Nat.one_pos)) (Ad.cons (.inr (.inl Nat.one_pos)) (ad_wh _)))
theorem ad_door (m : Sm) : ∀ l,Ad true (pcDoor m l)
 | [] => trivial
 | x :: _ => Ad.cons (.inr (.inl Nat.one_pos)) (Ad.cons (.inr (.inl Nat.one_pos)) ((ad_tags _).app (Ad.cons (.inr (.inl Nat.one_pos)) (ad_s 1 true (.inr (by decide)) x))))
theorem ad_f (m : Sf) : Ad false (pcF m) := by
 rw [pcF]
 split
 ·exact Ad.cons (.inl rfl) (Ad.cons (.inr (.inl Nat.one_pos)) (Ad.cons (.inr (.inl Nat.one_pos)) (Ad.sign (.inr (.inr rfl)) rfl ((jp_ad (fun y => ad_col 1 true (.inr (by decide)) y) (fun y => ad_col 0 false (.inl rfl) y) _).app ad_clo))))
 split
 ·exact Ad.cons (.inl rfl) (Ad.cons (.inr (.inl Nat.one_pos)) (Ad.cons (.inr (.inl Nat.one_pos)) (Ad.cons (.inr (.inl Nat.one_pos)) (Ad.sign (.inr (.inr rfl)) rfl (Ad.cons (.inl rfl) ad_clo)))))
 split
 ·exact Ad.cons (.inl rfl) (Ad.cons (.inr (.inl Nat.one_pos)) (ad_door _ _))
 split
 ·exact Ad.cons (.inl rfl) (Ad.cons (.inr (.inl Nat.one_pos)) (ad_door _ _))
 split
 ·exact ⟨.inl rfl,trivial⟩
 split
 ·exact ⟨.inl rfl,trivial⟩
 split
 ·exact ⟨.inl rfl,trivial⟩
 split
 ·exact Ad.cons (.inl rfl) (ad_tags _)
 split
 ·exact Ad.cons (.inl rfl) (Ad.cons (.inr (.inl Nat.one_pos)) trivial)
 ·exact ad_s 0 false (.inl rfl) _
end Go.Proofs.YtfopfhlohihihaaGreat
