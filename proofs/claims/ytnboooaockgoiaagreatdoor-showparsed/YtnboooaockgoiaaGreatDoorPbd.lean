import Derived.Test.YtnboooaockgoiaaGreatDoorPaz
import Derived.Test.YtnboooaockgoiaaGreatDoorPbc
namespace Go.Proofs.YtnboooaockgoiaaGreatDoor
open Go.RowKit
set_option linter.unusedVariables false
set_option linter.unusedSimpArgs false

def joS (j : ByteArray) (on : List Tr) (s : Ws) : Ws :=
  if j = ⟨#[]⟩ then s else
  match on with
  | a :: b :: _ => exS b (woS ⟨#[61]⟩ (exS a (wosS [⟨#[106, 111, 105, 110]⟩, j, ⟨#[111, 110]⟩] s)))
  | _ => s
def qs1 (m : Sm) (s : Ws) : Ws := if m.items = [] then woS ⟨#[42]⟩ (woS ⟨#[115, 101, 108, 101, 99, 116]⟩ s) else liS itS m.items (woS ⟨#[115, 101, 108, 101, 99, 116]⟩ s)
def qs2 (m : Sm) (s : Ws) : Ws := behS exS m.order [⟨#[111, 114, 100, 101, 114]⟩, ⟨#[98, 121]⟩] (behS exS m.wh [⟨#[119, 104, 101, 114, 101]⟩] (joS m.join m.on (wosS [⟨#[102, 114, 111, 109]⟩, m.table] (qs1 m s))))
def quS (m : Sm) (s : Ws) : Ws := if m.desc = true then woS ⟨#[100, 101, 115, 99]⟩ (qs2 m s) else qs2 m s
def stS (m : Sm) (s : Ws) : Ws :=
  if m.kind = 5 then brS exS m.values (wosS [⟨#[105, 110, 115, 101, 114, 116]⟩, ⟨#[105, 110, 116, 111]⟩, m.table, ⟨#[118, 97, 108, 117, 101, 115]⟩] s)
  else if m.kind = 6 then quS m s
  else if m.kind = 7 then behS exS m.wh [⟨#[119, 104, 101, 114, 101]⟩] (liS exS m.values (wosS [⟨#[117, 112, 100, 97, 116, 101]⟩, m.table, ⟨#[115, 101, 116]⟩, m.name, ⟨#[61]⟩] s))
  else behS exS m.wh [⟨#[119, 104, 101, 114, 101]⟩] (wosS [⟨#[100, 101, 108, 101, 116, 101]⟩, ⟨#[102, 114, 111, 109]⟩, m.table] s)
def doS (kd : ByteArray) (m : Sm) (l : List Sm) (s : Ws) : Ws := liS stS l (woS ⟨#[97, 115]⟩ (liS taS m.tags (wosS [⟨#[99, 114, 101, 97, 116, 101]⟩, kd, m.name, ⟨#[115, 116, 114, 105, 112]⟩] s)))
def sfS (m : Sf) (s : Ws) : Ws :=
  if m.1.kind = 1 then brS coS m.1.cols (wosS [⟨#[99, 114, 101, 97, 116, 101]⟩, ⟨#[116, 97, 98, 108, 101]⟩, m.1.name] s)
  else if m.1.kind = 2 then brS woS [m.1.name] (wosS [⟨#[99, 114, 101, 97, 116, 101]⟩, ⟨#[105, 110, 100, 101, 120]⟩, ⟨#[111, 110]⟩, m.1.table] s)
  else if m.1.kind = 3 then doS ⟨#[118, 105, 101, 119]⟩ m.1 m.2 s
  else if m.1.kind = 4 then doS ⟨#[99, 108, 111, 115, 117, 114, 101]⟩ m.1 m.2 s
  else if m.1.kind = 9 then woS ⟨#[98, 101, 103, 105, 110]⟩ s
  else if m.1.kind = 10 then woS ⟨#[99, 111, 109, 109, 105, 116]⟩ s
  else if m.1.kind = 11 then woS ⟨#[114, 111, 108, 108, 98, 97, 99, 107]⟩ s
  else if m.1.kind = 12 then liS taS m.1.tags (woS ⟨#[114, 97, 105, 115, 101]⟩ s)
  else if m.1.kind = 13 then wosS [⟨#[99, 97, 108, 108]⟩, m.1.name] s
  else stS m.1 s
theorem joS_mo (j : ByteArray) (on : List Tr) (s : Ws) : s.1.length ≤ (joS j on s).1.length := by
  unfold joS
  split
  · exact Nat.le_refl _
  split
  · exact Nat.le_trans (wosS_mo _ _) (Nat.le_trans (exS_mo _ _) (Nat.le_trans (woS_mo _ _) (exS_mo _ _)))
  · exact Nat.le_refl _
theorem qs1_mo (m : Sm) (s : Ws) : s.1.length ≤ (qs1 m s).1.length := by
  unfold qs1
  split
  · exact Nat.le_trans (woS_mo _ _) (woS_mo _ _)
  · exact Nat.le_trans (woS_mo _ _) (liS_mo itS_mo _ _)
theorem qs2_mo (m : Sm) (s : Ws) : s.1.length ≤ (qs2 m s).1.length := Nat.le_trans (qs1_mo m s) (Nat.le_trans (wosS_mo _ _) (Nat.le_trans (joS_mo _ _ _) (Nat.le_trans (behS_mo exS_mo _ _ _) (behS_mo exS_mo _ _ _))))
theorem quS_mo (m : Sm) (s : Ws) : s.1.length ≤ (quS m s).1.length := by
  unfold quS
  split
  · exact Nat.le_trans (qs2_mo m s) (woS_mo _ _)
  · exact qs2_mo m s
theorem stS_mo (m : Sm) (s : Ws) : s.1.length ≤ (stS m s).1.length := by
  unfold stS
  split
  · exact Nat.le_trans (wosS_mo _ _) (brS_mo exS_mo _ _)
  split
  · exact quS_mo m s
  split
  · exact Nat.le_trans (wosS_mo _ _) (Nat.le_trans (liS_mo exS_mo _ _) (behS_mo exS_mo _ _ _))
  · exact Nat.le_trans (wosS_mo _ _) (behS_mo exS_mo _ _ _)

/-- Pieces, all of whose words are good. -/
theorem AllP.fst {p : Pc} {l : List Pc} (h : AllP (p :: l)) : WdOK p.2 := h p (by simp)
theorem AllP.tl {p : Pc} {l : List Pc} (h : AllP (p :: l)) : AllP l := fun q hq => h q (by simp [hq])
theorem AllP.lf {l m : List Pc} (h : AllP (l ++ m)) : AllP l := fun q hq => h q (by simp [hq])
theorem AllP.rt {l m : List Pc} (h : AllP (l ++ m)) : AllP m := fun q hq => h q (by simp [hq])
theorem AllP.e {t : Tr} {k : Nat} (h : AllP (pcE k t)) : ∀ w ∈ wdE t, WdOK w := fun w hw => by
  rw [← pcE_words t k] at hw
  exact h.words w hw
theorem all_inT {α : Type} {g : Nat → α → List Pc} : ∀ {l : List α}, AllP (jpT g l) → ∀ y ∈ l, AllP (g 1 y)
  | [], _, y, hy => absurd hy (by simp)
  | z :: l, h, y, hy => by
    rw [jpT] at h
    rcases List.mem_cons.1 hy with rfl | hy
    · exact h.tl.lf
    · exact all_inT h.tl.rt y hy
theorem all_inE {l : List Tr} {k : Nat} (h : AllP (jp pcE k l)) : ∀ t ∈ l, ∀ w ∈ wdE t, WdOK w := by
  cases l with
  | nil => intro t ht; cases ht
  | cons x l =>
    intro t ht
    rw [jp] at h
    rcases List.mem_cons.1 ht with rfl | ht
    · exact h.lf.e
    · exact (all_inT h.rt t ht).e
theorem nm_ne {s : ByteArray} (h : WdOK (nm s)) : s ≠ ⟨#[]⟩ := by
  rintro rfl
  rcases h with ⟨c, n, _, _, _, e⟩ | ⟨z, _, e⟩ | ⟨q, _, _, e⟩ | ⟨c, _, e⟩ | ⟨c, n, _, e⟩
  · have := congrArg (fun w : Wd => w.2.1.data.size) e
    simp [nm] at this
  · have := congrArg (fun w : Wd => w.1) e
    simp [nm] at this
  · have := congrArg (fun w : Wd => w.1) e
    simp [nm] at this
  · have := congrArg (fun w : Wd => w.1) e
    simp [nm] at this
  · have := congrArg (fun w : Wd => w.1) e
    simp [nm] at this
theorem beh_wh {D : Prop} {l : List Tr} (h : One D l) (hw : AllP (pcWh l)) {P : Nat → List Pc} (s : Ws) : behS exS l [⟨#[119, 104, 101, 114, 101]⟩] (pcW P s) = pcW (fun k => P k ++ pcWh l) s := by
  rcases h with rfl | ⟨t, rfl, d, ht, _⟩
  · show pcW P s = _
    simp [pcWh]
  · have e : behS exS [t] [⟨#[119, 104, 101, 114, 101]⟩] (pcW P s) = exS t (woS ⟨#[119, 104, 101, 114, 101]⟩ (pcW P s)) := rfl
    rw [e, exS_pc ht hw.tl.e, woS_kw, pcW_seq, pcW_seq]
    simp [pcWh]
theorem beh_or {d : Bool} {l : List Tr} (h : OrOK d l) (hw : AllP (pcOrd d l)) {P : Nat → List Pc} (s : Ws) : (if d = true then woS ⟨#[100, 101, 115, 99]⟩ (behS exS l [⟨#[111, 114, 100, 101, 114]⟩, ⟨#[98, 121]⟩] (pcW P s)) else behS exS l [⟨#[111, 114, 100, 101, 114]⟩, ⟨#[98, 121]⟩] (pcW P s)) = pcW (fun k => P k ++ pcOrd d l) s := by
  rcases h with ⟨rfl, rfl⟩ | ⟨t, rfl, a, b, rfl⟩
  · show pcW P s = _
    simp [pcOrd]
  · have e : behS exS [tCol a b] [⟨#[111, 114, 100, 101, 114]⟩, ⟨#[98, 121]⟩] (pcW P s) = exS (tCol a b) (woS ⟨#[98, 121]⟩ (woS ⟨#[111, 114, 100, 101, 114]⟩ (pcW P s))) := rfl
    rw [e, exS_pc (Cn.col 0 a b) hw.tl.tl.lf.e, woS_kw ⟨#[111, 114, 100, 101, 114]⟩, woS_kw ⟨#[98, 121]⟩, pcW_seq, pcW_seq, pcW_seq]
    cases d with
    | false =>
      rw [if_neg (by simp)]
      simp [pcOrd]
    | true =>
      rw [if_pos rfl, woS_kw ⟨#[100, 101, 115, 99]⟩, pcW_seq]
      simp [pcOrd]
theorem joS_pc {j : ByteArray} {l : List Tr} (h : JoOK j l) (hw : AllP (pcJoin j l)) {P : Nat → List Pc} (s : Ws) : joS j l (pcW P s) = pcW (fun k => P k ++ pcJoin j l) s := by
  rcases h with ⟨rfl, rfl⟩ | ⟨a, b, rfl, ⟨a1, a2, rfl⟩, ⟨b1, b2, rfl⟩⟩
  · have e : joS ⟨#[]⟩ [] (pcW P s) = pcW P s := if_pos rfl
    rw [e]
    show _ = pcW (fun k => P k ++ []) s
    simp
  · rw [pcJoin] at hw
    rw [joS, if_neg (nm_ne hw.tl.fst)]
    show exS (tCol b1 b2) (woS ⟨#[61]⟩ (exS (tCol a1 a2) (wosS [⟨#[106, 111, 105, 110]⟩, j, ⟨#[111, 110]⟩] (pcW P s)))) = _
    rw [wosS_cons, wosS_cons, wosS_cons, wosS_nil, exS_pc (Cn.col 0 b1 b2) hw.tl.tl.tl.rt.tl.e, exS_pc (Cn.col 0 a1 a2) hw.tl.tl.tl.lf.e, woS_kw ⟨#[106, 111, 105, 110]⟩, woS_nm j, woS_kw ⟨#[111, 110]⟩, woS_sg ⟨#[61]⟩, pcW_seq, pcW_seq, pcW_seq, pcW_seq, pcW_seq, pcW_seq]
    simp [pcJoin]
theorem qs1_pc (m : Sm) (s : Ws) : qs1 m s = pcW (fun k => (k, kw ⟨#[115, 101, 108, 101, 99, 116]⟩) :: pcStar m.items) s := by
  unfold qs1 pcStar
  split
  · rw [woS_kw ⟨#[115, 101, 108, 101, 99, 116]⟩, woS_sg ⟨#[42]⟩, pcW_seq]
    rfl
  · rename_i h
    rw [woS_kw ⟨#[115, 101, 108, 101, 99, 116]⟩, liS_pc (g := pcItem) h (fun x _ s => itS_pc x s), pcW_seq]
    rfl
theorem quS_pc {D : Prop} {m : Sm} (hj : JoOK m.join m.on) (hw : One D m.wh) (ho : OrOK m.desc m.order) (hp : AllP (pcQuery m)) (s : Ws) : quS m s = pcW (fun k => (k, kw ⟨#[115, 101, 108, 101, 99, 116]⟩) :: pcQuery m) s := by
  rw [pcQuery] at hp
  have h1 := hp.rt.tl.tl
  rw [quS, qs2, qs1_pc, wosS_cons, wosS_cons, wosS_nil, woS_kw ⟨#[102, 114, 111, 109]⟩, woS_nm m.table, pcW_seq, pcW_seq, joS_pc hj h1.lf, beh_wh hw h1.rt.lf, beh_or ho h1.rt.rt]
  simp [pcQuery]
theorem stS_pc {D : Prop} {m : Sm} (h : SmOK D m) {k0 : Nat} (hp : AllP (pcS k0 m)) (s : Ws) : stS m s = pcW (fun k => pcS k m) s := by
  rcases h with ⟨tb, vs, h0, h, rfl⟩ | ⟨its, tb, j, on, wh, od, d, hi, hj, hw, ho, rfl⟩ | ⟨tb, n, t, wh, ⟨d, ht, hd⟩, h, rfl⟩ | ⟨tb, wh, h, rfl⟩
  · have e : ∀ k, pcS k (up_va (up_tb (sm 5) tb) vs) = (k, kw ⟨#[105, 110, 115, 101, 114, 116]⟩) :: (1, kw ⟨#[105, 110, 116, 111]⟩) :: (1, nm tb) :: (1, kw ⟨#[118, 97, 108, 117, 101, 115]⟩) :: (0, sg ⟨#[40]⟩) :: (jp pcE 0 vs ++ [(0, sg ⟨#[41]⟩)]) := fun k => rfl
    rw [e] at hp
    have hE := all_inE hp.tl.tl.tl.tl.tl.lf
    have e2 : stS (up_va (up_tb (sm 5) tb) vs) s = brS exS vs (wosS [⟨#[105, 110, 115, 101, 114, 116]⟩, ⟨#[105, 110, 116, 111]⟩, tb, ⟨#[118, 97, 108, 117, 101, 115]⟩] s) := rfl
    rw [e2, wosS_cons, wosS_cons, wosS_cons, wosS_cons, wosS_nil, woS_kw ⟨#[105, 110, 115, 101, 114, 116]⟩, woS_kw ⟨#[105, 110, 116, 111]⟩, woS_nm tb, woS_kw ⟨#[118, 97, 108, 117, 101, 115]⟩, pcW_seq, pcW_seq, pcW_seq, brS_pc (g := pcE) h0 (fun x hx s => exS_pc (h x hx).choose_spec.1 (hE x hx) s), pcW_seq]
    simp only [e]
    rfl
  · have e : ∀ k, pcS k (up_oo (up_wh (up_jo (up_tb (up_it (sm 6) its) tb) (j, on)) wh) (od, d)) = (k, kw ⟨#[115, 101, 108, 101, 99, 116]⟩) :: pcQuery (up_oo (up_wh (up_jo (up_tb (up_it (sm 6) its) tb) (j, on)) wh) (od, d)) := fun k => rfl
    rw [e] at hp
    have e2 : stS (up_oo (up_wh (up_jo (up_tb (up_it (sm 6) its) tb) (j, on)) wh) (od, d)) s = quS (up_oo (up_wh (up_jo (up_tb (up_it (sm 6) its) tb) (j, on)) wh) (od, d)) s := rfl
    rw [e2, quS_pc (D := D) hj hw ho hp.tl]
    simp only [e]
  · have e : ∀ k, pcS k (up_wh (up_va (up_nm (up_tb (sm 7) tb) n) [t]) wh) = (k, kw ⟨#[117, 112, 100, 97, 116, 101]⟩) :: (1, nm tb) :: (1, kw ⟨#[115, 101, 116]⟩) :: (1, nm n) :: (1, sg ⟨#[61]⟩) :: (pcE 1 t ++ pcWh wh) := fun k => rfl
    rw [e] at hp
    have e2 : stS (up_wh (up_va (up_nm (up_tb (sm 7) tb) n) [t]) wh) s = behS exS wh [⟨#[119, 104, 101, 114, 101]⟩] (exS t (wosS [⟨#[117, 112, 100, 97, 116, 101]⟩, tb, ⟨#[115, 101, 116]⟩, n, ⟨#[61]⟩] s)) := rfl
    rw [e2, wosS_cons, wosS_cons, wosS_cons, wosS_cons, wosS_cons, wosS_nil, woS_kw ⟨#[117, 112, 100, 97, 116, 101]⟩, woS_nm tb, woS_kw ⟨#[115, 101, 116]⟩, woS_nm n, woS_sg ⟨#[61]⟩, pcW_seq, pcW_seq, pcW_seq, pcW_seq, exS_pc ht hp.tl.tl.tl.tl.tl.lf.e, pcW_seq, beh_wh h hp.tl.tl.tl.tl.tl.rt]
    simp only [e]
    simp
  · have e : ∀ k, pcS k (up_wh (up_tb (sm 8) tb) wh) = (k, kw ⟨#[100, 101, 108, 101, 116, 101]⟩) :: (1, kw ⟨#[102, 114, 111, 109]⟩) :: (1, nm tb) :: pcWh wh := fun k => rfl
    rw [e] at hp
    have e2 : stS (up_wh (up_tb (sm 8) tb) wh) s = behS exS wh [⟨#[119, 104, 101, 114, 101]⟩] (wosS [⟨#[100, 101, 108, 101, 116, 101]⟩, ⟨#[102, 114, 111, 109]⟩, tb] s) := rfl
    rw [e2, wosS_cons, wosS_cons, wosS_cons, wosS_nil, woS_kw ⟨#[100, 101, 108, 101, 116, 101]⟩, woS_kw ⟨#[102, 114, 111, 109]⟩, woS_nm tb, pcW_seq, pcW_seq, beh_wh h hp.tl.tl.tl]
    simp only [e]
    simp
theorem ta_pc {l : List Int} (h : ∀ z ∈ l, TaOK z) {P : Nat → List Pc} (s : Ws) : liS taS l (pcW P s) = pcW (fun k => P k ++ jp pcTag 1 l) s := by
  by_cases h0 : l = []
  · subst h0
    show pcW P s = _
    simp [jp]
  · rw [liS_pc (g := pcTag) h0 (fun z hz s => taS_pc (h z hz) s), pcW_seq]
theorem doS_pc {D : Prop} {kd : ByteArray} {m x : Sm} (h : ∀ z ∈ m.tags, TaOK z) (hx : SmOK D x) (hp : AllP (pcDoor m [x])) (s : Ws) : doS kd m [x] s = pcW (fun k => (k, kw ⟨#[99, 114, 101, 97, 116, 101]⟩) :: (1, kw kd) :: pcDoor m [x]) s := by
  rw [pcDoor] at hp
  have e : doS kd m [x] s = stS x (woS ⟨#[97, 115]⟩ (liS taS m.tags (wosS [⟨#[99, 114, 101, 97, 116, 101]⟩, kd, m.name, ⟨#[115, 116, 114, 105, 112]⟩] s))) := rfl
  rw [e, wosS_cons, wosS_cons, wosS_cons, wosS_cons, wosS_nil, woS_kw ⟨#[99, 114, 101, 97, 116, 101]⟩, woS_kw kd, woS_nm m.name, woS_kw ⟨#[115, 116, 114, 105, 112]⟩, pcW_seq, pcW_seq, pcW_seq, ta_pc h, woS_kw ⟨#[97, 115]⟩, pcW_seq, stS_pc hx hp.tl.tl.rt.tl, pcW_seq]
  simp [pcDoor]
/-- The whole text. -/
theorem sfS_pc {D : Prop} {m : Sf} (h : SfOK D m) (hp : AllP (pcF m)) : sfS m ([], false) = (I8 (ren (pcF m)), true) := by
  have key : ∀ P : Nat → List Pc, pcW P ([], false) = (I8 (ren (P 0)), true) := fun P => by
    unfold pcW
    simp [spN]
  rcases h with ⟨x, hx, rfl⟩ | ⟨n, cs, h0, hc, rfl⟩ | ⟨tb, n, rfl⟩ | ⟨n, tg, x, ht, hx, h6, rfl⟩ | ⟨n, tg, x, ht, hx, h6, rfl⟩ | ⟨k, hk, rfl⟩ | ⟨tg, h0, ht, rfl⟩ | ⟨n, rfl⟩
  · have e1 : pcF (x, []) = pcS 0 x := by rcases hx with ⟨_, _, _, _, rfl⟩ | ⟨_, _, _, _, _, _, _, _, _, _, _, rfl⟩ | ⟨_, _, _, _, _, _, rfl⟩ | ⟨_, _, _, rfl⟩ <;> rfl
    have e2 : sfS (x, []) ([], false) = stS x ([], false) := by rcases hx with ⟨_, _, _, _, rfl⟩ | ⟨_, _, _, _, _, _, _, _, _, _, _, rfl⟩ | ⟨_, _, _, _, _, _, rfl⟩ | ⟨_, _, _, rfl⟩ <;> rfl
    rw [e1] at hp ⊢
    rw [e2, stS_pc hx hp, key]
  · have e2 : sfS (up_co (up_nm (sm 1) n) cs, []) ([], false) = brS coS cs (wosS [⟨#[99, 114, 101, 97, 116, 101]⟩, ⟨#[116, 97, 98, 108, 101]⟩, n] ([], false)) := rfl
    rw [e2, wosS_cons, wosS_cons, wosS_cons, wosS_nil, woS_kw ⟨#[99, 114, 101, 97, 116, 101]⟩, woS_kw ⟨#[116, 97, 98, 108, 101]⟩, woS_nm n, pcW_seq, pcW_seq, brS_pc (g := pcCol) h0 (fun c hm s => coS_pc (hc c hm) s), pcW_seq, key]
    rfl
  · have e2 : sfS (up_nm (up_tb (sm 2) tb) n, []) ([], false) = brS woS [n] (wosS [⟨#[99, 114, 101, 97, 116, 101]⟩, ⟨#[105, 110, 100, 101, 120]⟩, ⟨#[111, 110]⟩, tb] ([], false)) := rfl
    rw [e2, wosS_cons, wosS_cons, wosS_cons, wosS_cons, wosS_nil, woS_kw ⟨#[99, 114, 101, 97, 116, 101]⟩, woS_kw ⟨#[105, 110, 100, 101, 120]⟩, woS_kw ⟨#[111, 110]⟩, woS_nm tb, pcW_seq, pcW_seq, pcW_seq, brS_pc (g := fun k t => [(k, nm t)]) (by simp) (fun c _ s => woS_nm c s), pcW_seq, key]
    rfl
  · have e2 : sfS (up_ta (up_nm (sm 3) n) tg, [x]) ([], false) = doS ⟨#[118, 105, 101, 119]⟩ (up_ta (up_nm (sm 3) n) tg) [x] ([], false) := rfl
    rw [e2, doS_pc ht hx (show AllP (pcDoor (up_ta (up_nm (sm 3) n) tg) [x]) from hp.tl.tl), key]
    rfl
  · have e2 : sfS (up_ta (up_nm (sm 4) n) tg, [x]) ([], false) = doS ⟨#[99, 108, 111, 115, 117, 114, 101]⟩ (up_ta (up_nm (sm 4) n) tg) [x] ([], false) := rfl
    rw [e2, doS_pc ht hx (show AllP (pcDoor (up_ta (up_nm (sm 4) n) tg) [x]) from hp.tl.tl), key]
    rfl
  · rcases hk with rfl | rfl | rfl
    · have e2 : sfS (sm 9, []) ([], false) = woS ⟨#[98, 101, 103, 105, 110]⟩ ([], false) := rfl
      rw [e2, woS_kw, key]
      rfl
    · have e2 : sfS (sm 10, []) ([], false) = woS ⟨#[99, 111, 109, 109, 105, 116]⟩ ([], false) := rfl
      rw [e2, woS_kw, key]
      rfl
    · have e2 : sfS (sm 11, []) ([], false) = woS ⟨#[114, 111, 108, 108, 98, 97, 99, 107]⟩ ([], false) := rfl
      rw [e2, woS_kw, key]
      rfl
  · have e2 : sfS (up_ta (sm 12) tg, []) ([], false) = liS taS tg (woS ⟨#[114, 97, 105, 115, 101]⟩ ([], false)) := rfl
    rw [e2, woS_kw, ta_pc ht, key]
    rfl
  · have e2 : sfS (up_nm (sm 13) n, []) ([], false) = wosS [⟨#[99, 97, 108, 108]⟩, n] ([], false) := rfl
    rw [e2, wosS_cons, wosS_cons, wosS_nil, woS_kw ⟨#[99, 97, 108, 108]⟩, woS_nm n, pcW_seq, key]
    rfl

end Go.Proofs.YtnboooaockgoiaaGreatDoor
namespace Go.Proofs.YtnboooaockgoiaaGreatDoor
open Go.RowKit
set_option linter.unusedVariables false
set_option linter.unusedSimpArgs false

set_option maxRecDepth 100000 in
set_option maxHeartbeats 4000000 in
theorem wQuery_any {g : Nat} {v : Sl} {s0 : Ws} {w : World} (h : Wt w g v s0.1 s0.2) (he : Ev g w) {m : Sm} {s : Sv} (hI : IsS (fun k => k < g) w m s) (hit : ∀ x ∈ m.items, x.1 = 0 ∨ x.1 = 1 ∨ x.1 = 2 ∨ x.1 = 3 ∨ x.1 = 4) (hj : m.join = ⟨#[]⟩ ∨ ∃ a b, m.on = [a, b]) (hon : ∀ t ∈ m.on, WfS t) (hwh : ∀ t ∈ m.wh, WfS t) (hod : ∀ t ∈ m.order, WfS t) (hz : (quS m s0).1.length ≤ 700000) :
    Calls Tryz.prog 64 #[.pointer (some ⟨g, 0, none⟩), stV s] w (TeS2 g v w (quS m s0)) := by
  obtain ⟨mk, mtb, mnm, mco, mta, mva, mit, mjn, mon, mwh, mod, mds⟩ := m
  obtain ⟨sk, stb, snm, ⟨coa, con, coc⟩, ⟨taa, tan, tac⟩, ⟨vaa, van, vac⟩, ⟨ita, itn, itc⟩, sjn, ⟨ona, onn, onc⟩, ⟨wha, whn, whc⟩, ⟨oda, odn, odc⟩, sds, ⟨nna, nnn, nnc⟩⟩ := s
  obtain ⟨e0, e1, e2, rco, rta, rva, rit, e7, ron, rwh, rod, e11⟩ := hI
  dsimp only at *
  subst e0 e1 e2 e7 e11
  obtain ⟨S1, E1⟩ : ∃ S, S = woS ⟨#[115, 101, 108, 101, 99, 116]⟩ s0 := ⟨_, rfl⟩
  obtain ⟨S2, E2⟩ : ∃ S, S = if mit = [] then woS ⟨#[42]⟩ S1 else S1 := ⟨_, rfl⟩
  obtain ⟨S3, E3⟩ : ∃ S, S = liS itS mit S2 := ⟨_, rfl⟩
  obtain ⟨S4, E4⟩ : ∃ S, S = wosS [⟨#[102, 114, 111, 109]⟩, stb] S3 := ⟨_, rfl⟩
  obtain ⟨S5, E5⟩ : ∃ S, S = joS sjn mon S4 := ⟨_, rfl⟩
  obtain ⟨S6, E6⟩ : ∃ S, S = behS exS mwh [⟨#[119, 104, 101, 114, 101]⟩] S5 := ⟨_, rfl⟩
  obtain ⟨S7, E7⟩ : ∃ S, S = behS exS mod [⟨#[111, 114, 100, 101, 114]⟩, ⟨#[98, 121]⟩] S6 := ⟨_, rfl⟩
  have E8 : quS ⟨sk, stb, snm, mco, mta, mva, mit, sjn, mon, mwh, mod, sds⟩ s0 = if sds = true then woS ⟨#[100, 101, 115, 99]⟩ S7 else S7 := by
    have e : qs1 ⟨sk, stb, snm, mco, mta, mva, mit, sjn, mon, mwh, mod, sds⟩ s0 = S3 := by
      rw [E3, E2, E1]
      unfold qs1
      by_cases h0 : mit = []
      · rw [if_pos h0, if_pos h0, h0]
        rfl
      · rw [if_neg h0, if_neg h0]
    rw [quS, qs2, e, E7, E6, E5, E4]
  rw [E8] at hz ⊢
  have z7 : S7.1.length ≤ 700000 := by
    split at hz
    · exact Nat.le_trans (woS_mo _ _) hz
    · exact hz
  have z6 : S6.1.length ≤ S7.1.length := by rw [E7]; exact behS_mo exS_mo _ _ _
  have z5 : S5.1.length ≤ S6.1.length := by rw [E6]; exact behS_mo exS_mo _ _ _
  have z4 : S4.1.length ≤ S5.1.length := by rw [E5]; exact joS_mo _ _ _
  have z3 : S3.1.length ≤ S4.1.length := by rw [E4]; exact wosS_mo _ _
  have z2 : S2.1.length ≤ S3.1.length := by rw [E3]; exact liS_mo itS_mo _ _
  have z1 : S1.1.length ≤ S2.1.length := by rw [E2]; split; exact woS_mo _ _; exact Nat.le_refl _
  have z0 : s0.1.length + 6 ≤ S1.1.length := by rw [E1]; exact woS_le ⟨#[115, 101, 108, 101, 99, 116]⟩ s0
  generalize hZ : (if sds = true then woS ⟨#[100, 101, 115, 99]⟩ S7 else S7) = Z at *
  replace hZ : Hid _ := hid hZ
  replace E1 : Hid _ := hid E1
  replace E2 : Hid _ := hid E2
  replace E3 : Hid _ := hid E3
  replace E4 : Hid _ := hid E4
  replace E5 : Hid _ := hid E5
  replace E6 : Hid _ := hid E6
  replace E7 : Hid _ := hid E7
  clear E8
  obtain ⟨it1, it2, it3⟩ := rit.nc
  obtain ⟨on1, on2, on3⟩ := ron.nc
  obtain ⟨wh1, wh2, wh3⟩ := rwh.nc
  obtain ⟨od1, od2, od3⟩ := rod.nc
  dsimp only at it1 it2 it3 on1 on2 on3 wh1 wh2 wh3 od1 od2 od3
  have hit0 : mit = [] ↔ itn = 0 := by rw [← it1]; exact List.length_eq_zero_iff.symm
  replace hit0 : Hid _ := hid hit0
  replace it1 : Hid _ := hid it1
  replace on1 : Hid _ := hid on1
  replace wh1 : Hid _ := hid wh1
  replace od1 : Hid _ := hid od1
  have K0 : Wk g v (w.alloc (.cells #[.int .i64 sk, .string stb, .string snm, .slice coa con coc, .slice taa tan tac, .slice vaa van vac, .slice ita itn itc, .string sjn, .slice ona onn onc, .slice wha whn whc, .slice oda odn odc, .bool sds, .slice nna nnn nnc] 48)) w.heap.size (⟨sk, stb, snm, (coa, con, coc), (taa, tan, tac), (vaa, van, vac), (ita, itn, itc), sjn, (ona, onn, onc), (wha, whn, whc), (oda, odn, odc), sds, (nna, nnn, nnc)⟩ : Sv) (w.alloc (.cells #[.int .i64 sk, .string stb, .string snm, .slice coa con coc, .slice taa tan tac, .slice vaa van vac, .slice ita itn itc, .string sjn, .slice ona onn onc, .slice wha whn whc, .slice oda odn odc, .bool sds, .slice nna nnn nnc] 48)) v s0 := Wk.begin h (⟨sk, stb, snm, (coa, con, coc), (taa, tan, tac), (vaa, van, vac), (ita, itn, itc), sjn, (ona, onn, onc), (wha, whn, whc), (oda, odn, odc), sds, (nna, nnn, nnc)⟩ : Sv)
  have HB : Hid (∀ {w' v' S}, Wk g v (w.alloc (.cells #[.int .i64 sk, .string stb, .string snm, .slice coa con coc, .slice taa tan tac, .slice vaa van vac, .slice ita itn itc, .string sjn, .slice ona onn onc, .slice wha whn whc, .slice oda odn odc, .bool sds, .slice nna nnn nnc] 48)) w.heap.size (⟨sk, stb, snm, (coa, con, coc), (taa, tan, tac), (vaa, van, vac), (ita, itn, itc), sjn, (ona, onn, onc), (wha, whn, whc), (oda, odn, odc), sds, (nna, nnn, nnc)⟩ : Sv) w' v' S → Below g w w') := hid fun k => k.below h
  have HB2 : Hid (∀ {w' v' S}, Wk g v (w.alloc (.cells #[.int .i64 sk, .string stb, .string snm, .slice coa con coc, .slice taa tan tac, .slice vaa van vac, .slice ita itn itc, .string sjn, .slice ona onn onc, .slice wha whn whc, .slice oda odn odc, .bool sds, .slice nna nnn nnc] 48)) w.heap.size (⟨sk, stb, snm, (coa, con, coc), (taa, tan, tac), (vaa, van, vac), (ita, itn, itc), sjn, (ona, onn, onc), (wha, whn, whc), (oda, odn, odc), sds, (nna, nnn, nnc)⟩ : Sv) w' v' S → ∀ w1, WUp g v' w' w1 → Below g w w1) := hid fun k w1 hu => (k.below h).trans (hu.below (Nat.le_of_lt k.wt.lt) fun b e => (k.wt.blk b e).1)
  have HF : Hid (∀ {w' v' S}, Wk g v (w.alloc (.cells #[.int .i64 sk, .string stb, .string snm, .slice coa con coc, .slice taa tan tac, .slice vaa van vac, .slice ita itn itc, .string sjn, .slice ona onn onc, .slice wha whn whc, .slice oda odn odc, .bool sds, .slice nna nnn nnc] 48)) w.heap.size (⟨sk, stb, snm, (coa, con, coc), (taa, tan, tac), (vaa, van, vac), (ita, itn, itc), sjn, (ona, onn, onc), (wha, whn, whc), (oda, odn, odc), sds, (nna, nnn, nnc)⟩ : Sv) w' v' S → TeS2 g v w S (.returned (.tuple #[])) w') := hid fun k => k.fin
  clear h
  unfold stV
  dsimp only
  go_enter Tryz.func64, Tryz.ntmps64
  go_upto_region 1 with fail
  generalize w.alloc (.cells #[.int .i64 sk, .string stb, .string snm, .slice coa con coc, .slice taa tan tac, .slice vaa van vac, .slice ita itn itc, .string sjn, .slice ona onn onc, .slice wha whn whc, .slice oda odn odc, .bool sds, .slice nna nnn nnc] 48) = W at *
  generalize w.heap.size = q at *
  have H := wWord_any K0.wt ⟨#[115, 101, 108, 101, 99, 116]⟩ (by show _ + 6 ≤ _; omega)
  rw [← E1.out] at H
  replace H : Hid _ := hid H
  go_wp2_with fail
  refine Calls.mono H.out ?_
  rintro e w1 T
  obtain ⟨v1, rfl, K1⟩ := K0.step T
  clear T H K0 
  have c6 := K1.bx.c6
  dsimp only at c6
  go_upto_if 9 with fail
  go_cut [] (fun w' => ∃ v', Wk g v W q (⟨sk, stb, snm, (coa, con, coc), (taa, tan, tac), (vaa, van, vac), (ita, itn, itc), sjn, (ona, onn, onc), (wha, whn, whc), (oda, odn, odc), sds, (nna, nnn, nnc)⟩ : Sv) w' v' S2)
  case first =>
    by_cases h0 : itn = 0
    · have e : S2 = woS ⟨#[42]⟩ S1 := by rw [E2.out, if_pos (hit0.out.2 h0)]
      have H := wWord_any K1.wt ⟨#[42]⟩ (by show _ + 1 ≤ _; omega)
      rw [← e] at H
      replace H : Hid _ := hid H
      replace hit0 : Hid _ := hid hit0
      clear e
      subst h0
      go_wp2_with fail
      refine Calls.mono H.out ?_
      rintro e w2 T
      obtain ⟨v2, rfl, K2⟩ := K1.step T
      clear T H K1 c6
      go_wp2_with fail
      go_meet
      exact ⟨v2, K2⟩
    · have e : S2 = S1 := by rw [E2.out, if_neg fun k => h0 (hit0.out.1 k)]
      rw [← e] at K1
      have g0 : ((itn : Int) == 0) = false := by simp; omega
      have g1 : (itn == 0) = false := by simpa using h0
      clear e h0
      go_wp2_with fail
      go_meet
      exact ⟨v1, K1⟩
  case rest =>
  clear K1 c6
  obtain ⟨v2, K2⟩ := hcut
  have c6 := K2.bx.c6
  dsimp only at c6
  have H := liIt rit hit K2.wt (HB.out K2) (by rw [← E3.out]; omega)
  rw [← E3.out] at H
  replace H : Hid _ := hid H
  go_wp2_with fail
  refine Calls.mono H.out ?_
  rintro e w3 T
  obtain ⟨v3, rfl, K3⟩ := K2.step T
  clear T H K2 c6
  have c1 := K3.bx.c1
  dsimp only at c1
  have H := words_lit K3.wt [⟨#[102, 114, 111, 109]⟩, stb] (n := 2) rfl (by decide) (by rw [← E4.out]; omega)
  rw [← E4.out] at H
  replace H : Hid _ := hid H
  go_wp2_with fail
  refine Calls.mono H.out ?_
  rintro e w4 T
  obtain ⟨v4, rfl, K4⟩ := K3.step T
  clear T H K3 c1
  have c7 := K4.bx.c7
  dsimp only at c7
  go_upto_if 25 with fail
  go_cut [] (fun w' => ∃ v', Wk g v W q (⟨sk, stb, snm, (coa, con, coc), (taa, tan, tac), (vaa, van, vac), (ita, itn, itc), sjn, (ona, onn, onc), (wha, whn, whc), (oda, odn, odc), sds, (nna, nnn, nnc)⟩ : Sv) w' v' S5)
  case first =>
    by_cases h0 : sjn = ⟨#[]⟩
    · have e : S5 = S4 := by rw [E5.out]; exact if_pos h0
      rw [← e] at K4
      have hia : (⟨#[]⟩ : ByteArray).toList.isEmpty = true := by rw [ByteArray.toList_eq]; rfl
      clear e
      subst h0
      simp only [hia, Bool.not_true]
      go_wp2_with fail
      go_meet
      exact ⟨v4, K4⟩
    · obtain ⟨ta, tb, rfl⟩ := hj.resolve_left h0
      obtain ⟨b, o, op1, p1, a1, n1, l1, rfl, hqb, ce1, ex1⟩ := ron.ex1 (k := 0) (by simp)
      obtain ⟨b', o', op2, p2, a2, n2, l2, e', -, ce2, ex2⟩ := ron.ex1 (k := 1) (by simp)
      cases e'
      obtain rfl : onn = 2 := on1.out.symm
      have hia := isEmpty_ne h0
      obtain ⟨R1, F1⟩ : ∃ S, S = wosS [⟨#[106, 111, 105, 110]⟩, sjn, ⟨#[111, 110]⟩] S4 := ⟨_, rfl⟩
      obtain ⟨R2, F2⟩ : ∃ S, S = woS (shE ta) R1 := ⟨_, rfl⟩
      obtain ⟨R3, F3⟩ : ∃ S, S = woS ⟨#[61]⟩ R2 := ⟨_, rfl⟩
      have F4 : S5 = woS (shE tb) R3 := by rw [E5.out, F3, F2, F1]; exact if_neg h0
      have y1 : R1.1.length + (shE ta).size ≤ R2.1.length := by rw [F2]; exact woS_le _ _
      have y2 : R2.1.length + 1 ≤ R3.1.length := by rw [F3]; exact woS_le ⟨#[61]⟩ R2
      have y3 : R3.1.length + (shE tb).size ≤ S5.1.length := by rw [F4]; exact woS_le _ _
      have HA : Hid (∀ w', Below g w w' → Ce w' b o op1 p1 (.slice a1 n1 l1) ∧ Ex (fun k => k < g) w' ta (exV op1 p1 (.slice a1 n1 l1))) := hid fun w' hb => ⟨by have := ce1.keep (hb.block b hqb); rw [Nat.zero_mul, Nat.add_zero] at this; exact this, ex1.keep fun k hk _ => hb.block k hk⟩
      have HC : Hid (∀ w', Below g w w' → Ce w' b (o + 7) op2 p2 (.slice a2 n2 l2) ∧ Ex (fun k => k < g) w' tb (exV op2 p2 (.slice a2 n2 l2))) := hid fun w' hb => ⟨by have := ce2.keep (hb.block b hqb); rw [Nat.one_mul] at this; exact this, ex2.keep fun k hk _ => hb.block k hk⟩
      have ha := hon ta (by simp)
      have hb := hon tb (by simp)
      replace F1 : Hid _ := hid F1
      replace F2 : Hid _ := hid F2
      replace F3 : Hid _ := hid F3
      replace F4 : Hid _ := hid F4
      obtain ⟨p1k, p1i, p1t, p1b, p1n⟩ := p1
      obtain ⟨p2k, p2i, p2t, p2b, p2n⟩ := p2
      simp only [hia, Bool.not_false]
      clear h0 ce1 ce2 ex1 ex2 ron hon hj rit rwh rod rco rta rva hit
      have H := words_lit K4.wt [⟨#[106, 111, 105, 110]⟩, sjn, ⟨#[111, 110]⟩] (n := 3) rfl (by decide) (by rw [← F1.out]; omega)
      rw [← F1.out] at H
      replace H : Hid _ := hid H
      go_wp2_with fail
      refine Calls.mono H.out ?_
      rintro e w5 T
      obtain ⟨v5, rfl, K5⟩ := K4.step T
      clear T H K4 
      obtain ⟨⟨d0, d1, d2, d3, d4, d5, d6⟩, hx⟩ := HA.out w5 (HB.out K5)
      dsimp only at d1 d2 d3 d4 d5
      have c8 := K5.bx.c8
      dsimp only at c8
      have H := wExpr_any ha K5.wt (he.on (HB.out K5)) (by omega) hx
      rw [← F2.out] at H
      replace H : Hid _ := hid H
      go_wp2_with fail
      refine Calls.mono H.out ?_
      rintro e w6 T
      obtain ⟨v6, rfl, K6⟩ := K5.step T
      clear T H K5 c8
      clear hx d0 d1 d2 d3 d4 d5 d6
      have H := wWord_any K6.wt ⟨#[61]⟩ (by show _ + 1 ≤ _; omega)
      rw [← F3.out] at H
      replace H : Hid _ := hid H
      go_wp2_with fail
      refine Calls.mono H.out ?_
      rintro e w7 T
      obtain ⟨v7, rfl, K7⟩ := K6.step T
      clear T H K6 
      obtain ⟨⟨d0, d1, d2, d3, d4, d5, d6⟩, hx⟩ := HC.out w7 (HB.out K7)
      dsimp only at d1 d2 d3 d4 d5
      have c8 := K7.bx.c8
      dsimp only at c8
      have H := wExpr_any hb K7.wt (he.on (HB.out K7)) (by omega) hx
      rw [← F4.out] at H
      replace H : Hid _ := hid H
      go_wp2_with fail
      refine Calls.mono H.out ?_
      rintro e w8 T
      obtain ⟨v8, rfl, K8⟩ := K7.step T
      clear T H K7 c8
      clear hx d0 d1 d2 d3 d4 d5 d6
      go_wp2_with fail
      go_meet
      exact ⟨v8, K8⟩
  case rest =>
  clear K4 c7
  obtain ⟨v5, K5⟩ := hcut
  have c9 := K5.bx.c9
  dsimp only at c9
  have H := wBeh_any K5.wt exS_mo wh1.out [⟨#[119, 104, 101, 114, 101]⟩] rfl (by decide) (fun v1 s1 w1 hw hu hk hz => liEx he rwh hwh hw (HB2.out K5 w1 hu) hz) (by rw [← E6.out]; omega)
  rw [← E6.out] at H
  replace H : Hid _ := hid H
  go_wp2_with fail
  refine Calls.mono H.out ?_
  rintro e w6 T
  obtain ⟨v6, rfl, K6⟩ := K5.step T
  clear T H K5 c9
  have c10 := K6.bx.c10
  dsimp only at c10
  have H := wBeh_any K6.wt exS_mo od1.out [⟨#[111, 114, 100, 101, 114]⟩, ⟨#[98, 121]⟩] rfl (by decide) (fun v1 s1 w1 hw hu hk hz => liEx he rod hod hw (HB2.out K6 w1 hu) hz) (by rw [← E7.out]; omega)
  rw [← E7.out] at H
  replace H : Hid _ := hid H
  go_wp2_with fail
  refine Calls.mono H.out ?_
  rintro e w7 T
  obtain ⟨v7, rfl, K7⟩ := K6.step T
  clear T H K6 c10
  have c11 := K7.bx.c11
  dsimp only at c11
  cases sds with
  | false =>
    have e : S7 = Z := hZ.out
    rw [e] at K7
    clear e
    go_wp2
    exact bodyPost_end (results_none rfl _ _ _) rfl (HF.out K7)
  | true =>
    have e : woS ⟨#[100, 101, 115, 99]⟩ S7 = Z := hZ.out
    have H := wWord_any K7.wt ⟨#[100, 101, 115, 99]⟩ (by show _ + 4 ≤ _; omega)
    rw [e] at H
    replace H : Hid _ := hid H
    clear e
    go_wp2_with fail
    refine Calls.mono H.out ?_
    rintro e w8 T
    obtain ⟨v8, rfl, K8⟩ := K7.step T
    clear T H K7 c11
    go_wp2
    exact bodyPost_end (results_none rfl _ _ _) rfl (HF.out K8)

end Go.Proofs.YtnboooaockgoiaaGreatDoor
