import Derived.Test.YtnboooaockgoiaaGreatDoorPay
import Derived.Test.YtnboooaockgoiaaGreatDoorPaw
import Derived.Test.YtnboooaockgoiaaGreatDoorPas
import Derived.Test.YtnboooaockgoiaaGreatDoorPat
namespace Go.Proofs.YtnboooaockgoiaaGreatDoor
open Go.RowKit
set_option linter.unusedVariables false
set_option linter.unusedSimpArgs false

/-- Bytes as numbers. -/
def I8 (l : List UInt8) : List Int := l.map fun c => (c.toNat : Int)
theorem I8_app (a b : List UInt8) : I8 (a ++ b) = I8 a ++ I8 b := List.map_append
theorem nums_I8 (s : ByteArray) : nums s = I8 (bs s) := rfl
theorem catN_one (s : ByteArray) : catN [s] = I8 (bs s) := by simp [catN, nums_I8]
def spN (b : Bool) : Nat := if b then 1 else 0
/-- Pieces written; the first has as many spaces as the writer's state says. -/
def pcW (P : Nat → List Pc) (s : Ws) : Ws := (s.1 ++ I8 (ren (P (spN s.2))), true)
theorem pcW_seq (P Q : Nat → List Pc) (s : Ws) : pcW Q (pcW P s) = pcW (fun k => P k ++ Q 1) s := by
  unfold pcW
  simp only [ren_app, I8_app, List.append_assoc]
  rfl
theorem spS_eq (s : Ws) : spS s = (s.1 ++ I8 (List.replicate (spN s.2) 32), true) := by
  obtain ⟨l, b⟩ := s
  cases b <;> simp [spS, spN, I8]
theorem woS_pc {t : ByteArray} {P : Nat → List Pc} (h : ∀ k, ren (P k) = List.replicate k 32 ++ bs t) (s : Ws) : woS t s = pcW P s := by
  unfold woS puS pcW
  rw [spS_eq, h, catN_one, I8_app, List.append_assoc]
theorem woS_w {t : ByteArray} {w : Wd} (h : wdB w = bs t) (s : Ws) : woS t s = pcW (fun k => [(k, w)]) s :=
  woS_pc (P := fun k => [(k, w)]) (fun k => by rw [ren_cons, ren_nil, h]; simp) s
theorem wosS_nil (s : Ws) : wosS [] s = s := rfl
theorem wosS_cons (t : ByteArray) (L : List ByteArray) (s : Ws) : wosS (t :: L) s = wosS L (woS t s) := rfl
theorem woS_le (t : ByteArray) (s : Ws) : s.1.length + t.size ≤ (woS t s).1.length := by
  unfold woS puS
  rw [spS_eq, catN_one]
  simp only [List.length_append, I8, List.length_map, bs_length]
  omega
theorem wosS_le (L : List ByteArray) : ∀ s : Ws, s.1.length + szL L ≤ (wosS L s).1.length + L.length := by
  induction L with
  | nil => intro s; exact Nat.le_refl _
  | cons t L ih =>
    intro s
    have h1 := ih (woS t s)
    have h2 := woS_le t s
    have e : szL (t :: L) = (t.size + 1) + szL L := rfl
    rw [wosS_cons, e, List.length_cons]
    omega
theorem wosS_mo (L : List ByteArray) (s : Ws) : s.1.length ≤ (wosS L s).1.length := by
  induction L generalizing s with
  | nil => exact Nat.le_refl _
  | cons t L ih => exact Nat.le_trans (Nat.le_trans (by omega) (woS_le t s)) (ih _)
theorem opS_mo (s : Ws) : s.1.length + 1 = (opS s).1.length := by simp [opS]
theorem clS_mo (s : Ws) : s.1.length + 1 = (clS s).1.length := by simp [clS]
theorem spS_mo (s : Ws) : s.1.length ≤ (spS s).1.length := by rw [spS_eq]; simp
theorem fold_pc {α : Type} {f : α → Ws → Ws} {g : Nat → α → List Pc} : ∀ (L : List α), (∀ x ∈ L, ∀ s, f x s = pcW (fun k => g k x) s) → ∀ s : Ws, s.2 = true → L.foldl (fun s x => f x (puS [⟨#[44]⟩] s)) s = (s.1 ++ I8 (ren (jpT g L)), true)
  | [], _, s, h => by
    show s = _
    rw [jpT, ren_nil, ← h]
    simp [I8]
  | x :: L, hf, s, h => by
    rw [List.foldl_cons, fold_pc L (fun y hy => hf y (by simp [hy])) _ (by rw [hf x (by simp)]; rfl), hf x (by simp)]
    unfold pcW
    have e : (puS [⟨#[44]⟩] s).2 = true := h
    have e1 : (puS [⟨#[44]⟩] s).1 = s.1 ++ I8 (wdB (sg ⟨#[44]⟩)) := by
      show s.1 ++ catN [⟨#[44]⟩] = _
      rw [catN_one]
      rfl
    have e2 : ren (jpT g (x :: L)) = wdB (sg ⟨#[44]⟩) ++ (ren (g 1 x) ++ ren (jpT g L)) := by
      rw [jpT, ren_cons, ren_app]
      rfl
    rw [e, e1, e2, I8_app, I8_app]
    simp [spN]
theorem liS_pc {α : Type} {f : α → Ws → Ws} {g : Nat → α → List Pc} {L : List α} (h0 : L ≠ []) (hf : ∀ x ∈ L, ∀ s, f x s = pcW (fun k => g k x) s) (s : Ws) : liS f L s = pcW (fun k => jp g k L) s := by
  cases L with
  | nil => exact absurd rfl h0
  | cons x L =>
    show L.foldl _ (f x s) = _
    rw [fold_pc (g := g) L (fun y hy => hf y (by simp [hy])) _ (by rw [hf x (by simp)]; rfl), hf x (by simp)]
    unfold pcW
    simp only [jp, ren_app, I8_app, List.append_assoc]
/-- A list in brackets. -/
def brS {α : Type} (f : α → Ws → Ws) (L : List α) (s : Ws) : Ws := clS (liS f L (opS s))
theorem brS_mo {α : Type} {f : α → Ws → Ws} (hf : ∀ x s, s.1.length ≤ (f x s).1.length) (L : List α) (s : Ws) : s.1.length ≤ (brS f L s).1.length := by
  have h1 := liS_mo hf L (opS s)
  have h2 := clS_mo (liS f L (opS s))
  have h3 := opS_mo s
  show _ ≤ (clS _).1.length
  omega
theorem brS_pc {α : Type} {f : α → Ws → Ws} {g : Nat → α → List Pc} {L : List α} (h0 : L ≠ []) (hf : ∀ x ∈ L, ∀ s, f x s = pcW (fun k => g k x) s) (s : Ws) : brS f L s = pcW (fun _ => (0, sg ⟨#[40]⟩) :: (jp g 0 L ++ [(0, sg ⟨#[41]⟩)])) s := by
  have e : ren ((0, sg ⟨#[40]⟩) :: (jp g 0 L ++ [(0, sg ⟨#[41]⟩)])) = 40 :: (ren (jp g 0 L) ++ [41]) := by
    rw [ren_cons, ren_app, ren_cons, ren_nil, wdB_sg, wdB_sg]
    rfl
  rw [brS, liS_pc h0 hf]
  unfold pcW clS opS
  rw [e]
  simp [I8, spN]
/-- A list behind words. -/
def behS {α : Type} (f : α → Ws → Ws) (L : List α) (K : List ByteArray) (s : Ws) : Ws := if L = [] then s else liS f L (wosS K s)
theorem behS_mo {α : Type} {f : α → Ws → Ws} (hf : ∀ x s, s.1.length ≤ (f x s).1.length) (L : List α) (K : List ByteArray) (s : Ws) : s.1.length ≤ (behS f L K s).1.length := by
  unfold behS
  split
  · exact Nat.le_refl _
  · exact Nat.le_trans (wosS_mo K s) (liS_mo hf L _)
/-- One thing of each kind. -/
def exS (t : Tr) (s : Ws) : Ws := woS (shE t) s
def taS (z : Int) (s : Ws) : Ws := woS ⟨(Lib.itoa z).toArray⟩ s
def coS (c : Co) (s : Ws) : Ws := if c.2.2 = ⟨#[]⟩ then wosS [c.1, kiB c.2.1] s else wosS [⟨#[114, 101, 102]⟩, c.2.2] (wosS [c.1, kiB c.2.1] s)
def itS (x : It) (s : Ws) : Ws := if x.1 = 0 then puS [coB x.2.1 x.2.2] (spS s) else if x.1 = 1 then puS [⟨#[99, 111, 117, 110, 116, 40, 42, 41]⟩] (spS s) else puS [⟨#[41]⟩] (puS [coB x.2.1 x.2.2] (puS [aggW x.1, ⟨#[40]⟩] (spS s)))
theorem exS_mo (t : Tr) (s : Ws) : s.1.length ≤ (exS t s).1.length := Nat.le_trans (by omega) (woS_le (shE t) s)
theorem taS_mo (z : Int) (s : Ws) : s.1.length ≤ (taS z s).1.length := Nat.le_trans (by omega) (woS_le _ s)
theorem woS_mo (t : ByteArray) (s : Ws) : s.1.length ≤ (woS t s).1.length := Nat.le_trans (by omega) (woS_le _ s)
theorem coS_mo (c : Co) (s : Ws) : s.1.length ≤ (coS c s).1.length := by
  unfold coS
  split
  · exact wosS_mo _ _
  · exact Nat.le_trans (wosS_mo _ _) (wosS_mo _ _)
theorem itS_mo (x : It) (s : Ws) : s.1.length ≤ (itS x s).1.length := by
  have h1 := spS_mo s
  unfold itS
  split
  · rw [← puS_mo]; omega
  split
  · rw [← puS_mo]; omega
  · rw [← puS_mo, ← puS_mo, ← puS_mo]; omega
theorem exS_pc {d : Nat} {t : Tr} (h : Cn d t) (hw : ∀ w ∈ wdE t, WdOK w) (s : Ws) : exS t s = pcW (fun k => pcE k t) s :=
  woS_pc (P := fun k => pcE k t) (fun k => by rw [ren_e t h.ne k, sh_ren h hw]) s
theorem taS_pc {z : Int} (h : TaOK z) (s : Ws) : taS z s = pcW (fun k => pcTag k z) s :=
  woS_pc (P := fun k => pcTag k z) (fun k => by rw [pcTag, ren_cons, ren_nil, bs_mk, itoa_nn h.1]; simp [wdB]) s
theorem woS_nm (t : ByteArray) (s : Ws) : woS t s = pcW (fun k => [(k, nm t)]) s := woS_w (wdB_nm t) s
theorem woS_kw (t : ByteArray) (s : Ws) : woS t s = pcW (fun k => [(k, kw t)]) s := woS_w (wdB_kw t) s
theorem woS_sg (t : ByteArray) (s : Ws) : woS t s = pcW (fun k => [(k, sg t)]) s := woS_w (wdB_sg t) s
theorem coS_pc {c : Co} (h : CoOK c) (s : Ws) : coS c s = pcW (fun k => pcCol k c) s := by
  have e : kiB c.2.1 = kindW c.2.1 := rfl
  unfold coS
  split
  · rename_i h0
    rw [wosS_cons, wosS_cons, wosS_nil, woS_nm c.1, woS_kw (kiB _), pcW_seq]
    unfold pcCol
    rw [if_pos h0]
    rfl
  · rename_i h0
    rw [wosS_cons, wosS_cons, wosS_nil, wosS_cons, wosS_cons, wosS_nil, woS_nm c.1, woS_kw (kiB _), woS_kw ⟨#[114, 101, 102]⟩, woS_nm c.2.2, pcW_seq, pcW_seq, pcW_seq]
    unfold pcCol
    rw [if_neg h0]
    rfl
theorem catN_I8 : ∀ L : List ByteArray, catN L = I8 ((L.map bs).flatten)
  | [] => rfl
  | t :: L => by
    rw [List.map_cons, List.flatten_cons, I8_app, ← catN_I8 L]
    rfl
theorem pcW_pu {L : List ByteArray} {P : Nat → List Pc} (h : ∀ k, ren (P k) = List.replicate k 32 ++ (L.map bs).flatten) (s : Ws) : puS L (spS s) = pcW P s := by
  unfold puS pcW
  rw [spS_eq, h, I8_app, List.append_assoc, catN_I8]
theorem puS_two (K L : List ByteArray) (s : Ws) : puS L (puS K s) = puS (K ++ L) s := by
  unfold puS
  simp only [List.append_assoc, catN_app]
theorem itS_pc (x : It) (s : Ws) : itS x s = pcW (fun k => pcItem k x) s := by
  unfold itS
  split
  · rename_i h
    refine pcW_pu (P := fun k => pcItem k x) (fun k => ?_) s
    rw [item_ren, itL, if_pos h]
    simp
  split
  · rename_i h h1
    refine pcW_pu (P := fun k => pcItem k x) (fun k => ?_) s
    rw [item_ren, itL, if_neg h, if_pos h1]
    simp
  · rename_i h h1
    rw [puS_two, puS_two]
    refine pcW_pu (P := fun k => pcItem k x) (fun k => ?_) s
    rw [item_ren, itL, if_neg h, if_neg h1]
    simp
    simp [bs]

end Go.Proofs.YtnboooaockgoiaaGreatDoor
namespace Go.Proofs.YtnboooaockgoiaaGreatDoor
open Go.RowKit
set_option linter.unusedVariables false
set_option linter.unusedSimpArgs false

set_option maxRecDepth 100000 in
set_option maxHeartbeats 2000000 in
theorem kindWord_any (w : World) {k : Int} (hk : k = 1 ∨ k = 2) : Calls Tryz.prog 85 #[.int .i64 k] w fun e w' => e = .returned (.string (kiB k)) ∧ Below w.heap.size w w' := by
  rcases hk with rfl | rfl
  · have e : kiB 1 = ⟨#[105, 110, 116]⟩ := rfl
    rw [e]
    go_enter Tryz.func85, Tryz.ntmps85
    go_wp2
    go_ret
    exact ⟨rfl, Below.refl _ _⟩
  · have e : kiB 2 = ⟨#[116, 101, 120, 116]⟩ := rfl
    rw [e]
    go_enter Tryz.func85, Tryz.ntmps85
    go_wp2
    go_ret
    exact ⟨rfl, Below.refl _ _⟩
set_option maxRecDepth 100000 in
set_option maxHeartbeats 2000000 in
theorem foldWord_any (w : World) {k : Int} (hk : k = 2 ∨ k = 3 ∨ k = 4) : Calls Tryz.prog 86 #[.int .i64 k] w fun e w' => e = .returned (.string (aggW k)) ∧ Below w.heap.size w w' := by
  rcases hk with rfl | rfl | rfl
  · have e : aggW 2 = ⟨#[115, 117, 109]⟩ := rfl
    rw [e]
    go_enter Tryz.func86, Tryz.ntmps86
    go_wp2
    go_ret
    exact ⟨rfl, Below.refl _ _⟩
  · have e : aggW 3 = ⟨#[109, 105, 110]⟩ := rfl
    rw [e]
    go_enter Tryz.func86, Tryz.ntmps86
    go_wp2
    go_ret
    exact ⟨rfl, Below.refl _ _⟩
  · have e : aggW 4 = ⟨#[109, 97, 120]⟩ := rfl
    rw [e]
    go_enter Tryz.func86, Tryz.ntmps86
    go_wp2
    go_ret
    exact ⟨rfl, Below.refl _ _⟩
theorem kiB_ne (k : Int) : (kiB k).toList.isEmpty = false := by
  unfold kiB
  split <;> exact isEmpty_ne (by decide)
theorem aggW_ne (k : Int) : (aggW k).toList.isEmpty = false := by
  unfold aggW
  split
  · exact isEmpty_ne (by decide)
  split <;> exact isEmpty_ne (by decide)
set_option maxRecDepth 100000 in
set_option maxHeartbeats 2000000 in
theorem wholeCol_any (w : World) (tn : ByteArray) {tk : Int} (tr : ByteArray) (hk : tk = 1 ∨ tk = 2) : Calls Tryz.prog 49 #[.agg #[.string tn, .int .i64 tk, .string tr]] w fun e w' => e = .returned (.bool true) ∧ Below w.heap.size w w' := by
  have hbx := bal (Below.refl _ w) (.cells #[.string tn, .int .i64 tk, .string tr] 62)
  have H : Hid _ := hid (kindWord_any (w.alloc (.cells #[.string tn, .int .i64 tk, .string tr] 62)) hk)
  have hne := kiB_ne tk
  generalize kiB tk = D at *
  go_enter Tryz.func49, Tryz.ntmps49
  go_wp2_with fail
  refine Calls.mono H.out ?_
  rintro e w1 ⟨rfl, hb⟩
  have hB := Below.on hbx hb
  clear H hb hbx
  go_wp2
  go_ret
  exact ⟨rfl, hB⟩
set_option maxRecDepth 100000 in
set_option maxHeartbeats 2000000 in
theorem wholeItem_any (w : World) {ta : Int} (tt tn : ByteArray) (hk : ta = 0 ∨ ta = 1 ∨ ta = 2 ∨ ta = 3 ∨ ta = 4) : Calls Tryz.prog 54 #[.agg #[.int .i64 ta, .string tt, .string tn]] w fun e w' => e = .returned (.bool true) ∧ Below w.heap.size w w' := by
  have hbx := bal (Below.refl _ w) (.cells #[.int .i64 ta, .string tt, .string tn] 64)
  by_cases h0 : ta = 0
  · subst h0
    go_enter Tryz.func54, Tryz.ntmps54
    go_wp2
    go_ret
    exact ⟨rfl, hbx⟩
  by_cases h1 : ta = 1
  · subst h1
    go_enter Tryz.func54, Tryz.ntmps54
    go_wp2
    go_ret
    exact ⟨rfl, hbx⟩
  have e0 : (ta == 0) = false := by simpa using h0
  have e1 : (ta == 1) = false := by simpa using h1
  have H : Hid _ := hid (foldWord_any (w.alloc (.cells #[.int .i64 ta, .string tt, .string tn] 64)) (k := ta) (by omega))
  have hne := aggW_ne ta
  generalize aggW ta = D at *
  go_enter Tryz.func54, Tryz.ntmps54
  go_wp2_with fail
  refine Calls.mono H.out ?_
  rintro e w1 ⟨rfl, hb⟩
  have hB := Below.on hbx hb
  clear H hb hbx h0 h1
  go_wp2
  go_ret
  exact ⟨rfl, hB⟩
set_option maxRecDepth 100000 in
set_option maxHeartbeats 2000000 in
theorem isColumn_any (w : World) (xk xi : Int) (xt xb xn : ByteArray) (xa : Option Addr) (xl xc : Nat) : Calls Tryz.prog 88 #[.agg #[.int .i64 2, .int .i64 xk, .int .i64 xi, .string xt, .string xb, .string xn, .slice xa xl xc]] w fun e w' => e = .returned (.bool true) ∧ Below w.heap.size w w' := by
  have hbx := bal (Below.refl _ w) (.cells #[.int .i64 2, .int .i64 xk, .int .i64 xi, .string xt, .string xb, .string xn, .slice xa xl xc] 43)
  go_enter Tryz.func88, Tryz.ntmps88
  go_wp2
  go_ret
  exact ⟨rfl, hbx⟩
set_option maxRecDepth 100000 in
set_option maxHeartbeats 2000000 in
theorem isQuery_any (w : World) {sk : Int} (stb : ByteArray) (snm : ByteArray) (coa : Option Addr) (con : Nat) (coc : Nat) (taa : Option Addr) (tan : Nat) (tac : Nat) (vaa : Option Addr) (van : Nat) (vac : Nat) (ita : Option Addr) (itn : Nat) (itc : Nat) (sjn : ByteArray) (ona : Option Addr) (onn : Nat) (onc : Nat) (wha : Option Addr) (whn : Nat) (whc : Nat) (oda : Option Addr) (odn : Nat) (odc : Nat) (sds : Bool) (nna : Option Addr) (nnn : Nat) (nnc : Nat) (hk : sk = 6) : Calls Tryz.prog 51 #[.agg #[.int .i64 sk, .string stb, .string snm, .slice coa con coc, .slice taa tan tac, .slice vaa van vac, .slice ita itn itc, .string sjn, .slice ona onn onc, .slice wha whn whc, .slice oda odn odc, .bool sds, .slice nna nnn nnc]] w fun e w' => e = .returned (.bool true) ∧ Below w.heap.size w w' := by
  have hbx := bal (Below.refl _ w) (.cells #[.int .i64 sk, .string stb, .string snm, .slice coa con coc, .slice taa tan tac, .slice vaa van vac, .slice ita itn itc, .string sjn, .slice ona onn onc, .slice wha whn whc, .slice oda odn odc, .bool sds, .slice nna nnn nnc] 48)
  subst hk
  go_enter Tryz.func51, Tryz.ntmps51
  go_wp2
  go_ret
  exact ⟨rfl, hbx⟩
set_option maxRecDepth 100000 in
set_option maxHeartbeats 2000000 in
theorem isChange_any (w : World) {sk : Int} (stb : ByteArray) (snm : ByteArray) (coa : Option Addr) (con : Nat) (coc : Nat) (taa : Option Addr) (tan : Nat) (tac : Nat) (vaa : Option Addr) (van : Nat) (vac : Nat) (ita : Option Addr) (itn : Nat) (itc : Nat) (sjn : ByteArray) (ona : Option Addr) (onn : Nat) (onc : Nat) (wha : Option Addr) (whn : Nat) (whc : Nat) (oda : Option Addr) (odn : Nat) (odc : Nat) (sds : Bool) (nna : Option Addr) (nnn : Nat) (nnc : Nat) (hk : sk = 5 ∨ sk = 7 ∨ sk = 8) : Calls Tryz.prog 52 #[.agg #[.int .i64 sk, .string stb, .string snm, .slice coa con coc, .slice taa tan tac, .slice vaa van vac, .slice ita itn itc, .string sjn, .slice ona onn onc, .slice wha whn whc, .slice oda odn odc, .bool sds, .slice nna nnn nnc]] w fun e w' => e = .returned (.bool true) ∧ Below w.heap.size w w' := by
  have hbx := bal (Below.refl _ w) (.cells #[.int .i64 sk, .string stb, .string snm, .slice coa con coc, .slice taa tan tac, .slice vaa van vac, .slice ita itn itc, .string sjn, .slice ona onn onc, .slice wha whn whc, .slice oda odn odc, .bool sds, .slice nna nnn nnc] 48)
  rcases hk with rfl | rfl | rfl
  · go_enter Tryz.func52, Tryz.ntmps52
    go_wp2
    go_ret
    exact ⟨rfl, hbx⟩
  · go_enter Tryz.func52, Tryz.ntmps52
    go_wp2
    go_ret
    exact ⟨rfl, hbx⟩
  · go_enter Tryz.func52, Tryz.ntmps52
    go_wp2
    go_ret
    exact ⟨rfl, hbx⟩

end Go.Proofs.YtnboooaockgoiaaGreatDoor
namespace Go.Proofs.YtnboooaockgoiaaGreatDoor
open Go.RowKit
set_option linter.unusedVariables false
set_option linter.unusedSimpArgs false

set_option maxRecDepth 100000 in
set_option maxHeartbeats 4000000 in
theorem wListTag_any {g : Nat} {v : Sl} {s : Ws} {w : World} (h : Wt w g v s.1 s.2) {f : Int → Ws → Ws} (hf : ∀ x s, s.1.length ≤ (f x s).1.length) {M : Nat} (hM : ∀ args w', (callFunc M args).run Tryz.prog w' = .ok (.enter M args) w') {L : List Int} {ao : Option Addr} {n c : Nat} (hr : RowIs eTag (fun k => k < g) w (.slice ao n c) L)
    (hone : ∀ (i : Nat) (hi : i < L.length) (v1 : Sl) (s1 : Ws) (w1 : World), Wt w1 g v1 s1.1 s1.2 → Below g w w1 → (f L[i] s1).1.length ≤ 700000 → Calls Tryz.prog M #[.pointer (some ⟨g, 0, none⟩), .int .u16 L[i]] w1 (TeS2 g v1 w1 (f L[i] s1))) (hz : (liS f L s).1.length ≤ 700000) :
    Calls Tryz.prog 67 #[.pointer (some ⟨g, 0, none⟩), .slice ao n c, .func (.func M) #[.pointer (some ⟨g, 0, none⟩)] #[]] w (TeS2 g v w (liS f L s)) := by
  obtain ⟨_, _, _, e, hn, hnc, hc, hrow⟩ := hr
  cases e
  subst hn
  have HB : Hid (∀ w', WUp g v w w' → Below g w w') := hid fun w' hu => hu.below (Nat.le_of_lt h.lt) fun b e => (h.blk b e).1
  have HO : Hid _ := hid hone
  clear hone
  by_cases hL : 0 < L.length
  · obtain ⟨b, o, rfl, hb, hrow⟩ := hrow hL
    have HR : Hid (∀ w', WUp g v w w' → ∀ i (hi : i < L.length), w'.cell? ⟨b, o + i, none⟩ = some (.int .u16 L[i])) := hid fun w' hu i hi => by
      obtain ⟨cs, he, hl, hcs⟩ := hrow i hi
      have he : cs = [.int .u16 L[i]] := he
      subst he
      have := hcs 0 (Nat.succ_pos _)
      have e1 : o + i * eTag.k + 0 = o + i := by show o + i * 1 + 0 = _; omega
      rw [e1] at this
      exact (World.cell?_of_block (a := ⟨b, _, none⟩) ((HB.out w' hu).block b hb)).trans this
    clear hrow
    go_enter Tryz.func67, Tryz.ntmps67
    go_wp2
    go_loopw [10] (fun v10 wr => ∃ (k : Nat) (v2 : Sl), k ≤ L.length ∧ v10 = .int .i64 k ∧ Wt wr g v2 (liS f (L.take k) s).1 (liS f (L.take k) s).2 ∧ WUp g v w wr ∧ WKp v v2 w.heap.size) (fun i _ => L.length - (intOf i).toNat)
    case atStart => exact ⟨0, v, Nat.zero_le _, rfl, h, WUp.refl _ _ _, WKp.refl _ _⟩
    case round =>
      clear h
      obtain ⟨k, v2, hk, rfl, hW, hU, hK⟩ := hrel
      by_cases hlt : k < L.length
      · have x0 := HR.out wr hU k hlt
        have hkI : (k : Int) < (L.length : Int) := by omega
        have h1 := liS_le hf L k s
        have h2 := liS_le hf L (k + 1) s
        by_cases hk0 : k = 0
        · subst hk0
          rw [Nat.add_zero] at x0
          have hkI0 : (0 : Int) < (L.length : Int) := by omega
          have H := HO.out 0 hlt v2 s wr hW (HB.out wr hU) (by rw [← liS_zero f hlt s]; exact Nat.le_trans h2 hz)
          rw [← liS_zero f hlt s] at H
          generalize L[0] = t at *
          replace H : Hid _ := hid H
          clear hW h1 h2
          go_wp2_with fail
          refine Calls.mono H.out ?_
          rintro e w1 ⟨v1, rfl, hW1, hU1, hK1⟩
          have hU2 := hU.trans hU1 hK
          have hK2 := hK.trans hK1 hU.size
          clear H hU1 hK1
          replace hW1 : Hid _ := hid hW1
          go_wp2
          go_roundw
          case rel => exact ⟨1, v1, hlt, by go_num, hW1.out, hU2, hK2⟩
          case measure => simp only [intOf]; omega
        · have hkp : 0 < k := by omega
          have hkpI : (0 : Int) < (k : Int) := by omega
          have H : Hid _ := hid (put1 hW ⟨#[44]⟩ (by have : (catN [⟨#[44]⟩]).length = 1 := rfl; omega))
          have HN : Hid (∀ v1 w1, Wt w1 g v1 (puS [⟨#[44]⟩] (liS f (L.take k) s)).1 (puS [⟨#[44]⟩] (liS f (L.take k) s)).2 → WUp g v w w1 → _) := hid fun v1 w1 hw1 hu1 => HO.out k hlt v1 _ w1 hw1 (HB.out w1 hu1) (by rw [← liS_take f hkp hlt s]; exact Nat.le_trans h2 hz)
          rw [← liS_take f hkp hlt s] at HN
          generalize L[k] = t at *
          clear hW h1 h2
          go_wp2_with fail
          refine Calls.mono H.out ?_
          rintro e w1 ⟨v1, rfl, hW1, hU1, hK1⟩
          have hU2 := hU.trans hU1 hK
          have hK2 := hK.trans hK1 hU.size
          have H2 : Hid _ := hid (HN.out v1 w1 hW1 hU2)
          clear H hU1 hK1 hW1 HN
          go_wp2_with fail
          refine Calls.mono H2.out ?_
          rintro e w2 ⟨v3, rfl, hW3, hU3, hK3⟩
          have hU4 := hU2.trans hU3 hK2
          have hK4 := hK2.trans hK3 hU2.size
          clear H2 hU3 hK3
          replace hW3 : Hid _ := hid hW3
          go_wp2
          go_roundw
          case rel => exact ⟨k + 1, v3, hlt, by go_num, hW3.out, hU4, hK4⟩
          case measure => simp only [intOf]; omega
      · obtain rfl : k = L.length := by omega
        rw [List.take_length] at hW
        go_wp2
        exact bodyPost_end (results_none rfl _ _ _) rfl ⟨_, rfl, hW, hU, hK⟩
  · obtain rfl : L = [] := List.eq_nil_of_length_eq_zero (by omega)
    go_enter Tryz.func67, Tryz.ntmps67
    go_wp2
    go_loopw [10] (fun v10 wr => v10 = .int .i64 0 ∧ wr = w) (fun i _ => 0)
    case atStart => exact ⟨rfl, rfl⟩
    case round =>
      obtain ⟨rfl, rfl⟩ := hrel
      go_wp2
      exact bodyPost_end (results_none rfl _ _ _) rfl ⟨_, rfl, h, WUp.refl _ _ _, WKp.refl _ _⟩

end Go.Proofs.YtnboooaockgoiaaGreatDoor
namespace Go.Proofs.YtnboooaockgoiaaGreatDoor
open Go.RowKit
set_option linter.unusedVariables false
set_option linter.unusedSimpArgs false

def eTx : Ek ByteArray := ⟨1, fun _ _ z cs => cs = [.string z], fun _ h => h, fun _ h => h⟩
set_option maxRecDepth 100000 in
set_option maxHeartbeats 4000000 in
theorem wListTxt_any {g : Nat} {v : Sl} {s : Ws} {w : World} (h : Wt w g v s.1 s.2) {f : ByteArray → Ws → Ws} (hf : ∀ x s, s.1.length ≤ (f x s).1.length) {M : Nat} (hM : ∀ args w', (callFunc M args).run Tryz.prog w' = .ok (.enter M args) w') {L : List ByteArray} {ao : Option Addr} {n c : Nat} (hr : RowIs eTx (fun k => k < w.heap.size ∧ k ≠ g ∧ some k ≠ (slV v).ownBlock) w (.slice ao n c) L)
    (hone : ∀ (i : Nat) (hi : i < L.length) (v1 : Sl) (s1 : Ws) (w1 : World), Wt w1 g v1 s1.1 s1.2 → Below g w w1 → (f L[i] s1).1.length ≤ 700000 → Calls Tryz.prog M #[.pointer (some ⟨g, 0, none⟩), .string L[i]] w1 (TeS2 g v1 w1 (f L[i] s1))) (hz : (liS f L s).1.length ≤ 700000) :
    Calls Tryz.prog 92 #[.pointer (some ⟨g, 0, none⟩), .slice ao n c, .func (.func M) #[.pointer (some ⟨g, 0, none⟩)] #[]] w (TeS2 g v w (liS f L s)) := by
  obtain ⟨_, _, _, e, hn, hnc, hc, hrow⟩ := hr
  cases e
  subst hn
  have HB : Hid (∀ w', WUp g v w w' → Below g w w') := hid fun w' hu => hu.below (Nat.le_of_lt h.lt) fun b e => (h.blk b e).1
  have HO : Hid _ := hid hone
  clear hone
  by_cases hL : 0 < L.length
  · obtain ⟨b, o, rfl, hb, hrow⟩ := hrow hL
    have HR : Hid (∀ w', WUp g v w w' → ∀ i (hi : i < L.length), w'.cell? ⟨b, o + i, none⟩ = some (.string L[i])) := hid fun w' hu i hi => by
      obtain ⟨cs, he, hl, hcs⟩ := hrow i hi
      have he : cs = [.string L[i]] := he
      subst he
      have := hcs 0 (Nat.succ_pos _)
      have e1 : o + i * eTx.k + 0 = o + i := by show o + i * 1 + 0 = _; omega
      rw [e1] at this
      exact (World.cell?_of_block (a := ⟨b, _, none⟩) (hu.block b hb.1 hb.2.1 hb.2.2)).trans this
    clear hrow
    go_enter Tryz.func92, Tryz.ntmps92
    go_wp2
    go_loopw [10] (fun v10 wr => ∃ (k : Nat) (v2 : Sl), k ≤ L.length ∧ v10 = .int .i64 k ∧ Wt wr g v2 (liS f (L.take k) s).1 (liS f (L.take k) s).2 ∧ WUp g v w wr ∧ WKp v v2 w.heap.size) (fun i _ => L.length - (intOf i).toNat)
    case atStart => exact ⟨0, v, Nat.zero_le _, rfl, h, WUp.refl _ _ _, WKp.refl _ _⟩
    case round =>
      clear h
      obtain ⟨k, v2, hk, rfl, hW, hU, hK⟩ := hrel
      by_cases hlt : k < L.length
      · have x0 := HR.out wr hU k hlt
        have hkI : (k : Int) < (L.length : Int) := by omega
        have h1 := liS_le hf L k s
        have h2 := liS_le hf L (k + 1) s
        by_cases hk0 : k = 0
        · subst hk0
          rw [Nat.add_zero] at x0
          have hkI0 : (0 : Int) < (L.length : Int) := by omega
          have H := HO.out 0 hlt v2 s wr hW (HB.out wr hU) (by rw [← liS_zero f hlt s]; exact Nat.le_trans h2 hz)
          rw [← liS_zero f hlt s] at H
          generalize L[0] = t at *
          replace H : Hid _ := hid H
          clear hW h1 h2
          go_wp2_with fail
          refine Calls.mono H.out ?_
          rintro e w1 ⟨v1, rfl, hW1, hU1, hK1⟩
          have hU2 := hU.trans hU1 hK
          have hK2 := hK.trans hK1 hU.size
          clear H hU1 hK1
          replace hW1 : Hid _ := hid hW1
          go_wp2
          go_roundw
          case rel => exact ⟨1, v1, hlt, by go_num, hW1.out, hU2, hK2⟩
          case measure => simp only [intOf]; omega
        · have hkp : 0 < k := by omega
          have hkpI : (0 : Int) < (k : Int) := by omega
          have H : Hid _ := hid (put1 hW ⟨#[44]⟩ (by have : (catN [⟨#[44]⟩]).length = 1 := rfl; omega))
          have HN : Hid (∀ v1 w1, Wt w1 g v1 (puS [⟨#[44]⟩] (liS f (L.take k) s)).1 (puS [⟨#[44]⟩] (liS f (L.take k) s)).2 → WUp g v w w1 → _) := hid fun v1 w1 hw1 hu1 => HO.out k hlt v1 _ w1 hw1 (HB.out w1 hu1) (by rw [← liS_take f hkp hlt s]; exact Nat.le_trans h2 hz)
          rw [← liS_take f hkp hlt s] at HN
          generalize L[k] = t at *
          clear hW h1 h2
          go_wp2_with fail
          refine Calls.mono H.out ?_
          rintro e w1 ⟨v1, rfl, hW1, hU1, hK1⟩
          have hU2 := hU.trans hU1 hK
          have hK2 := hK.trans hK1 hU.size
          have H2 : Hid _ := hid (HN.out v1 w1 hW1 hU2)
          clear H hU1 hK1 hW1 HN
          go_wp2_with fail
          refine Calls.mono H2.out ?_
          rintro e w2 ⟨v3, rfl, hW3, hU3, hK3⟩
          have hU4 := hU2.trans hU3 hK2
          have hK4 := hK2.trans hK3 hU2.size
          clear H2 hU3 hK3
          replace hW3 : Hid _ := hid hW3
          go_wp2
          go_roundw
          case rel => exact ⟨k + 1, v3, hlt, by go_num, hW3.out, hU4, hK4⟩
          case measure => simp only [intOf]; omega
      · obtain rfl : k = L.length := by omega
        rw [List.take_length] at hW
        go_wp2
        exact bodyPost_end (results_none rfl _ _ _) rfl ⟨_, rfl, hW, hU, hK⟩
  · obtain rfl : L = [] := List.eq_nil_of_length_eq_zero (by omega)
    go_enter Tryz.func92, Tryz.ntmps92
    go_wp2
    go_loopw [10] (fun v10 wr => v10 = .int .i64 0 ∧ wr = w) (fun i _ => 0)
    case atStart => exact ⟨rfl, rfl⟩
    case round =>
      obtain ⟨rfl, rfl⟩ := hrel
      go_wp2
      exact bodyPost_end (results_none rfl _ _ _) rfl ⟨_, rfl, h, WUp.refl _ _ _, WKp.refl _ _⟩

end Go.Proofs.YtnboooaockgoiaaGreatDoor
