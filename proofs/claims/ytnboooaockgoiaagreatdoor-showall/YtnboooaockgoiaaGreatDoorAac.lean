import Derived.Test.YtnboooaockgoiaaGreatDoorAab
import Derived.Deep.RegionHeld3
namespace Go.Proofs.YtnboooaockgoiaaGreatDoor
open Go.RowKit
set_option linter.unusedVariables false

/-- The words between two, by number less five. -/
def opT : Nat → ByteArray
  | 0 => ⟨#[43]⟩
  | 1 => ⟨#[45]⟩
  | 2 => ⟨#[42]⟩
  | 3 => ⟨#[61]⟩
  | 4 => ⟨#[60, 62]⟩
  | 5 => ⟨#[60]⟩
  | 6 => ⟨#[60, 61]⟩
  | 7 => ⟨#[62]⟩
  | 8 => ⟨#[62, 61]⟩
  | 9 => ⟨#[97, 110, 100]⟩
  | _ => ⟨#[111, 114]⟩
theorem opT_size : ∀ j, (opT j).size ≤ 3
  | 0 => by decide
  | 1 => by decide
  | 2 => by decide
  | 3 => by decide
  | 4 => by decide
  | 5 => by decide
  | 6 => by decide
  | 7 => by decide
  | 8 => by decide
  | 9 => by decide
  | _ + 10 => (by decide : (⟨#[111, 114]⟩ : ByteArray).size ≤ 3)
def shE : Tr → ByteArray
  | .nil => ⟨#[]⟩
  | .node _ op p l r =>
    if op = 1 then (if p.1 = 1 ∧ p.2.1 < 0 then ⟨#[]⟩ else vaB p)
    else if op = 2 then coB p.2.2.2.1 p.2.2.2.2
    else if op = 3 then (⟨#[40, 45]⟩ ++ shE l) ++ ⟨#[41]⟩
    else if op = 4 then (⟨#[40, 110, 111, 116, 32]⟩ ++ shE l) ++ ⟨#[41]⟩
    else (((((⟨#[40]⟩ ++ shE l) ++ ⟨#[32]⟩) ++ opT (op - 5)) ++ ⟨#[32]⟩) ++ shE r) ++ ⟨#[41]⟩
/-- An expression that Parse or the play makes. -/
def WfT : Tr → Prop
  | .nil => False
  | .node _ op p l r => (Fits p.2.1 ∧ p.2.2.1.size ≤ 1000 ∧ p.2.2.2.1.size ≤ 1000 ∧ p.2.2.2.2.size ≤ 1000) ∧ ((op = 1 ∨ op = 2) ∨ ((op = 3 ∨ op = 4) ∧ WfT l) ∨ (5 ≤ op ∧ op ≤ 15 ∧ WfT l ∧ WfT r))
theorem WfT.no {t : Tr} (h : WfT t) : noT t = false := by
  cases t with
  | nil => exact h.elim
  | node => rfl
theorem ops11_cell (w : World) : ∀ j, j < 11 → (w.alloc (.cells #[.string ⟨#[43]⟩, .string ⟨#[45]⟩, .string ⟨#[42]⟩, .string ⟨#[61]⟩, .string ⟨#[60, 62]⟩, .string ⟨#[60]⟩, .string ⟨#[60, 61]⟩, .string ⟨#[62]⟩, .string ⟨#[62, 61]⟩, .string ⟨#[97, 110, 100]⟩, .string ⟨#[111, 114]⟩] 9)).cell? ⟨w.heap.size, j, none⟩ = some (.string (opT j)) := by
  intro j hj
  match j, hj with
  | 0, _ => exact cell_new w _ _ _ 0
  | 1, _ => exact cell_new w _ _ _ 1
  | 2, _ => exact cell_new w _ _ _ 2
  | 3, _ => exact cell_new w _ _ _ 3
  | 4, _ => exact cell_new w _ _ _ 4
  | 5, _ => exact cell_new w _ _ _ 5
  | 6, _ => exact cell_new w _ _ _ 6
  | 7, _ => exact cell_new w _ _ _ 7
  | 8, _ => exact cell_new w _ _ _ 8
  | 9, _ => exact cell_new w _ _ _ 9
  | 10, _ => exact cell_new w _ _ _ 10
theorem ops11_at : ∀ j (hj : j < 11), ([.string ⟨#[43]⟩, .string ⟨#[45]⟩, .string ⟨#[42]⟩, .string ⟨#[61]⟩, .string ⟨#[60, 62]⟩, .string ⟨#[60]⟩, .string ⟨#[60, 61]⟩, .string ⟨#[62]⟩, .string ⟨#[62, 61]⟩, .string ⟨#[97, 110, 100]⟩, .string ⟨#[111, 114]⟩] : List Value)[j]'hj = .string (opT j) := by
  intro j hj
  match j, hj with
  | 0, _ => rfl
  | 1, _ => rfl
  | 2, _ => rfl
  | 3, _ => rfl
  | 4, _ => rfl
  | 5, _ => rfl
  | 6, _ => rfl
  | 7, _ => rfl
  | 8, _ => rfl
  | 9, _ => rfl
  | 10, _ => rfl

/-- Expr says this of the expression. -/
def ShowOK (t : Tr) : Prop := WfT t → (shE t).size ≤ 1000000 → ∀ (Q : Nat → Prop) (w : World) (v : Value), Ex Q w t v → Calls Tryz.prog 13 #[v] w fun e w' => e = .returned (.string (shE t)) ∧ Below w.heap.size w w'

set_option maxRecDepth 100000 in
set_option maxHeartbeats 2000000 in
theorem show_leaf {x op : Nat} {p : Pay} {l r : Tr} (ho : op = 1 ∨ op = 2) : ShowOK (.node x op p l r) := by
  intro hw hz Q w v h
  obtain ⟨⟨hf, h1, h2, h3⟩, -⟩ := hw
  obtain ⟨ao, n, c, rfl, -, -, -⟩ := h
  have HV : Hid (∀ w, _) := hid fun w => fValue_any p hf (by omega) w
  have HC : Hid (∀ w, _) := hid fun w => fCol2_any p.2.2.2.1 p.2.2.2.2 (by omega) (by omega) w
  rcases ho with rfl | rfl
  · have HS : Hid (shE (.node x 1 p l r) = if p.1 = 1 ∧ p.2.1 < 0 then ⟨#[]⟩ else vaB p) := hid rfl
    generalize shE (.node x 1 p l r) = RR at *
    generalize vaB p = D at *
    obtain ⟨k, i, s, t, m⟩ := p
    clear HC hz
    unfold exV
    by_cases hk : k = 1
    · subst hk
      by_cases hi : i < 0
      · have gi : decide (i < 0) = true := by simpa using hi
        have E : Hid _ := hid (HS.out.trans (if_pos ⟨rfl, hi⟩))
        clear HS HV hi
        go_enter Tryz.func13, Tryz.ntmps13
        go_wp2
        go_ret
        exact ⟨by rw [E.out]; rfl, bal (Below.refl _ _) _⟩
      · have gi : decide (i < 0) = false := by simpa using hi
        have E : Hid _ := hid (HS.out.trans (if_neg (fun k => hi k.2)))
        clear HS hi
        go_enter Tryz.func13, Tryz.ntmps13
        go_wp2_with fail
        refine Calls.mono (HV.out _) ?_
        rintro e w1 ⟨rfl, hb1⟩
        have hB := Below.on (bal (Below.refl _ w) _) hb1
        clear HV hb1
        go_wp2
        go_ret
        exact ⟨by rw [E.out]; rfl, hB⟩
    · have gk : (k == 1) = false := by simpa using hk
      have E : Hid _ := hid (HS.out.trans (if_neg (fun e => hk e.1)))
      clear HS hk
      go_enter Tryz.func13, Tryz.ntmps13
      go_wp2_with fail
      refine Calls.mono (HV.out _) ?_
      rintro e w1 ⟨rfl, hb1⟩
      have hB := Below.on (bal (Below.refl _ w) _) hb1
      clear HV hb1
      go_wp2
      go_ret
      exact ⟨by rw [E.out]; rfl, hB⟩
  · have E : Hid (shE (.node x 2 p l r) = coB p.2.2.2.1 p.2.2.2.2) := hid rfl
    generalize shE (.node x 2 p l r) = RR at *
    generalize coB p.2.2.2.1 p.2.2.2.2 = D at *
    obtain ⟨k, i, s, t, m⟩ := p
    clear HV hz
    unfold exV
    go_enter Tryz.func13, Tryz.ntmps13
    go_wp2_with fail
    refine Calls.mono (HC.out _) ?_
    rintro e w1 ⟨rfl, hb1⟩
    have hB := Below.on (bal (Below.refl _ w) _) hb1
    clear HC hb1
    go_wp2
    go_ret
    exact ⟨by rw [E.out]; rfl, hB⟩
/-- What stands first in a node. -/
theorem Ex.first {Q : Nat → Prop} {w : World} {x op : Nat} {p : Pay} {l r : Tr} {v : Value} (h : Ex Q w (.node x op p l r) v) (hl : noT l = false) : ∃ b o n c op1 p1 a1 n1 c1, v = exV op p (.slice (some ⟨b, o, none⟩) n c) ∧ 1 ≤ n ∧ n ≤ c ∧ c ≤ 9223372036854775807 ∧ Ce w b o op1 p1 (.slice a1 n1 c1) ∧ Ex Q w l (exV op1 p1 (.slice a1 n1 c1)) := by
  obtain ⟨ao, n, c, hv, hn, hc, h⟩ := h
  rcases h with ⟨h1, _⟩ | ⟨h1, h2, rfl, b, o, op1, p1, a1, n1, c1, rfl, hq, hx, hl'⟩ | ⟨h1, h2, rfl, b, o, op1, p1, a1, n1, c1, op2, p2, a2, n2, c2, rfl, hq, hx, hy, hl', hr'⟩
  · rw [hl] at h1; cases h1
  · exact ⟨b, o, 1, c, op1, p1, a1, n1, c1, hv, Nat.le_refl _, hn, hc, hx, hl'⟩
  · exact ⟨b, o, 2, c, op1, p1, a1, n1, c1, hv, by omega, hn, hc, hx, hl'⟩
theorem Ex.both {Q : Nat → Prop} {w : World} {x op : Nat} {p : Pay} {l r : Tr} {v : Value} (h : Ex Q w (.node x op p l r) v) (hl : noT l = false) (hr : noT r = false) : ∃ b o c op1 p1 a1 n1 c1 op2 p2 a2 n2 c2, v = exV op p (.slice (some ⟨b, o, none⟩) 2 c) ∧ 2 ≤ c ∧ c ≤ 9223372036854775807 ∧ Ce w b o op1 p1 (.slice a1 n1 c1) ∧ Ce w b (o + 7) op2 p2 (.slice a2 n2 c2) ∧ Ex Q w l (exV op1 p1 (.slice a1 n1 c1)) ∧ Ex Q w r (exV op2 p2 (.slice a2 n2 c2)) := by
  obtain ⟨ao, n, c, hv, hn, hc, h⟩ := h
  rcases h with ⟨h1, _⟩ | ⟨h1, h2, _⟩ | ⟨h1, h2, rfl, b, o, op1, p1, a1, n1, c1, op2, p2, a2, n2, c2, rfl, hq, hx, hy, hl', hr'⟩
  · rw [hl] at h1; cases h1
  · rw [hr] at h2; cases h2
  · exact ⟨b, o, c, op1, p1, a1, n1, c1, op2, p2, a2, n2, c2, hv, hn, hc, hx, hy, hl', hr'⟩

set_option maxRecDepth 100000 in
set_option maxHeartbeats 2000000 in
theorem show_one {x op : Nat} {p : Pay} {l r : Tr} (ho : op = 3 ∨ op = 4) (hl : ShowOK l) : ShowOK (.node x op p l r) := by
  intro hw hz Q w v h
  have hwl : WfT l := by
    obtain ⟨_, h | h | h⟩ := hw
    · omega
    · exact h.2
    · omega
  obtain ⟨b, o, n, c, op1, p1, a1, n1, c1, rfl, hn1, hnc, hc, hx, hex⟩ := h.first hwl.no
  have hzl : (shE l).size ≤ 1000000 - 3 := by
    rcases ho with rfl | rfl
    · have e : shE (.node x 3 p l r) = (⟨#[40, 45]⟩ ++ shE l) ++ ⟨#[41]⟩ := rfl
      rw [e, ByteArray.size_append, ByteArray.size_append] at hz
      have e1 : (⟨#[40, 45]⟩ : ByteArray).size = 2 := rfl
      have e2 : (⟨#[41]⟩ : ByteArray).size = 1 := rfl
      omega
    · have e : shE (.node x 4 p l r) = (⟨#[40, 110, 111, 116, 32]⟩ ++ shE l) ++ ⟨#[41]⟩ := rfl
      rw [e, ByteArray.size_append, ByteArray.size_append] at hz
      have e1 : (⟨#[40, 110, 111, 116, 32]⟩ : ByteArray).size = 5 := rfl
      have e2 : (⟨#[41]⟩ : ByteArray).size = 1 := rfl
      omega
  have HL : Hid (∀ w1, Below w.heap.size w w1 → _) := hid fun w1 hb => hl hwl (by omega) Q w1 _ (hex.later hb)
  have hy := hx.keep (w' := w.alloc (.cells #[.int .i64 (op : Int), .int .i64 p.1, .int .i64 p.2.1, .string p.2.2.1, .string p.2.2.2.1, .string p.2.2.2.2, .slice (some ⟨b, o, none⟩) n c] 43)) ((bal (Below.refl _ w) _).block b hx.lt)
  have hbl := hx.lt
  obtain ⟨k0, k1, k2, k3, k4, k5, k6⟩ := hx
  unfold exV at HL ⊢
  rcases ho with rfl | rfl
  · have E : Hid (shE (.node x 3 p l r) = (⟨#[40, 45]⟩ ++ shE l) ++ ⟨#[41]⟩) := hid rfl
    generalize shE (.node x 3 p l r) = RR at *
    generalize shE l = Sl at *
    clear hy hex h hz hw hwl hl
    go_enter Tryz.func13, Tryz.ntmps13
    go_wp2_with fail
    refine Calls.mono (HL.out _ (bal (Below.refl _ w) _)) ?_
    rintro e w1 ⟨rfl, hb1⟩
    have hB := Below.on (bal (Below.refl _ w) _) hb1
    clear HL hb1
    go_wp2
    go_ret
    exact ⟨by rw [E.out]; rfl, hB⟩
  · have E : Hid (shE (.node x 4 p l r) = (⟨#[40, 110, 111, 116, 32]⟩ ++ shE l) ++ ⟨#[41]⟩) := hid rfl
    generalize shE (.node x 4 p l r) = RR at *
    generalize shE l = Sl at *
    clear hy hex h hz hw hwl hl
    go_enter Tryz.func13, Tryz.ntmps13
    go_wp2_with fail
    refine Calls.mono (HL.out _ (bal (Below.refl _ w) _)) ?_
    rintro e w1 ⟨rfl, hb1⟩
    have hB := Below.on (bal (Below.refl _ w) _) hb1
    clear HL hb1
    go_wp2
    go_ret
    exact ⟨by rw [E.out]; rfl, hB⟩

end Go.Proofs.YtnboooaockgoiaaGreatDoor
namespace Go.Proofs.YtnboooaockgoiaaGreatDoor
open Go.RowKit
set_option linter.unusedVariables false

set_option maxRecDepth 100000 in
set_option maxHeartbeats 20000000 in
theorem show_two {x op : Nat} {p : Pay} {l r : Tr} (h5 : 5 ≤ op) (h15 : op ≤ 15) (hl : ShowOK l) (hr : ShowOK r) : ShowOK (.node x op p l r) := by
  intro hw hz Q w v h
  have hww : WfT l ∧ WfT r := by
    obtain ⟨_, h | h | h⟩ := hw
    · omega
    · omega
    · exact h.2.2
  obtain ⟨hwl, hwr⟩ := hww
  obtain ⟨j, rfl⟩ : ∃ j, op = j + 5 := ⟨op - 5, by omega⟩
  have hj : j < 11 := by omega
  obtain ⟨b, o, c, op1, p1, a1, n1, c1, op2, p2, a2, n2, c2, rfl, hc2, hc, hx, hy, ex, ey⟩ := h.both hwl.no hwr.no
  have E : shE (.node x (j + 5) p l r) = (((((⟨#[40]⟩ ++ shE l) ++ ⟨#[32]⟩) ++ opT j) ++ ⟨#[32]⟩) ++ shE r) ++ ⟨#[41]⟩ := by
    rw [shE, if_neg (by omega), if_neg (by omega), if_neg (by omega), if_neg (by omega), Nat.add_sub_cancel]
  have zo := opT_size j
  have hzz : (shE l).size + (shE r).size ≤ 1000000 := by
    rw [E] at hz
    simp only [ByteArray.size_append] at hz
    omega
  have HL : Hid (∀ w1, Below w.heap.size w w1 → _) := hid fun w1 hb => hl hwl (by omega) Q w1 _ (ex.later hb)
  have HR : Hid (∀ w1, Below w.heap.size w w1 → _) := hid fun w1 hb => hr hwr (by omega) Q w1 _ (ey.later hb)
  have HE : Hid _ := hid E
  have e5 : ((j + 5 : Nat) : Int) = (j : Int) + 5 := by omega
  have bB : Be (w.alloc (.cells #[.int .i64 ((j : Int) + 5), .int .i64 p.1, .int .i64 p.2.1, .string p.2.2.1, .string p.2.2.2.1, .string p.2.2.2.2, .slice (some ⟨b, o, none⟩) 2 c] 43)) w.heap.size ((j : Int) + 5) p (.slice (some ⟨b, o, none⟩) 2 c) := Be.new w _ p _
  have bC := bB.later (bal (Below.refl _ _) (.cells #[.string ⟨#[43]⟩, .string ⟨#[45]⟩, .string ⟨#[42]⟩, .string ⟨#[61]⟩, .string ⟨#[60, 62]⟩, .string ⟨#[60]⟩, .string ⟨#[60, 61]⟩, .string ⟨#[62]⟩, .string ⟨#[62, 61]⟩, .string ⟨#[97, 110, 100]⟩, .string ⟨#[111, 114]⟩] 9))
  have hB2 := bal (bal (Below.refl _ w) (.cells #[.int .i64 ((j : Int) + 5), .int .i64 p.1, .int .i64 p.2.1, .string p.2.2.1, .string p.2.2.2.1, .string p.2.2.2.2, .slice (some ⟨b, o, none⟩) 2 c] 43)) (.cells #[.string ⟨#[43]⟩, .string ⟨#[45]⟩, .string ⟨#[42]⟩, .string ⟨#[61]⟩, .string ⟨#[60, 62]⟩, .string ⟨#[60]⟩, .string ⟨#[60, 61]⟩, .string ⟨#[62]⟩, .string ⟨#[62, 61]⟩, .string ⟨#[97, 110, 100]⟩, .string ⟨#[111, 114]⟩] 9)
  have hx2 := hx.keep (hB2.block b hx.lt)
  have hy2 := hy.keep (hB2.block b hx.lt)
  have hat := ops11_at j hj
  generalize shE (.node x (j + 5) p l r) = RR at *
  generalize shE l = Sl at *
  generalize shE r = Sr at *
  clear h hz hw hwl hwr hl hr ex ey E h5 h15 hx hy bB
  unfold exV at HL HR ⊢
  rw [e5]
  clear e5
  go_enter Tryz.func13, Tryz.ntmps13
  go_upto_region 13 with fail
  try rw [hat]
  generalize opT j = So at *
  generalize (w.alloc (.cells #[.int .i64 ((j : Int) + 5), .int .i64 p.1, .int .i64 p.2.1, .string p.2.2.1, .string p.2.2.2.1, .string p.2.2.2.2, .slice (some ⟨b, o, none⟩) 2 c] 43)).alloc (.cells #[.string ⟨#[43]⟩, .string ⟨#[45]⟩, .string ⟨#[42]⟩, .string ⟨#[61]⟩, .string ⟨#[60, 62]⟩, .string ⟨#[60]⟩, .string ⟨#[60, 61]⟩, .string ⟨#[62]⟩, .string ⟨#[62, 61]⟩, .string ⟨#[97, 110, 100]⟩, .string ⟨#[111, 114]⟩] 9) = W at *
  have c6 : W.cell? ⟨w.heap.size, 6, none⟩ = some (.slice (some ⟨b, o, none⟩) 2 c) := bC.cells.2.2.2.2.2.2
  clear bC hat
  have HB2 : Hid (∀ w', Below W.heap.size W w' → Below w.heap.size w w') := hid fun w' hb => Below.on hB2 hb
  have HL2 : Hid (∀ w1, Below W.heap.size W w1 → _) := hid fun w1 hb => HL.out w1 (Below.on hB2 hb)
  have HR2 : Hid (∀ w1, Below W.heap.size W w1 → _) := hid fun w1 hb => HR.out w1 (Below.on hB2 hb)
  clear HL HR hB2
  generalize hqa : w.heap.size = qa at *
  have HK : Hid (∀ w', Below W.heap.size W w' → w'.cell? ⟨qa, 6, none⟩ = some (.slice (some ⟨b, o, none⟩) 2 c) ∧ (w'.cell? ⟨b, o, none⟩ = some (.int .i64 op1) ∧ w'.cell? ⟨b, o + 1, none⟩ = some (.int .i64 p1.1) ∧ w'.cell? ⟨b, o + 2, none⟩ = some (.int .i64 p1.2.1) ∧ w'.cell? ⟨b, o + 3, none⟩ = some (.string p1.2.2.1) ∧ w'.cell? ⟨b, o + 4, none⟩ = some (.string p1.2.2.2.1) ∧ w'.cell? ⟨b, o + 5, none⟩ = some (.string p1.2.2.2.2) ∧ w'.cell? ⟨b, o + 6, none⟩ = some (.slice a1 n1 c1)) ∧ (w'.cell? ⟨b, o + 7, none⟩ = some (.int .i64 op2) ∧ w'.cell? ⟨b, o + 7 + 1, none⟩ = some (.int .i64 p2.1) ∧ w'.cell? ⟨b, o + 7 + 2, none⟩ = some (.int .i64 p2.2.1) ∧ w'.cell? ⟨b, o + 7 + 3, none⟩ = some (.string p2.2.2.1) ∧ w'.cell? ⟨b, o + 7 + 4, none⟩ = some (.string p2.2.2.2.1) ∧ w'.cell? ⟨b, o + 7 + 5, none⟩ = some (.string p2.2.2.2.2) ∧ w'.cell? ⟨b, o + 7 + 6, none⟩ = some (.slice a2 n2 c2))) := hid fun w' hb => ⟨cell_later hb c6, hx2.keep (hb.block b hx2.lt), hy2.keep (hb.block b hx2.lt)⟩
  have hC : Below W.heap.size W W.drew := (Below.refl _ W).drew
  clear hx2 hy2 c6
  have k1 : ¬ 9223372036854775807 < 1 + Sl.size := by omega
  have k2 : ¬ 9223372036854775807 < 1 + Sl.size + 1 := by omega
  have k3 : ¬ 9223372036854775807 < 1 + Sl.size + 1 + So.size := by omega
  have k4 : ¬ 9223372036854775807 < 1 + Sl.size + 1 + So.size + 1 := by omega
  have k5 : ¬ 9223372036854775807 < 1 + Sl.size + 1 + So.size + 1 + Sr.size := by omega
  have k6 : ¬ 9223372036854775807 < 1 + Sl.size + 1 + So.size + 1 + Sr.size + 1 := by omega
  clear hzz zo
  go_region_held3 (fun w' => w'.cell? ⟨qa, 6, none⟩ = some (.slice (some ⟨b, o, none⟩) 2 c) ∧ (w'.cell? ⟨b, o, none⟩ = some (.int .i64 op1) ∧ w'.cell? ⟨b, o + 1, none⟩ = some (.int .i64 p1.1) ∧ w'.cell? ⟨b, o + 2, none⟩ = some (.int .i64 p1.2.1) ∧ w'.cell? ⟨b, o + 3, none⟩ = some (.string p1.2.2.1) ∧ w'.cell? ⟨b, o + 4, none⟩ = some (.string p1.2.2.2.1) ∧ w'.cell? ⟨b, o + 5, none⟩ = some (.string p1.2.2.2.2) ∧ w'.cell? ⟨b, o + 6, none⟩ = some (.slice a1 n1 c1)) ∧ (w'.cell? ⟨b, o + 7, none⟩ = some (.int .i64 op2) ∧ w'.cell? ⟨b, o + 7 + 1, none⟩ = some (.int .i64 p2.1) ∧ w'.cell? ⟨b, o + 7 + 2, none⟩ = some (.int .i64 p2.2.1) ∧ w'.cell? ⟨b, o + 7 + 3, none⟩ = some (.string p2.2.2.1) ∧ w'.cell? ⟨b, o + 7 + 4, none⟩ = some (.string p2.2.2.2.1) ∧ w'.cell? ⟨b, o + 7 + 5, none⟩ = some (.string p2.2.2.2.2) ∧ w'.cell? ⟨b, o + 7 + 6, none⟩ = some (.slice a2 n2 c2))) (exact HK.out _ hC)
    (first
    | (go_at_call 13; with_reducible refine Calls.mono (HL2.out _ hC) ?_; rintro e z1 ⟨rfl, hb1⟩; replace hC := Below.on hC hb1)
    | (go_at_call 13; with_reducible refine Calls.mono (HR2.out _ hC) ?_; rintro e z2 ⟨rfl, hb2⟩; replace hC := Below.on hC hb2))
  all_goals
    go_wp2
    go_ret
    exact ⟨by rw [HE.out]; rfl, by rw [hqa]; exact HB2.out _ hC⟩
theorem show_expr (t : Tr) : ShowOK t := by
  induction t with
  | nil => intro h; exact h.elim
  | node x op p l r ihl ihr =>
    intro hw
    obtain ⟨_, h | ⟨h, _⟩ | ⟨h5, h15, _⟩⟩ := id hw
    · exact show_leaf h hw
    · exact show_one h ihl hw
    · exact show_two h5 h15 ihl ihr hw

end Go.Proofs.YtnboooaockgoiaaGreatDoor
namespace Go.Proofs.YtnboooaockgoiaaGreatDoor
open Go.RowKit
set_option linter.unusedVariables false

/-- Members one behind the other, a text between each two. -/
def jo {α : Type} (sep : ByteArray) (g : ByteArray → α → ByteArray) : List α → ByteArray
  | [] => ⟨#[]⟩
  | x :: r => r.foldl (fun s y => g (s ++ sep) y) (g ⟨#[]⟩ x)
theorem jo_snoc {α : Type} {sep : ByteArray} {g : ByteArray → α → ByteArray} {l : List α} (h : l ≠ []) (y : α) : jo sep g (l ++ [y]) = g (jo sep g l ++ sep) y := by
  cases l with
  | nil => exact absurd rfl h
  | cons x r => simp only [List.cons_append, jo, List.foldl_append, List.foldl_cons, List.foldl_nil]
theorem jo_le {α : Type} {sep : ByteArray} {g : ByteArray → α → ByteArray} (hg : ∀ s y, s.size ≤ (g s y).size) (l m : List α) : (jo sep g l).size ≤ (jo sep g (l ++ m)).size := by
  induction m generalizing l with
  | nil => rw [List.append_nil]; exact Nat.le_refl _
  | cons y m ih =>
    have h1 : (jo sep g l).size ≤ (jo sep g (l ++ [y])).size := by
      by_cases h : l = []
      · subst h; exact Nat.zero_le _
      · rw [jo_snoc h]
        refine Nat.le_trans ?_ (hg _ _)
        rw [ByteArray.size_append]; omega
    have h2 := ih (l ++ [y])
    rw [List.append_assoc] at h2
    exact Nat.le_trans h1 h2
theorem jo_take {α : Type} {sep : ByteArray} {g : ByteArray → α → ByteArray} (hg : ∀ s y, s.size ≤ (g s y).size) (l : List α) (k : Nat) : (jo sep g (l.take k)).size ≤ (jo sep g l).size := by
  have := jo_le (sep := sep) hg (l.take k) (l.drop k)
  rw [List.take_append_drop] at this
  exact this
theorem jo_step {α : Type} {sep : ByteArray} {g : ByteArray → α → ByteArray} {l : List α} {k : Nat} (hk : k < l.length) : jo sep g (l.take (k + 1)) = if k = 0 then g ⟨#[]⟩ l[k] else g (jo sep g (l.take k) ++ sep) l[k] := by
  rw [List.take_succ_eq_append_getElem hk]
  by_cases h : k = 0
  · subst h; rw [if_pos rfl, List.take_zero]; rfl
  · rw [if_neg h, jo_snoc]
    intro e
    have h2 : (l.take k).length = 0 := by rw [e]; rfl
    rw [List.length_take] at h2
    omega

def whB : List Tr → ByteArray
  | [] => ⟨#[]⟩
  | x :: _ => ⟨#[32, 119, 104, 101, 114, 101, 32]⟩ ++ shE x
def exB (s : ByteArray) (t : Tr) : ByteArray := s ++ shE t
def exsB (l : List Tr) : ByteArray := jo ⟨#[44, 32]⟩ exB l
def taB (s : ByteArray) (z : Int) : ByteArray := (s ++ ⟨#[32]⟩) ++ ⟨(Lib.itoa z).toArray⟩
def tasB (l : List Int) : ByteArray := jo ⟨#[44]⟩ taB l
theorem exB_le (s : ByteArray) (t : Tr) : s.size ≤ (exB s t).size := by rw [exB, ByteArray.size_append]; omega
theorem taB_le (s : ByteArray) (z : Int) : s.size ≤ (taB s z).size := by rw [taB, ByteArray.size_append, ByteArray.size_append]; omega

set_option maxRecDepth 100000 in
set_option maxHeartbeats 2000000 in
theorem fWhereS_any (hE : ∀ t, ShowOK t) {l : List Tr} (hw : ∀ t ∈ l, WfT t) {Q : Nat → Prop} {w : World} {v : Value} (h : RowIs eExpr Q w v l) (hz : (whB l).size ≤ 1000000) :
    Calls Tryz.prog 36 #[v] w fun e w' => e = .returned (.string (whB l)) ∧ Below w.heap.size w w' := by
  obtain ⟨a, n, c, rfl, hl, hn, hc, -⟩ := id h
  cases l with
  | nil =>
    obtain rfl : n = 0 := hl.symm
    have E : Hid (whB [] = ⟨#[]⟩) := hid rfl
    generalize whB [] = RR at *
    clear h hE hw hz hl
    go_enter Tryz.func36, Tryz.ntmps36
    go_wp2
    go_ret
    exact ⟨by rw [E.out]; rfl, Below.refl _ _⟩
  | cons t r =>
    have hn1 : 1 ≤ n := by rw [List.length_cons] at hl; omega
    obtain ⟨b, o, op, p, a', n', c', rfl, q, hx⟩ := h.at (k := 0) (by simp)
    have E : Hid (whB (t :: r) = ⟨#[32, 119, 104, 101, 114, 101, 32]⟩ ++ shE t) := hid rfl
    have hzt : (shE t).size ≤ 1000000 := by
      rw [E.out, ByteArray.size_append] at hz; omega
    have HC : Hid _ := hid (hE t (hw t (by simp)) hzt Q w _ hx)
    rw [Nat.zero_mul, Nat.add_zero] at q
    have hbl := q.lt
    obtain ⟨k0, k1, k2, k3, k4, k5, k6⟩ := q
    generalize whB (t :: r) = RR at *
    generalize shE t = St at *
    unfold exV at HC
    have gn : ((n : Int) == 0) = false := by simp; omega
    clear h hE hw hz hl hx
    go_enter Tryz.func36, Tryz.ntmps36
    go_wp2_with fail
    refine Calls.mono HC.out ?_
    rintro e w1 ⟨rfl, hb1⟩
    clear HC
    go_wp2
    go_ret
    exact ⟨by rw [E.out]; rfl, hb1⟩

set_option maxRecDepth 100000 in
set_option maxHeartbeats 4000000 in
theorem fExprs_any (hE : ∀ t, ShowOK t) {l : List Tr} (hw : ∀ t ∈ l, WfT t) {Q : Nat → Prop} {w : World} {v : Value} (h : RowIs eExpr Q w v l) (hz : (exsB l).size ≤ 1000000) :
    Calls Tryz.prog 34 #[v] w fun e w' => e = .returned (.string (exsB l)) ∧ Below w.heap.size w w' := by
  obtain ⟨a, n, c, rfl, hl, hn, hc, -⟩ := id h
  have HK : Hid (∀ k (hk : k < n), ∀ w1, Below w.heap.size w w1 → ∃ (b o : Nat) (op : Int) (p : Pay) (a' : Option Addr) (n' c' : Nat) (St : ByteArray), a = some ⟨b, o, none⟩ ∧ Ce w1 b (o + k * 7) op p (.slice a' n' c') ∧ (∀ w2, Below w.heap.size w w2 → Calls Tryz.prog 13 #[exV op p (.slice a' n' c')] w2 fun e w' => e = .returned (.string St) ∧ Below w2.heap.size w2 w') ∧
      (k = 0 → ⟨#[]⟩ ++ St = jo ⟨#[44, 32]⟩ exB (l.take (k + 1))) ∧ (k ≠ 0 → (jo ⟨#[44, 32]⟩ exB (l.take k) ++ ⟨#[44, 32]⟩) ++ St = jo ⟨#[44, 32]⟩ exB (l.take (k + 1))) ∧ (jo ⟨#[44, 32]⟩ exB (l.take (k + 1))).size ≤ 1000000 ∧ St.size ≤ 1000000) := hid fun k hk w1 hb => by
    have hkl : k < l.length := by omega
    obtain ⟨b, o, op, p, a', n', c', e1, q, hx⟩ := h.at (k := k) hkl
    have hst := jo_step (sep := ⟨#[44, 32]⟩) (g := exB) hkl
    have hs1 : (shE l[k]).size ≤ 1000000 := by
      have h1 := jo_take (sep := ⟨#[44, 32]⟩) exB_le l (k + 1)
      rw [hst] at h1
      have h2 : (jo ⟨#[44, 32]⟩ exB l).size ≤ 1000000 := hz
      split at h1
      · rw [exB, ByteArray.size_append] at h1; omega
      · rw [exB, ByteArray.size_append] at h1; omega
    refine ⟨b, o, op, p, a', n', c', shE l[k], e1, q.keep (hb.block _ q.lt), fun w2 hb2 => hE _ (hw _ (List.getElem_mem _)) hs1 Q w2 _ (hx.later hb2), fun e => ?_, fun e => ?_, Nat.le_trans (jo_take exB_le l (k + 1)) hz, hs1⟩
    · rw [hst, if_pos e]; rfl
    · rw [hst, if_neg e]; rfl
  have HZ : Hid (jo ⟨#[44, 32]⟩ exB (l.take n) = exsB l) := hid (by rw [List.take_of_length_le (by omega)]; rfl)
  generalize exsB l = RR at *
  clear h hE hw hz
  go_enter Tryz.func34, Tryz.ntmps34
  go_wp2
  go_loopw [3, 4] (fun o i wr => ∃ (k : Nat) (S : ByteArray), k ≤ n ∧ o = .string S ∧ i = .int .i64 k ∧ S.size ≤ 1000000 ∧ Hid (S = jo ⟨#[44, 32]⟩ exB (l.take k)) ∧ Below w.heap.size w wr) (fun _ i _ => n - (intOf i).toNat)
  case atStart => exact ⟨0, ⟨#[]⟩, Nat.zero_le _, rfl, rfl, by decide, hid rfl, Below.refl _ _⟩
  case round =>
    obtain ⟨k, S, hk, rfl, rfl, hzS, HS, hb⟩ := hrel
    by_cases hlt : k < n
    · obtain ⟨b, o, op, p, a', n', c', St, rfl, q, hcall, hn0, hn1, hzk, hzt⟩ := HK.out k hlt wr hb
      have HC : Hid _ := hid (hcall wr hb)
      have hN0 : Hid _ := hid hn0
      have hN1 : Hid _ := hid hn1
      have hbl := q.lt
      unfold exV at HC
      clear hcall HK hn0 hn1
      by_cases h0 : k = 0
      · subst h0
        rw [Nat.zero_mul, Nat.add_zero] at q
        obtain ⟨k0, k1, k2, k3, k4, k5, k6⟩ := q
        have E0 : S = ⟨#[]⟩ := HS.out
        subst E0
        have HN : Hid _ := hid (hN0.out rfl)
        have hzz : ((⟨#[]⟩ : ByteArray) ++ St).size ≤ 1000000 := by rw [ByteArray.size_append, show (⟨#[]⟩ : ByteArray).size = 0 from rfl]; omega
        clear hN0 hN1 HS
        go_wp2_with fail
        refine Calls.mono HC.out ?_
        rintro e w1 ⟨rfl, hb1⟩
        have hB := Below.on hb hb1
        clear HC hb1
        go_wp2
        go_roundw
        case rel => exact ⟨1, _, by omega, rfl, by go_num, by first | exact hzz | exact hzt, by first | exact HN | exact hid (by rw [← HN.out]; simp), hB⟩
        case measure => simp only [intOf]; omega
      · have g0 : decide ((0 : Int) < (k : Int)) = true := by simp; omega
        obtain ⟨k0, k1, k2, k3, k4, k5, k6⟩ := q
        have HN : Hid _ := hid (hN1.out h0)
        rw [← HS.out] at HN
        have hzz : ((S ++ ⟨#[44, 32]⟩) ++ St).size ≤ 1000000 + 2 + 1000000 := by
          rw [ByteArray.size_append, ByteArray.size_append, show (⟨#[44, 32]⟩ : ByteArray).size = 2 from rfl]; omega
        clear hN0 hN1 HS
        go_wp2_with fail
        refine Calls.mono HC.out ?_
        rintro e w1 ⟨rfl, hb1⟩
        have hB := Below.on hb hb1
        clear HC hb1
        go_wp2
        go_roundw
        case rel => exact ⟨k + 1, _, by omega, rfl, by go_num, by rw [HN.out]; exact hzk, HN, hB⟩
        case measure => simp only [intOf]; omega
    · obtain rfl : k = n := by omega
      have E : Hid (S = RR) := hid (HS.out.trans HZ.out)
      clear HK HS HZ
      go_wp2
      go_ret
      exact ⟨by rw [E.out]; rfl, hb⟩

theorem RowIs.tag1 {Q : Nat → Prop} {w : World} {a : Option Addr} {n c : Nat} {l : List Int} (h : RowIs eTag Q w (.slice a n c) l) {k : Nat} (hk : k < l.length) : ∃ b o, a = some ⟨b, o, none⟩ ∧ w.cell? ⟨b, o + k, none⟩ = some (.int .u16 l[k]) := by
  obtain ⟨ao, n0, c0, hv, hl, _, _, hx⟩ := h
  cases hv
  obtain ⟨b, o, ha, _, hi⟩ := hx (by omega)
  obtain ⟨cs, e1, _, hc⟩ := hi k hk
  have e2 : cs = [.int .u16 l[k]] := e1
  subst e2
  exact ⟨b, o, ha, at_one (hc 0 (show 0 < 1 by decide))⟩
theorem itoa_le {z : Int} (h0 : 0 ≤ z) (h1 : z ≤ 65535) : (⟨(Lib.itoa z).toArray⟩ : ByteArray).size ≤ 30 := by
  rw [sz_mk]
  have := Lib.itoa_length_le z (by omega) (by omega)
  omega

set_option maxRecDepth 100000 in
set_option maxHeartbeats 4000000 in
theorem fTagsS_any {l : List Int} (hw : ∀ z ∈ l, 0 ≤ z ∧ z ≤ 65535) {Q : Nat → Prop} {w : World} {v : Value} (h : RowIs eTag Q w v l) (hz : (tasB l).size ≤ 1000000) :
    Calls Tryz.prog 33 #[v] w fun e w' => e = .returned (.string (tasB l)) ∧ Below w.heap.size w w' := by
  obtain ⟨a, n, c, rfl, hl, hn, hc, -⟩ := id h
  have HK : Hid (∀ k (hk : k < n), ∀ w1, Below w.heap.size w w1 → ∃ (b o : Nat) (z : Int) (St : ByteArray), a = some ⟨b, o, none⟩ ∧ w1.cell? ⟨b, o + k, none⟩ = some (.int .u16 z) ∧ (0 ≤ z ∧ z ≤ 65535) ∧ (∀ w2, Calls Tryz.prog 46 #[.int .i64 z] w2 fun e w' => e = .returned (.string St) ∧ Below w2.heap.size w2 w') ∧
      (k = 0 → (⟨#[]⟩ ++ ⟨#[32]⟩) ++ St = jo ⟨#[44]⟩ taB (l.take (k + 1))) ∧ (k ≠ 0 → ((jo ⟨#[44]⟩ taB (l.take k) ++ ⟨#[44]⟩) ++ ⟨#[32]⟩) ++ St = jo ⟨#[44]⟩ taB (l.take (k + 1))) ∧ (jo ⟨#[44]⟩ taB (l.take (k + 1))).size ≤ 1000000 ∧ St.size ≤ 30) := hid fun k hk w1 hb => by
    have hkl : k < l.length := by omega
    obtain ⟨b, o, e1, q⟩ := h.tag1 hkl
    have hst := jo_step (sep := ⟨#[44]⟩) (g := taB) hkl
    obtain ⟨z0, z1⟩ := hw _ (List.getElem_mem hkl)
    refine ⟨b, o, l[k], ⟨(Lib.itoa l[k]).toArray⟩, e1, cell_later hb q, ⟨z0, z1⟩, fun w2 => refShow_any _ (by unfold Fits; omega) w2, fun e => ?_, fun e => ?_, Nat.le_trans (jo_take taB_le l (k + 1)) hz, itoa_le z0 z1⟩
    · rw [hst, if_pos e]; rfl
    · rw [hst, if_neg e]; rfl
  have HZ : Hid (jo ⟨#[44]⟩ taB (l.take n) = tasB l) := hid (by rw [List.take_of_length_le (by omega)]; rfl)
  generalize tasB l = RR at *
  clear h hw hz
  go_enter Tryz.func33, Tryz.ntmps33
  go_wp2
  go_loopw [3, 4] (fun o i wr => ∃ (k : Nat) (S : ByteArray), k ≤ n ∧ o = .string S ∧ i = .int .i64 k ∧ S.size ≤ 1000000 ∧ Hid (S = jo ⟨#[44]⟩ taB (l.take k)) ∧ Below w.heap.size w wr) (fun _ i _ => n - (intOf i).toNat)
  case atStart => exact ⟨0, ⟨#[]⟩, Nat.zero_le _, rfl, rfl, by decide, hid rfl, Below.refl _ _⟩
  case round =>
    obtain ⟨k, S, hk, rfl, rfl, hzS, HS, hb⟩ := hrel
    by_cases hlt : k < n
    · obtain ⟨b, o, z, St, rfl, q, ⟨z0, z1⟩, hcall, hn0, hn1, hzk, hzt⟩ := HK.out k hlt wr hb
      have HC : Hid _ := hid (hcall wr)
      have hN0 : Hid _ := hid hn0
      have hN1 : Hid _ := hid hn1
      have hbl := World.block_lt_of_cell? _ _ q
      have hwz : IntKind.i64.wrap z = z := by rw [IntKind.wrap_i64]; omega
      clear hcall HK hn0 hn1
      by_cases h0 : k = 0
      · subst h0
        rw [Nat.add_zero] at q
        have E0 : S = ⟨#[]⟩ := HS.out
        subst E0
        have HN : Hid _ := hid (hN0.out rfl)
        have HZ1 : Hid _ := hid hzk
        clear hN0 hN1 HS hzk
        go_wp2_with fail
        refine Calls.mono HC.out ?_
        rintro e w1 ⟨rfl, hb1⟩
        have hB := Below.on hb hb1
        clear HC hb1
        go_wp2
        go_roundw
        case rel => exact ⟨1, _, by omega, rfl, by go_num, by first | (rw [HN.out]; exact HZ1.out) | (have := HZ1.out; rw [← HN.out] at this; simpa using this), by first | exact HN | exact hid (by rw [← HN.out]; simp), hB⟩
        case measure => simp only [intOf]; omega
      · have g0 : decide ((0 : Int) < (k : Int)) = true := by simp; omega
        have HN : Hid _ := hid (hN1.out h0)
        rw [← HS.out] at HN
        clear hN0 hN1 HS
        go_wp2_with fail
        refine Calls.mono HC.out ?_
        rintro e w1 ⟨rfl, hb1⟩
        have hB := Below.on hb hb1
        clear HC hb1
        go_wp2
        go_roundw
        case rel => exact ⟨k + 1, _, by omega, rfl, by go_num, by rw [HN.out]; exact hzk, HN, hB⟩
        case measure => simp only [intOf]; omega
    · obtain rfl : k = n := by omega
      have E : Hid (S = RR) := hid (HS.out.trans HZ.out)
      clear HK HS HZ
      go_wp2
      go_ret
      exact ⟨by rw [E.out]; rfl, hb⟩

end Go.Proofs.YtnboooaockgoiaaGreatDoor
namespace Go.Proofs.YtnboooaockgoiaaGreatDoor
open Go.RowKit
set_option linter.unusedVariables false

set_option maxRecDepth 100000 in
set_option maxHeartbeats 20000000 in
theorem fShow_delete (hE : ∀ t, ShowOK t) {m : Sm} {s : Sv} {Q : Nat → Prop} {w : World} (hk : m.kind = 8) (hw : ∀ t ∈ m.wh, WfT t) (hz : m.table.size + (whB m.wh).size ≤ 900000) (h : IsS Q w m s) :
    Calls Tryz.prog 15 #[stV s] w fun e w' => e = .returned (.string ((⟨#[100, 101, 108, 101, 116, 101, 32, 102, 114, 111, 109, 32]⟩ ++ m.table) ++ whB m.wh)) ∧ Below w.heap.size w w' := by
  have HW : Hid (∀ w1, Below w.heap.size w w1 → _) := hid fun w1 hb => fWhereS_any hE hw (h.wh.later (by decide) hb) (by omega)
  have e0 := h.k.trans hk
  have e1 := h.tb
  have e2 := h.nm
  generalize m.table = TB at *
  generalize m.name = NM at *
  generalize whB m.wh = St at *
  clear h hk
  obtain ⟨k, tb, nm, ⟨coa, con, coc⟩, ⟨taa, tan, tac⟩, ⟨vaa, van, vac⟩, ⟨ita, itn, itc⟩, jn, ⟨ona, onn, onc⟩, ⟨wha, whn, whc⟩, ⟨oda, odn, odc⟩, ds, ⟨inna, innn, innc⟩⟩ := s
  simp only at e0 e1 e2
  subst e0 e1 e2
  unfold stV
  have bB : Bs (w.alloc (.cells #[.int .i64 8, .string tb, .string nm, .slice coa con coc, .slice taa tan tac, .slice vaa van vac, .slice ita itn itc, .string jn, .slice ona onn onc, .slice wha whn whc, .slice oda odn odc, .bool ds, .slice inna innn innc] 48)) w.heap.size ⟨8, tb, nm, (coa, con, coc), (taa, tan, tac), (vaa, van, vac), (ita, itn, itc), jn, (ona, onn, onc), (wha, whn, whc), (oda, odn, odc), ds, (inna, innn, innc)⟩ := Bs.new w ⟨8, tb, nm, (coa, con, coc), (taa, tan, tac), (vaa, van, vac), (ita, itn, itc), jn, (ona, onn, onc), (wha, whn, whc), (oda, odn, odc), ds, (inna, innn, innc)⟩
  have hB2 := bal (Below.refl _ w) (.cells #[.int .i64 8, .string tb, .string nm, .slice coa con coc, .slice taa tan tac, .slice vaa van vac, .slice ita itn itc, .string jn, .slice ona onn onc, .slice wha whn whc, .slice oda odn odc, .bool ds, .slice inna innn innc] 48)
  simp only
  go_enter Tryz.func15, Tryz.ntmps15
  go_upto_region 26 with fail
  generalize w.alloc (.cells #[.int .i64 8, .string tb, .string nm, .slice coa con coc, .slice taa tan tac, .slice vaa van vac, .slice ita itn itc, .string jn, .slice ona onn onc, .slice wha whn whc, .slice oda odn odc, .bool ds, .slice inna innn innc] 48) = W at *
  have HB2 : Hid (∀ w', Below W.heap.size W w' → Below w.heap.size w w') := hid fun w' hb => Below.on hB2 hb
  clear hB2
  generalize hqa : w.heap.size = qa at *
  have HK : Hid (∀ w', Below W.heap.size W w' → w'.cell? ⟨qa, 1, none⟩ = some (.string tb) ∧ w'.cell? ⟨qa, 9, none⟩ = some (.slice wha whn whc)) := hid fun w' hb => ⟨(bB.later hb).cells.2.1, (bB.later hb).cells.2.2.2.2.2.2.2.2.2.1⟩
  have hC : Below W.heap.size W W.drew := (Below.refl _ W).drew
  have k1 : ¬ 9223372036854775807 < 12 + tb.size := by omega
  have k2 : ¬ 9223372036854775807 < 12 + tb.size + St.size := by omega
  clear bB hz hw hE
  go_region_held3 (fun w' => w'.cell? ⟨qa, 1, none⟩ = some (.string tb) ∧ w'.cell? ⟨qa, 9, none⟩ = some (.slice wha whn whc)) (exact HK.out _ hC)
    (first
    | (go_at_call 36; with_reducible refine Calls.mono (HW.out _ (HB2.out _ hC)) ?_; rintro e z1 ⟨rfl, hb1⟩; replace hC := Below.on hC hb1))
  all_goals
    go_wp2
    go_ret
    exact ⟨rfl, by rw [hqa]; exact HB2.out _ hC⟩
set_option maxRecDepth 100000 in
set_option maxHeartbeats 20000000 in
theorem fShow_insert (hE : ∀ t, ShowOK t) {m : Sm} {s : Sv} {Q : Nat → Prop} {w : World} (hk : m.kind = 5) (hw : ∀ t ∈ m.values, WfT t) (hz : m.table.size + (exsB m.values).size ≤ 900000) (h : IsS Q w m s) :
    Calls Tryz.prog 15 #[stV s] w fun e w' => e = .returned (.string ((((⟨#[105, 110, 115, 101, 114, 116, 32, 105, 110, 116, 111, 32]⟩ ++ m.table) ++ ⟨#[32, 118, 97, 108, 117, 101, 115, 40]⟩) ++ exsB m.values) ++ ⟨#[41]⟩)) ∧ Below w.heap.size w w' := by
  have HW : Hid (∀ w1, Below w.heap.size w w1 → _) := hid fun w1 hb => fExprs_any hE hw (h.va.later (by decide) hb) (by omega)
  have e0 := h.k.trans hk
  have e1 := h.tb
  have e2 := h.nm
  generalize m.table = TB at *
  generalize m.name = NM at *
  generalize exsB m.values = St at *
  clear h hk
  obtain ⟨k, tb, nm, ⟨coa, con, coc⟩, ⟨taa, tan, tac⟩, ⟨vaa, van, vac⟩, ⟨ita, itn, itc⟩, jn, ⟨ona, onn, onc⟩, ⟨wha, whn, whc⟩, ⟨oda, odn, odc⟩, ds, ⟨inna, innn, innc⟩⟩ := s
  simp only at e0 e1 e2
  subst e0 e1 e2
  unfold stV
  have bB : Bs (w.alloc (.cells #[.int .i64 5, .string tb, .string nm, .slice coa con coc, .slice taa tan tac, .slice vaa van vac, .slice ita itn itc, .string jn, .slice ona onn onc, .slice wha whn whc, .slice oda odn odc, .bool ds, .slice inna innn innc] 48)) w.heap.size ⟨5, tb, nm, (coa, con, coc), (taa, tan, tac), (vaa, van, vac), (ita, itn, itc), jn, (ona, onn, onc), (wha, whn, whc), (oda, odn, odc), ds, (inna, innn, innc)⟩ := Bs.new w ⟨5, tb, nm, (coa, con, coc), (taa, tan, tac), (vaa, van, vac), (ita, itn, itc), jn, (ona, onn, onc), (wha, whn, whc), (oda, odn, odc), ds, (inna, innn, innc)⟩
  have hB2 := bal (Below.refl _ w) (.cells #[.int .i64 5, .string tb, .string nm, .slice coa con coc, .slice taa tan tac, .slice vaa van vac, .slice ita itn itc, .string jn, .slice ona onn onc, .slice wha whn whc, .slice oda odn odc, .bool ds, .slice inna innn innc] 48)
  simp only
  go_enter Tryz.func15, Tryz.ntmps15
  go_upto_region 20 with fail
  generalize w.alloc (.cells #[.int .i64 5, .string tb, .string nm, .slice coa con coc, .slice taa tan tac, .slice vaa van vac, .slice ita itn itc, .string jn, .slice ona onn onc, .slice wha whn whc, .slice oda odn odc, .bool ds, .slice inna innn innc] 48) = W at *
  have HB2 : Hid (∀ w', Below W.heap.size W w' → Below w.heap.size w w') := hid fun w' hb => Below.on hB2 hb
  clear hB2
  generalize hqa : w.heap.size = qa at *
  have HK : Hid (∀ w', Below W.heap.size W w' → w'.cell? ⟨qa, 1, none⟩ = some (.string tb) ∧ w'.cell? ⟨qa, 5, none⟩ = some (.slice vaa van vac)) := hid fun w' hb => ⟨(bB.later hb).cells.2.1, (bB.later hb).cells.2.2.2.2.2.1⟩
  have hC : Below W.heap.size W W.drew := (Below.refl _ W).drew
  have k1 : ¬ 9223372036854775807 < 12 + tb.size := by omega
  have k2 : ¬ 9223372036854775807 < 12 + tb.size + 8 := by omega
  have k3 : ¬ 9223372036854775807 < 12 + tb.size + 8 + St.size := by omega
  have k4 : ¬ 9223372036854775807 < 12 + tb.size + 8 + St.size + 1 := by omega
  clear bB hz hw hE
  go_region_held3 (fun w' => w'.cell? ⟨qa, 1, none⟩ = some (.string tb) ∧ w'.cell? ⟨qa, 5, none⟩ = some (.slice vaa van vac)) (exact HK.out _ hC)
    (first
    | (go_at_call 34; with_reducible refine Calls.mono (HW.out _ (HB2.out _ hC)) ?_; rintro e z1 ⟨rfl, hb1⟩; replace hC := Below.on hC hb1))
  all_goals
    go_wp2
    go_ret
    exact ⟨rfl, by rw [hqa]; exact HB2.out _ hC⟩
end Go.Proofs.YtnboooaockgoiaaGreatDoor
