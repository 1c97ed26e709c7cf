import Derived.Test.YtnboooaockgoiaaGreatDoorPav
import Derived.Test.YtnboooaockgoiaaGreatDoorPas
import Derived.Deep.RegionHeld3
import Derived.Test.YtnboooaockgoiaaGreatDoorPai
namespace Go.Proofs.YtnboooaockgoiaaGreatDoor
open Go.RowKit
set_option linter.unusedVariables false
set_option linter.unusedSimpArgs false

/-- An expression that the writer shows as the document does. -/
def WfS : Tr → Prop
  | .nil => False
  | .node _ op p l r => (Fits p.2.1 ∧ p.2.2.1.size ≤ 1000 ∧ p.2.2.2.1.size ≤ 1000 ∧ p.2.2.2.2.size ≤ 1000) ∧ ((op = 1 ∧ ((p.1 = 1 ∧ 0 ≤ p.2.1) ∨ p.1 = 2)) ∨ op = 2 ∨ ((op = 3 ∨ op = 4) ∧ WfS l ∧ noT r = true) ∨ (5 ≤ op ∧ op ≤ 15 ∧ WfS l ∧ WfS r))
theorem WfS.no {t : Tr} (h : WfS t) : noT t = false := by
  cases t with
  | nil => exact h.elim
  | node => rfl
/-- The writer's part at t. -/
def PartOK (t : Tr) : Prop := WfS t → ∀ {g : Nat} {v : Sl} {s : Ws} {w : World}, Wt w g v s.1 s.2 → Ev g w → s.1.length + (shE t).size ≤ 800000 → ∀ (y : Value), Ex (fun k => k < g) w t y → Calls Tryz.prog 45 #[.pointer (some ⟨g, 0, none⟩), y] w (TeS2 g v w (puS [shE t] s))
theorem Ex.row_first {Q : Nat → Prop} {w : World} {x op : Nat} {p : Pay} {l r : Tr} {v : Value} (h : Ex Q w (.node x op p l r) v) (hl : noT l = false) (hr : noT r = true) : ∃ b o c op1 p1 a1 n1 c1, v = exV op p (.slice (some ⟨b, o, none⟩) 1 c) ∧ 1 ≤ c ∧ c ≤ 9223372036854775807 ∧ Q b ∧ Ce w b o op1 p1 (.slice a1 n1 c1) ∧ Ex Q w l (exV op1 p1 (.slice a1 n1 c1)) := by
  obtain ⟨ao, n, c, hv, hn, hc, h⟩ := h
  rcases h with ⟨h1, _⟩ | ⟨h1, h2, rfl, b, o, op1, p1, a1, n1, c1, rfl, hq, hx, hl'⟩ | ⟨h1, h2, _⟩
  · rw [hl] at h1; cases h1
  · exact ⟨b, o, c, op1, p1, a1, n1, c1, hv, hn, hc, hq, hx, hl'⟩
  · rw [hr] at h2; cases h2
theorem Ex.row_both {Q : Nat → Prop} {w : World} {x op : Nat} {p : Pay} {l r : Tr} {v : Value} (h : Ex Q w (.node x op p l r) v) (hl : noT l = false) (hr : noT r = false) : ∃ b o c op1 p1 a1 n1 c1 op2 p2 a2 n2 c2, v = exV op p (.slice (some ⟨b, o, none⟩) 2 c) ∧ 2 ≤ c ∧ c ≤ 9223372036854775807 ∧ Q b ∧ Ce w b o op1 p1 (.slice a1 n1 c1) ∧ Ce w b (o + 7) op2 p2 (.slice a2 n2 c2) ∧ Ex Q w l (exV op1 p1 (.slice a1 n1 c1)) ∧ Ex Q w r (exV op2 p2 (.slice a2 n2 c2)) := by
  obtain ⟨ao, n, c, hv, hn, hc, h⟩ := h
  rcases h with ⟨h1, _⟩ | ⟨h1, h2, _⟩ | ⟨h1, h2, rfl, b, o, op1, p1, a1, n1, c1, op2, p2, a2, n2, c2, rfl, hq, hx, hy, hl', hr'⟩
  · rw [hl] at h1; cases h1
  · rw [hr] at h2; cases h2
  · exact ⟨b, o, c, op1, p1, a1, n1, c1, op2, p2, a2, n2, c2, hv, hn, hc, hq, hx, hy, hl', hr'⟩

set_option maxRecDepth 100000 in
set_option maxHeartbeats 2000000 in
theorem between_any (w : World) : ∀ j : Nat, j < 11 → Calls Tryz.prog 83 #[.int .i64 ((j : Int) + 5)] w fun e w' => e = .returned (.string (opT j)) ∧ Below w.heap.size w w' := by
  intro j hj
  match j, hj with
  | 0, _ | 1, _ | 2, _ | 3, _ | 4, _ | 5, _ | 6, _ | 7, _ | 8, _ | 9, _ | 10, _ =>
    go_enter Tryz.func83, Tryz.ntmps83
    go_wp2
    go_ret
    exact ⟨rfl, Below.refl _ _⟩

theorem catN_len1 (t : ByteArray) : (catN [t]).length = t.size := by simp [catN, nums_len]
theorem catN_app (K L : List ByteArray) : catN K ++ catN L = catN (K ++ L) := by simp [catN]
theorem catN_len (K : List ByteArray) : (catN K).length = (K.map ByteArray.size).sum := by
  induction K with
  | nil => rfl
  | cons t K ih =>
    have e : catN (t :: K) = nums t ++ catN K := rfl
    rw [e, List.length_append, ih, nums_len]
    rfl
set_option maxRecDepth 100000 in
set_option maxHeartbeats 2000000 in
theorem wOfOne_any {g : Nat} {v : Sl} {s : Ws} {w : World} (h : Wt w g v s.1 s.2) (he : Ev g w) {l : Tr} (hl : PartOK l) (hw : WfS l) {b o c : Nat} {op1 : Int} {p1 : Pay} {a1 : Option Addr} {n1 c1 : Nat} (hb : b < g) (hc1 : 1 ≤ c) (hc : c ≤ 9223372036854775807) (hx : Ce w b o op1 p1 (.slice a1 n1 c1)) (hex : Ex (fun k => k < g) w l (exV op1 p1 (.slice a1 n1 c1))) (t : ByteArray) (hz : s.1.length + t.size + (shE l).size + 2 ≤ 800000) :
    Calls Tryz.prog 81 #[.pointer (some ⟨g, 0, none⟩), .string t, .slice (some ⟨b, o, none⟩) 1 c] w (TeS2 g v w (puS [⟨#[40]⟩, t, shE l, ⟨#[41]⟩] s)) := by
  have z1 : (catN [⟨#[40]⟩, t]).length = t.size + 1 := by rw [catN_len]; simp; exact Nat.add_comm 1 _
  have H : Hid _ := hid (put2 h ⟨#[40]⟩ t (by omega))
  have HB : Hid (∀ w', WUp g v w w' → Below g w w') := hid fun w' hu => hu.below (Nat.le_of_lt h.lt) fun b e => (h.blk b e).1
  clear h
  replace hx : Hid _ := hid hx
  go_enter Tryz.func81, Tryz.ntmps81
  go_wp2_with fail
  refine Calls.mono H.out ?_
  rintro e w1 ⟨v1, rfl, hW, hU, hK⟩
  have hbl := HB.out w1 hU
  obtain ⟨k0, k1, k2, k3, k4, k5, k6⟩ := hx.out.keep (hbl.block b hb)
  have H2 : Hid _ := hid (hl hw (s := puS [⟨#[40]⟩, t] s) hW (he.on hbl) (by show (s.1 ++ catN _).length + _ ≤ _; rw [List.length_append]; omega) _ (hex.keep fun k hk _ => hbl.block k hk))
  unfold exV at H2
  clear H hW hbl HB hx he hex
  go_wp2_with fail
  refine Calls.mono H2.out ?_
  rintro e w2 ⟨v2, rfl, hW2, hU2, hK2⟩
  have hU3 := hU.trans hU2 hK
  have hK3 := hK.trans hK2 hU.size
  clear H2 hU2 hK2 k0 k1 k2 k3 k4 k5 k6
  have H3 : Hid _ := hid (put1 hW2 ⟨#[41]⟩ (by
    show ((s.1 ++ catN _) ++ catN _).length + _ ≤ _
    rw [List.length_append, List.length_append, catN_len1, catN_len1, z1]
    have : (⟨#[41]⟩ : ByteArray).size = 1 := rfl
    omega))
  clear hW2
  go_wp2_with fail
  refine Calls.mono H3.out ?_
  rintro e w3 ⟨v3, rfl, hW3, hU4, hK4⟩
  have hU5 := hU3.trans hU4 hK3
  have hK5 := hK3.trans hK4 hU3.size
  have e1 : (puS [shE l] (puS [⟨#[40]⟩, t] s)).1 ++ catN [⟨#[41]⟩] = (puS [⟨#[40]⟩, t, shE l, ⟨#[41]⟩] s).1 := by
    show ((s.1 ++ catN _) ++ catN _) ++ catN _ = s.1 ++ catN _
    rw [List.append_assoc, List.append_assoc, catN_app, catN_app]
    rfl
  rw [e1] at hW3
  clear H3 hU4 hK4 hU3 hK3
  replace hW3 : Hid _ := hid hW3
  go_wp2
  exact bodyPost_end (results_none rfl _ _ _) rfl ⟨v3, rfl, hW3.out, hU5, hK5⟩

set_option maxRecDepth 100000 in
set_option maxHeartbeats 2000000 in
theorem wOfTwo_any {g : Nat} {v : Sl} {s : Ws} {w : World} (h : Wt w g v s.1 s.2) (he : Ev g w) {l r : Tr} (hl : PartOK l) (hr : PartOK r) (hwl : WfS l) (hwr : WfS r) {b o c : Nat} {op1 : Int} {p1 : Pay} {a1 : Option Addr} {n1 c1 : Nat} {op2 : Int} {p2 : Pay} {a2 : Option Addr} {n2 c2 : Nat} (hb : b < g) (hc1 : 2 ≤ c) (hc : c ≤ 9223372036854775807) (hx : Ce w b o op1 p1 (.slice a1 n1 c1)) (hy : Ce w b (o + 7) op2 p2 (.slice a2 n2 c2)) (hex : Ex (fun k => k < g) w l (exV op1 p1 (.slice a1 n1 c1))) (hey : Ex (fun k => k < g) w r (exV op2 p2 (.slice a2 n2 c2))) {t : ByteArray} (ht : 0 < t.size) (hz : s.1.length + t.size + (shE l).size + (shE r).size + 4 ≤ 800000) :
    Calls Tryz.prog 82 #[.pointer (some ⟨g, 0, none⟩), .string t, .slice (some ⟨b, o, none⟩) 2 c] w (TeS2 g v w (puS [⟨#[40]⟩, shE l, ⟨#[32]⟩, t, ⟨#[32]⟩, shE r, ⟨#[41]⟩] s)) := by
  have z1 : (catN [⟨#[40]⟩]).length = 1 := rfl
  have z2 : (catN [⟨#[32]⟩, t, ⟨#[32]⟩]).length = t.size + 2 := by rw [catN_len]; simp; show 1 + (t.size + 1) = _; omega
  have z3 : (catN [⟨#[41]⟩]).length = 1 := rfl
  have hi : t.toList.isEmpty = false := by
    cases hl : t.toList with
    | nil =>
      rw [ByteArray.toList_eq] at hl
      have : t.data.toList.length = 0 := by rw [hl]; rfl
      have e : t.size = t.data.toList.length := rfl
      omega
    | cons x l => rfl
  have H : Hid _ := hid (put1 h ⟨#[40]⟩ (by omega))
  have HB : Hid (∀ w', WUp g v w w' → Below g w w') := hid fun w' hu => hu.below (Nat.le_of_lt h.lt) fun b e => (h.blk b e).1
  clear h
  replace hx : Hid _ := hid hx
  replace hy : Hid _ := hid hy
  go_enter Tryz.func82, Tryz.ntmps82
  go_wp2_with fail
  refine Calls.mono H.out ?_
  rintro e w1 ⟨v1, rfl, hW, hU, hK⟩
  have hbl := HB.out w1 hU
  obtain ⟨k0, k1, k2, k3, k4, k5, k6⟩ := hx.out.keep (hbl.block b hb)
  have H2 : Hid _ := hid (hl hwl (s := puS [⟨#[40]⟩] s) hW (he.on hbl) (by show (s.1 ++ catN _).length + _ ≤ _; rw [List.length_append]; omega) _ (hex.keep fun k hk _ => hbl.block k hk))
  unfold exV at H2
  clear H hW hbl hx hex
  go_wp2_with fail
  refine Calls.mono H2.out ?_
  rintro e w2 ⟨v2, rfl, hW2, hU2, hK2⟩
  have hU3 := hU.trans hU2 hK
  have hK3 := hK.trans hK2 hU.size
  clear H2 hU2 hK2 k0 k1 k2 k3 k4 k5 k6 hU hK
  have H3 : Hid _ := hid (put3 hW2 ⟨#[32]⟩ t ⟨#[32]⟩ (by
    show ((s.1 ++ catN _) ++ catN _).length + _ ≤ _
    rw [List.length_append, List.length_append, catN_len1 (shE l), z1, z2]
    omega))
  clear hW2
  go_wp2_with fail
  refine Calls.mono H3.out ?_
  rintro e w3 ⟨v3, rfl, hW3, hU4, hK4⟩
  have hU5 := hU3.trans hU4 hK3
  have hK5 := hK3.trans hK4 hU3.size
  clear H3 hU3 hK3 hU4 hK4
  have hbl := HB.out w3 hU5
  obtain ⟨k0, k1, k2, k3, k4, k5, k6⟩ := hy.out.keep (hbl.block b hb)
  have H4 : Hid _ := hid (hr hwr (s := puS [⟨#[32]⟩, t, ⟨#[32]⟩] (puS [shE l] (puS [⟨#[40]⟩] s))) hW3 (he.on hbl) (by show (((s.1 ++ catN _) ++ catN _) ++ catN _).length + _ ≤ _; rw [List.length_append, List.length_append, List.length_append, catN_len1 (shE l), z1, z2]; omega) _ (hey.keep fun k hk _ => hbl.block k hk))
  unfold exV at H4
  clear hW3 hbl hy hey
  go_wp2_with fail
  refine Calls.mono H4.out ?_
  rintro e w4 ⟨v4, rfl, hW4, hU6, hK6⟩
  have hU7 := hU5.trans hU6 hK5
  have hK7 := hK5.trans hK6 hU5.size
  clear H4 hU6 hK6 k0 k1 k2 k3 k4 k5 k6 hU5 hK5
  have H5 : Hid _ := hid (put1 hW4 ⟨#[41]⟩ (by
    show ((((s.1 ++ catN _) ++ catN _) ++ catN _) ++ catN _).length + _ ≤ _
    rw [List.length_append, List.length_append, List.length_append, List.length_append, catN_len1 (shE l), catN_len1 (shE r), z1, z2, z3]
    omega))
  clear hW4
  go_wp2_with fail
  refine Calls.mono H5.out ?_
  rintro e w5 ⟨v5, rfl, hW5, hU8, hK8⟩
  have hU9 := hU7.trans hU8 hK7
  have hK9 := hK7.trans hK8 hU7.size
  have e1 : (puS [shE r] (puS [⟨#[32]⟩, t, ⟨#[32]⟩] (puS [shE l] (puS [⟨#[40]⟩] s)))).1 ++ catN [⟨#[41]⟩] = (puS [⟨#[40]⟩, shE l, ⟨#[32]⟩, t, ⟨#[32]⟩, shE r, ⟨#[41]⟩] s).1 := by
    show ((((s.1 ++ catN _) ++ catN _) ++ catN _) ++ catN _) ++ catN _ = s.1 ++ catN _
    rw [List.append_assoc, List.append_assoc, List.append_assoc, List.append_assoc, catN_app, catN_app, catN_app, catN_app]
    rfl
  rw [e1] at hW5
  clear H5 hU8 hK8 hU7 hK7
  replace hW5 : Hid _ := hid hW5
  go_wp2
  exact bodyPost_end (results_none rfl _ _ _) rfl ⟨v5, rfl, hW5.out, hU9, hK9⟩

end Go.Proofs.YtnboooaockgoiaaGreatDoor
namespace Go.Proofs.YtnboooaockgoiaaGreatDoor
open Go.RowKit
set_option linter.unusedVariables false
set_option linter.unusedSimpArgs false

theorem puS_eq {K L : List ByteArray} (h : catN K = catN L) (s : Ws) : puS K s = puS L s := by unfold puS; rw [h]
theorem TeW.up {g : Nat} {v : Sl} {w : World} {s : Ws} {o : Obj} {e : Ending} {w' : World} (h : TeS2 g v (w.alloc o) s e w') : TeS2 g v w s e w' := TeW.box h
set_option maxRecDepth 100000 in
set_option maxHeartbeats 2000000 in
theorem part_leaf {x op : Nat} {p : Pay} {l r : Tr} (ho : op = 1 ∨ op = 2) : PartOK (.node x op p l r) := by
  intro hw g v s w h he hz y hex
  obtain ⟨⟨hf, s1, s2, s3⟩, hw⟩ := hw
  obtain ⟨ao, n, c, rfl, hn, hc, _⟩ := hex
  obtain ⟨pk, pi, pt, pb, pn⟩ := p
  unfold exV
  simp only at hf s1 s2 s3 hw ⊢
  have hbx := bal (Below.refl _ w) (.cells #[.int .i64 (op : Int), .int .i64 pk, .int .i64 pi, .string pt, .string pb, .string pn, .slice ao n c] 43)
  have hW := h.later hbx
  rcases ho with rfl | rfl
  · have hk : (pk = 1 ∧ 0 ≤ pi) ∨ pk = 2 := by
      rcases hw with hw | hw | hw | hw
      · exact hw.2
      · omega
      · omega
      · omega
    have E : shE (.node x 1 (pk, pi, pt, pb, pn) l r) = vaB (pk, pi, pt, pb, pn) := by
      rw [shE, if_pos rfl]
      exact if_neg fun hh => by have h1 : pk = 1 := hh.1; have h2 : pi < 0 := hh.2; omega
    rw [E]
    have H : Hid _ := hid (wValue_any hW (he.on (hbx.mono (Nat.le_of_lt h.lt))) (k := pk) (i := pi) (t := pt) (hk.imp (fun hh => ⟨hh.1, hh.2, hf⟩) id) s1 pb pn (by omega))
    clear h hW he hk E hw hf s1 s2 s3 hbx
    go_enter Tryz.func45, Tryz.ntmps45
    go_wp2_with fail
    refine Calls.mono H.out ?_
    rintro e w1 ⟨v1, rfl, hW, hU, hK⟩
    clear H
    replace hW : Hid _ := hid hW
    go_wp2
    exact bodyPost_end (results_none rfl _ _ _) rfl (TeW.up ⟨v1, rfl, hW.out, hU, hK⟩)
  · have E : shE (.node x 2 (pk, pi, pt, pb, pn) l r) = coB pb pn := rfl
    rw [E]
    have hq : pb.size + pn.size ≤ 2000 := by omega
    have hs : s.1.length + (coB pb pn).size ≤ 800000 := by rw [← E]; exact hz
    have H : Hid _ := hid (wColumn_any hW pb pn (by omega))
    clear h hW he E hw hf s1 s2 s3 hbx
    go_enter Tryz.func45, Tryz.ntmps45
    go_wp2_with fail
    refine Calls.mono H.out ?_
    rintro e w1 ⟨v1, rfl, hW, hU, hK⟩
    clear H
    replace hW : Hid _ := hid hW
    go_wp2
    exact bodyPost_end (results_none rfl _ _ _) rfl (TeW.up ⟨v1, rfl, hW.out, hU, hK⟩)

set_option maxRecDepth 100000 in
set_option maxHeartbeats 2000000 in
theorem part_one {x op : Nat} {p : Pay} {l r : Tr} (ho : op = 3 ∨ op = 4) (hl : PartOK l) : PartOK (.node x op p l r) := by
  intro hw g v s w h he hz y hex
  have hww : WfS l ∧ noT r = true := by
    obtain ⟨_, h | h | h | h⟩ := hw
    · omega
    · omega
    · exact h.2
    · omega
  obtain ⟨b, o, c, op1, p1, a1, n1, c1, rfl, hc1, hc, hb, hx, hex⟩ := hex.row_first hww.1.no hww.2
  have hbx := bal (Below.refl _ w) (.cells #[.int .i64 (op : Int), .int .i64 p.1, .int .i64 p.2.1, .string p.2.2.1, .string p.2.2.2.1, .string p.2.2.2.2, .slice (some ⟨b, o, none⟩) 1 c] 43)
  have hW := h.later hbx
  have hlt := h.lt
  have he2 := he.on (hbx.mono (Nat.le_of_lt hlt))
  have hx2 := hx.keep (hbx.block b hx.lt)
  have hex2 := hex.keep fun k _ hk => hbx.block k hk
  unfold exV
  rcases ho with rfl | rfl
  · have E : shE (.node x 3 p l r) = (⟨#[40, 45]⟩ ++ shE l) ++ ⟨#[41]⟩ := rfl
    have hzl : s.1.length + (⟨#[45]⟩ : ByteArray).size + (shE l).size + 2 ≤ 800000 := by
      rw [E, ByteArray.size_append, ByteArray.size_append] at hz
      have e1 : (⟨#[40, 45]⟩ : ByteArray).size = 2 := rfl
      have e2 : (⟨#[41]⟩ : ByteArray).size = 1 := rfl
      have e3 : (⟨#[45]⟩ : ByteArray).size = 1 := rfl
      omega
    have hS : puS [shE (.node x 3 p l r)] s = puS [⟨#[40]⟩, ⟨#[45]⟩, shE l, ⟨#[41]⟩] s := puS_eq (by rw [E]; simp [catN, nums]) s
    rw [hS]
    have H : Hid _ := hid (wOfOne_any hW he2 hl hww.1 hb hc1 hc hx2 hex2 ⟨#[45]⟩ hzl)
    clear h hW he he2 hx hx2 hex hex2 E hS hbx hw hww hl
    go_enter Tryz.func45, Tryz.ntmps45
    go_wp2_with fail
    refine Calls.mono H.out ?_
    rintro e w1 ⟨v1, rfl, hW, hU, hK⟩
    clear H
    replace hW : Hid _ := hid hW
    go_wp2
    exact bodyPost_end (results_none rfl _ _ _) rfl (TeW.up ⟨v1, rfl, hW.out, hU, hK⟩)
  · have E : shE (.node x 4 p l r) = (⟨#[40, 110, 111, 116, 32]⟩ ++ shE l) ++ ⟨#[41]⟩ := rfl
    have hzl : s.1.length + (⟨#[110, 111, 116, 32]⟩ : ByteArray).size + (shE l).size + 2 ≤ 800000 := by
      rw [E, ByteArray.size_append, ByteArray.size_append] at hz
      have e1 : (⟨#[40, 110, 111, 116, 32]⟩ : ByteArray).size = 5 := rfl
      have e2 : (⟨#[41]⟩ : ByteArray).size = 1 := rfl
      have e3 : (⟨#[110, 111, 116, 32]⟩ : ByteArray).size = 4 := rfl
      omega
    have hS : puS [shE (.node x 4 p l r)] s = puS [⟨#[40]⟩, ⟨#[110, 111, 116, 32]⟩, shE l, ⟨#[41]⟩] s := puS_eq (by rw [E]; simp [catN, nums]) s
    rw [hS]
    have H : Hid _ := hid (wOfOne_any hW he2 hl hww.1 hb hc1 hc hx2 hex2 ⟨#[110, 111, 116, 32]⟩ hzl)
    clear h hW he he2 hx hx2 hex hex2 E hS hbx hw hww hl
    go_enter Tryz.func45, Tryz.ntmps45
    go_wp2_with fail
    refine Calls.mono H.out ?_
    rintro e w1 ⟨v1, rfl, hW, hU, hK⟩
    clear H
    replace hW : Hid _ := hid hW
    go_wp2
    exact bodyPost_end (results_none rfl _ _ _) rfl (TeW.up ⟨v1, rfl, hW.out, hU, hK⟩)

end Go.Proofs.YtnboooaockgoiaaGreatDoor
namespace Go.Proofs.YtnboooaockgoiaaGreatDoor
open Go.RowKit
set_option linter.unusedVariables false
set_option linter.unusedSimpArgs false

theorem opT_pos : ∀ j, 0 < (opT j).size
  | 0 | 1 | 2 | 3 | 4 | 5 | 6 | 7 | 8 | 9 => by decide
  | _ + 10 => (by decide : 0 < (⟨#[111, 114]⟩ : ByteArray).size)
set_option maxRecDepth 100000 in
set_option maxHeartbeats 4000000 in
theorem part_two {x op : Nat} {p : Pay} {l r : Tr} (h5 : 5 ≤ op) (h15 : op ≤ 15) (hl : PartOK l) (hr : PartOK r) : PartOK (.node x op p l r) := by
  intro hw g v s w h he hz y hex
  have hww : WfS l ∧ WfS r := by
    obtain ⟨_, h | h | h | h⟩ := hw
    · omega
    · omega
    · omega
    · exact h.2.2
  obtain ⟨j, rfl⟩ : ∃ j, op = j + 5 := ⟨op - 5, by omega⟩
  have hj : j < 11 := by omega
  obtain ⟨b, o, c, op1, p1, a1, n1, c1, op2, p2, a2, n2, c2, rfl, hc1, hc, hb, hx, hy, hex, hey⟩ := hex.row_both hww.1.no hww.2.no
  have E : shE (.node x (j + 5) p l r) = (((((⟨#[40]⟩ ++ shE l) ++ ⟨#[32]⟩) ++ opT j) ++ ⟨#[32]⟩) ++ shE r) ++ ⟨#[41]⟩ := by
    rw [shE, if_neg (by omega), if_neg (by omega), if_neg (by omega), if_neg (by omega), Nat.add_sub_cancel]
  have hzz : s.1.length + (opT j).size + (shE l).size + (shE r).size + 4 ≤ 800000 := by
    rw [E] at hz
    simp only [ByteArray.size_append] at hz
    have e1 : (⟨#[40]⟩ : ByteArray).size = 1 := rfl
    have e2 : (⟨#[32]⟩ : ByteArray).size = 1 := rfl
    have e3 : (⟨#[41]⟩ : ByteArray).size = 1 := rfl
    omega
  have hS : puS [shE (.node x (j + 5) p l r)] s = puS [⟨#[40]⟩, shE l, ⟨#[32]⟩, opT j, ⟨#[32]⟩, shE r, ⟨#[41]⟩] s := puS_eq (by rw [E]; simp [catN, nums]) s
  rw [hS]
  have e5 : ((j + 5 : Nat) : Int) = (j : Int) + 5 := by omega
  unfold exV
  rw [e5]
  have hbx := bal (Below.refl _ w) (.cells #[.int .i64 ((j : Int) + 5), .int .i64 p.1, .int .i64 p.2.1, .string p.2.2.1, .string p.2.2.2.1, .string p.2.2.2.2, .slice (some ⟨b, o, none⟩) 2 c] 43)
  have bB : Be (w.alloc (.cells #[.int .i64 ((j : Int) + 5), .int .i64 p.1, .int .i64 p.2.1, .string p.2.2.1, .string p.2.2.2.1, .string p.2.2.2.2, .slice (some ⟨b, o, none⟩) 2 c] 43)) w.heap.size ((j : Int) + 5) p (.slice (some ⟨b, o, none⟩) 2 c) := Be.new w _ p _
  have hlt := h.lt
  have HO : Hid (∀ w1, Below w.heap.size w w1 → _) := hid fun w1 hb1 => wOfTwo_any (h.later hb1) (he.on (hb1.mono (Nat.le_of_lt hlt))) hl hr hww.1 hww.2 hb hc1 hc (hx.keep (hb1.block b hx.lt)) (hy.keep (hb1.block b hx.lt)) (hex.keep fun k _ hk => hb1.block k hk) (hey.keep fun k _ hk => hb1.block k hk) (opT_pos j) hzz
  have HV : Hid (∀ q, (slV v).ownBlock = some q → q < w.heap.size) := hid fun q e => (h.blk q e).2
  generalize puS [⟨#[40]⟩, shE l, ⟨#[32]⟩, opT j, ⟨#[32]⟩, shE r, ⟨#[41]⟩] s = Z at *
  have HN : Hid (∀ w1 : World, Calls Tryz.prog 83 #[.int .i64 ((j : Int) + 5)] w1 fun e w' => e = .returned (.string (opT j)) ∧ Below w1.heap.size w1 w') := hid fun w1 => between_any w1 j hj
  have n1 : ((j : Int) + 5 == 1) = false := by simp; omega
  generalize opT j = So at *
  clear h he hx hy hex hey E hS hzz hz hw hww hl hr e5 h5 h15 hb
  go_enter Tryz.func45, Tryz.ntmps45
  go_upto_region 2 with fail
  generalize w.alloc (.cells #[.int .i64 ((j : Int) + 5), .int .i64 p.1, .int .i64 p.2.1, .string p.2.2.1, .string p.2.2.2.1, .string p.2.2.2.2, .slice (some ⟨b, o, none⟩) 2 c] 43) = W at *
  have hqW : w.heap.size < W.heap.size := bB.lt
  have HU : Hid (∀ w', WUp g v W w' → WUp g v w w') := hid fun w' hu => (WUp.of hbx).trans hu (WKp.refl _ _)
  have HS : Hid (∀ {v' : Sl} {n : Nat}, W.heap.size ≤ n → WKp v v' n → WKp v v' w.heap.size) := hid fun hn hk => (WKp.refl v w.heap.size).trans hk (by omega)
  have HO2 : Hid (∀ w1, Below W.heap.size W w1 → _) := hid fun w1 hb => HO.out w1 (Below.on hbx hb)
  clear HO hbx
  have HK : Hid (∀ w', WUp g v W w' → w'.cell? ⟨w.heap.size, 0, none⟩ = some (.int .i64 ((j : Int) + 5)) ∧ w'.cell? ⟨w.heap.size, 6, none⟩ = some (.slice (some ⟨b, o, none⟩) 2 c)) := hid fun w' hu => by
    have e := hu.block w.heap.size hqW (by omega) (fun e => by have := HV.out _ e.symm; omega)
    have k := bB.cells.keep e
    exact ⟨k.1, k.2.2.2.2.2.2⟩
  generalize hqa : w.heap.size = qa at *
  clear bB HV
  have hC : Below W.heap.size W W.drew := (Below.refl _ W).drew
  have hD : WUp g v W W.drew := WUp.of hC
  have hT : True := trivial
  go_region_held3 (fun w' => w'.cell? ⟨qa, 0, none⟩ = some (.int .i64 ((j : Int) + 5)) ∧ w'.cell? ⟨qa, 6, none⟩ = some (.slice (some ⟨b, o, none⟩) 2 c)) (exact HK.out _ hD)
    (first
    | (go_at_call 83; (with_reducible refine Calls.mono (HN.out _) ?_); rintro e z1 ⟨rfl, hb1⟩; replace hC := Below.on hC hb1; replace hD : WUp g v W _ := WUp.of hC; clear hb1)
    | (go_at_call 82; (with_reducible refine Calls.mono (HO2.out _ hC) ?_); rintro e z2 ⟨v2, rfl, hW2, hU2, hK2⟩; replace hD := hD.trans hU2 (WKp.refl _ _); replace hK2 := HS.out hC.size hK2; clear hU2; replace hW2 : Hid _ := hid hW2))
  all_goals
    go_wp2
    exact bodyPost_end (results_none rfl _ _ _) rfl ⟨v2, rfl, hW2.out, HU.out _ hD, by rw [hqa]; exact hK2⟩
theorem part_any (t : Tr) : PartOK t := by
  induction t with
  | nil => intro h; exact h.elim
  | node x op p l r ihl ihr =>
    intro hw
    obtain ⟨_, ⟨h, _⟩ | h | ⟨h, _⟩ | ⟨h5, h15, _⟩⟩ := id hw
    · exact part_leaf (.inl h) hw
    · exact part_leaf (.inr h) hw
    · exact part_one h ihl hw
    · exact part_two h5 h15 ihl ihr hw

end Go.Proofs.YtnboooaockgoiaaGreatDoor
namespace Go.Proofs.YtnboooaockgoiaaGreatDoor
open Go.RowKit
set_option linter.unusedVariables false
set_option linter.unusedSimpArgs false

set_option maxRecDepth 100000 in
theorem wExpr_any {t : Tr} (ht : WfS t) {g : Nat} {v : Sl} {s : Ws} {w : World} (h : Wt w g v s.1 s.2) (he : Ev g w) (hz : s.1.length + (shE t).size + 1 ≤ 800000) {o : Int} {p : Pay} {ao : Option Addr} {n c : Nat} (hx : Ex (fun k => k < g) w t (exV o p (.slice ao n c))) : Calls Tryz.prog 28 #[.pointer (some ⟨g, 0, none⟩), exV o p (.slice ao n c)] w (TeS2 g v w (woS (shE t) s)) := by
  have hl : (spS s).1.length ≤ s.1.length + 1 := by unfold spS; split <;> simp
  have hbx := bal (Below.refl _ w) (.cells #[.int .i64 o, .int .i64 p.1, .int .i64 p.2.1, .string p.2.2.1, .string p.2.2.2.1, .string p.2.2.2.2, .slice ao n c] 43)
  have bB : Be (w.alloc (.cells #[.int .i64 o, .int .i64 p.1, .int .i64 p.2.1, .string p.2.2.1, .string p.2.2.2.1, .string p.2.2.2.2, .slice ao n c] 43)) w.heap.size o p (.slice ao n c) := Be.new w _ p _
  have hlt := h.lt
  have H : Hid _ := hid (wSpace_any (h.later hbx) (by omega))
  have HB : Hid (∀ w', WUp g v w w' → Below g w w') := hid fun w' hu => hu.below (Nat.le_of_lt h.lt) fun b e => (h.blk b e).1
  have HV : Hid (∀ q, (slV v).ownBlock = some q → q < w.heap.size) := hid fun q e => (h.blk q e).2
  have HX : Hid _ := hid hx
  unfold exV at HX ⊢
  clear h hx
  have hqW : w.heap.size < (w.alloc (.cells #[.int .i64 o, .int .i64 p.1, .int .i64 p.2.1, .string p.2.2.1, .string p.2.2.2.1, .string p.2.2.2.2, .slice ao n c] 43)).heap.size := bB.lt
  have HK : Hid (∀ w', WUp g v (w.alloc (.cells #[.int .i64 o, .int .i64 p.1, .int .i64 p.2.1, .string p.2.2.1, .string p.2.2.2.1, .string p.2.2.2.2, .slice ao n c] 43)) w' → Ce w' w.heap.size 0 o p (.slice ao n c)) := hid fun w' hu => bB.cells.keep (hu.block w.heap.size hqW (by omega) (fun e => by have := HV.out _ e.symm; omega))
  go_enter Tryz.func28, Tryz.ntmps28
  go_wp2_with fail
  refine Calls.mono H.out ?_
  rintro e w1 ⟨v1, rfl, hW, hU, hK⟩
  obtain ⟨k0, k1, k2, k3, k4, k5, k6⟩ := HK.out w1 hU
  replace hU := hU.box
  replace hK := hK.box
  have hbl := HB.out w1 hU
  have H2 : Hid _ := hid (part_any t ht (s := spS s) hW (he.on hbl) (by omega) _ (HX.out.keep fun k hk _ => hbl.block k hk))
  clear H hW hbl HB HK bB hbx hqW HV
  go_wp2_with fail
  refine Calls.mono H2.out ?_
  rintro e w2 ⟨v2, rfl, hW2, hU2, hK2⟩
  have hU3 := hU.trans hU2 hK
  have hK3 := hK.trans hK2 hU.size
  clear H2 hU2 hK2
  replace hW2 : Hid _ := hid hW2
  go_wp2
  exact bodyPost_end (results_none rfl _ _ _) rfl ⟨v2, rfl, hW2.out, hU3, hK3⟩

/-- A list's state: a comma ahead of each but the first. -/
def liS {α : Type} (f : α → Ws → Ws) : List α → Ws → Ws
  | [], s => s
  | x :: L, s => L.foldl (fun s x => f x (puS [⟨#[44]⟩] s)) (f x s)
theorem liS_zero {α : Type} (f : α → Ws → Ws) {L : List α} (h : 0 < L.length) (s : Ws) : liS f (L.take 1) s = f L[0] s := by
  cases L with
  | nil => exact absurd h (Nat.lt_irrefl _)
  | cons x L => rfl
theorem liS_take {α : Type} (f : α → Ws → Ws) {L : List α} {k : Nat} (h0 : 0 < k) (h : k < L.length) (s : Ws) : liS f (L.take (k + 1)) s = f L[k] (puS [⟨#[44]⟩] (liS f (L.take k) s)) := by
  cases L with
  | nil => exact absurd h (Nat.not_lt_zero _)
  | cons x L =>
    obtain ⟨j, rfl⟩ : ∃ j, k = j + 1 := ⟨k - 1, by omega⟩
    have hj : j < L.length := by simpa using h
    show (L.take (j + 1)).foldl _ _ = _
    rw [List.take_succ_eq_append_getElem hj, List.foldl_append]
    rfl

end Go.Proofs.YtnboooaockgoiaaGreatDoor
namespace Go.Proofs.YtnboooaockgoiaaGreatDoor
open Go.RowKit
set_option linter.unusedVariables false
set_option linter.unusedSimpArgs false

theorem puS_mo (L : List ByteArray) (s : Ws) : s.1.length + (catN L).length = (puS L s).1.length := by simp [puS]
/-- Lists. -/
theorem fold_mo {α : Type} {f : α → Ws → Ws} (hf : ∀ x s, s.1.length ≤ (f x s).1.length) : ∀ (L : List α) (s : Ws), s.1.length ≤ (L.foldl (fun s x => f x (puS [⟨#[44]⟩] s)) s).1.length
  | [], s => Nat.le_refl _
  | x :: L, s => Nat.le_trans (Nat.le_trans (by rw [← puS_mo [⟨#[44]⟩] s]; omega) (hf x (puS [⟨#[44]⟩] s))) (fold_mo hf L _)
theorem liS_mo {α : Type} {f : α → Ws → Ws} (hf : ∀ x s, s.1.length ≤ (f x s).1.length) (L : List α) (s : Ws) : s.1.length ≤ (liS f L s).1.length := by
  cases L with
  | nil => exact Nat.le_refl _
  | cons x L => exact Nat.le_trans (hf x s) (fold_mo hf L _)
theorem liS_le {α : Type} {f : α → Ws → Ws} (hf : ∀ x s, s.1.length ≤ (f x s).1.length) (L : List α) (k : Nat) (s : Ws) : (liS f (L.take k) s).1.length ≤ (liS f L s).1.length := by
  cases L with
  | nil => rw [List.take_nil]; exact Nat.le_refl _
  | cons x L =>
    cases k with
    | zero => exact liS_mo hf _ _
    | succ k =>
      show ((L.take k).foldl (fun s x => f x (puS [⟨#[44]⟩] s)) (f x s)).1.length ≤ (L.foldl (fun s x => f x (puS [⟨#[44]⟩] s)) (f x s)).1.length
      have e : L.foldl (fun s x => f x (puS [⟨#[44]⟩] s)) (f x s) = (L.drop k).foldl (fun s x => f x (puS [⟨#[44]⟩] s)) ((L.take k).foldl (fun s x => f x (puS [⟨#[44]⟩] s)) (f x s)) := by rw [← List.foldl_append, List.take_append_drop]
      rw [e]
      exact fold_mo hf _ _

end Go.Proofs.YtnboooaockgoiaaGreatDoor
