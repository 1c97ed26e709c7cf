import Derived.Test.YtnboooaockgoiaaGreatDoorPae
import Derived.Deep.RegionHeld3
namespace Go.Proofs.YtnboooaockgoiaaGreatDoor
open Go.RowKit
set_option linter.unusedVariables false

theorem one1 (s : ByteArray) (z : Int) (S : Sa) : oneB [(s, z)] S = (if takeB s S = true then z else 0) ∧ oneS [(s, z)] S = takeS s S := by
  match S with
  | .inl x => exact ⟨rfl, rfl⟩
  | .inr ts => refine ⟨rfl, ?_⟩; simp [oneS, takeS]
theorem one2_1 {s s' : ByteArray} {z z' : Int} {S : Sa} (h : takeB s S = true) : oneB [(s, z), (s', z')] S = z ∧ oneS [(s, z), (s', z')] S = takeS s S := by
  match S with
  | .inl x => cases h
  | .inr ts =>
    have h' : isTk s ts = true := h
    refine ⟨?_, ?_⟩
    · show (if isTk s ts then z else _) = z
      rw [if_pos h']
    · simp [oneS, takeS, h']
theorem one2_2 {s s' : ByteArray} {z z' : Int} {S : Sa} (k : takeB s S = false) : oneB [(s, z), (s', z')] S = (if takeB s' S = true then z' else 0) ∧ oneS [(s, z), (s', z')] S = takeS s' S := by
  match S with
  | .inl x => exact ⟨rfl, rfl⟩
  | .inr ts =>
    have k' : isTk s ts = false := k
    refine ⟨?_, ?_⟩
    · show (if isTk s ts then z else _) = _
      rw [if_neg (by rw [k']; simp)]
      rfl
    · simp [oneS, takeS, k']
theorem takeS_less {s : ByteArray} {S : Sa} (h : takeB s S = true) : szS (takeS s S) < szS S := by
  obtain ⟨t, ts, rfl, -, h2⟩ := takeB_true h
  rw [h2]
  simp [szS]
/-- A function of the document's reader reads so. -/
def ReadF (N g d : Nat) (P : List Tk → Re Tr) : Prop := ∀ S w, Rf w g S d → Calls Tryz.prog N #[.pointer (some ⟨g, 0, none⟩)] w (TfE g d w (runP P S))

set_option maxRecDepth 100000 in
set_option maxHeartbeats 4000000 in
theorem fTerm_any {g d : Nat} {P : List Tk → Re Tr} (hc : ReadF 150 g d P) (hP : Shr P) : ReadF 141 g d (chainP P opsTerm) := by
  intro S w h
  have hgl := h.lt
  have b0 : Be (w.alloc zE) w.heap.size 0 nilP (.slice none 0 0) := Be.new w 0 nilP (.slice none 0 0)
  have H1 : Hid _ := hid (hc S _ (h.alloc zE))
  have HP : Hid (∀ S w, Rf w g S d → _) := hid hc
  have h0 : ∀ c ∈ opsTerm, 0 < c.2 := by decide
  generalize hR : runP (chainP P opsTerm) S = R at *
  have HR : Hid (∀ E : Tr → Prop, (∀ t r, runP P S = .inr (t, r) → E t) → ChR P opsTerm R (stO (runP P S)) E) := hid fun E k => hR ▸ ChR.start k
  clear h hc hR
  go_enter Tryz.func141, Tryz.ntmps141
  go_wp2_with fail
  refine Calls.mono H1.out ?_
  rintro e w1 ⟨o1, p1, a1, n1, c1, rfl, hb1, hr1, hx1⟩
  have hsz1 : w.heap.size + 1 ≤ w1.heap.size := by have := hb1.size; simp at this; omega
  have hB1 : But g w w1 := hb1.behind
  have z1 := b0.but hb1 (by omega)
  have x2 := Be.new w1 o1 p1 (.slice a1 n1 c1)
  have z2 := z1.later (bal (Below.refl _ w1) (.cells #[.int .i64 o1, .int .i64 p1.1, .int .i64 p1.2.1, .string p1.2.2.1, .string p1.2.2.2.1, .string p1.2.2.2.2, .slice a1 n1 c1] 43))
  have hr2 := hr1.alloc (.cells #[.int .i64 o1, .int .i64 p1.1, .int .i64 p1.2.1, .string p1.2.2.1, .string p1.2.2.2.1, .string p1.2.2.2.2, .slice a1 n1 c1] 43)
  have hB2 := hB1.alloc (.cells #[.int .i64 o1, .int .i64 p1.1, .int .i64 p1.2.1, .string p1.2.2.1, .string p1.2.2.2.1, .string p1.2.2.2.2, .slice a1 n1 c1] 43)
  have HE : Hid (ChR P opsTerm R (stO (runP P S)) fun t => Ex (fun b => w.heap.size + 1 ≤ b ∧ b ≠ w1.heap.size) (w1.alloc (.cells #[.int .i64 o1, .int .i64 p1.1, .int .i64 p1.2.1, .string p1.2.2.1, .string p1.2.2.2.1, .string p1.2.2.2.2, .slice a1 n1 c1] 43)) t (exV o1 p1 (.slice a1 n1 c1))) :=
    hid (HR.out _ fun t r e => ((hx1 t r e).mono fun k hk hk2 => ⟨by simpa using hk, by omega⟩).later (bal (Below.refl _ w1) _))
  have hq2 : w1.heap.size < (w1.alloc (.cells #[.int .i64 o1, .int .i64 p1.1, .int .i64 p1.2.1, .string p1.2.2.1, .string p1.2.2.2.1, .string p1.2.2.2.2, .slice a1 n1 c1] 43)).heap.size := by simp
  clear H1 HR hx1 hb1 hB1 z1 b0 hr1
  have hqle : w.heap.size ≤ w1.heap.size := by omega
  have hqlt : w.heap.size ≠ w1.heap.size := by omega
  generalize hq : w1.heap.size = q at *
  generalize stO (runP P S) = S1 at *
  unfold exV
  go_wp2
  go_loopw [] (fun wr => ∃ (S1 : Sa) (o : Int) (p : Pay) (ao : Option Addr) (m c : Nat), Rf wr g S1 d ∧ But g w wr ∧ q < wr.heap.size ∧ Be wr q o p (.slice ao m c) ∧ Be wr w.heap.size 0 nilP (.slice none 0 0) ∧ Hid (ChR P opsTerm R S1 fun t => Ex (fun b => w.heap.size + 1 ≤ b ∧ b ≠ q) wr t (exV o p (.slice ao m c)))) (fun wr => szF g wr)
  case atStart => exact ⟨S1, o1, p1, a1, n1, c1, hr2, hB2, hq2, x2, z2, HE⟩
  case round =>
    clear hr2 hB2 hq2 x2 z2 HE hq hsz1
    obtain ⟨S2, o, p, ao, m, c, hr, hB, hqw, hx, hz, HE⟩ := hrel
    have hm := hr.sz
    have HT := fTake_any hr ⟨#[42]⟩
    cases hb : takeB ⟨#[42]⟩ S2 with
    | false =>
      obtain ⟨e1, e2⟩ := HE.out.stop h0 (by rw [show opsTerm = [(⟨#[42]⟩, 7)] from rfl, (one1 _ _ _).1, if_neg (by rw [hb]; simp)])
      rw [show opsTerm = [(⟨#[42]⟩, 7)] from rfl, (one1 _ _ _).2, takeB_false hb] at e1
      rw [hb, takeB_false hb, ← e1] at HT
      replace HT : Hid _ := hid HT
      have E2 : Hid _ := hid e2
      clear hb e1 e2 HE hm hr
      go_wp2_with fail
      refine Calls.mono HT.out ?_
      rintro e w3 ⟨rfl, hr3, hb3⟩
      have hB3 := hB.trans hb3
      have x3 := hx.but hb3 (by omega)
      have z3 := hz.but hb3 (by omega)
      obtain ⟨m0, m1, m2, m3, m4, m5, m6⟩ := z3.cells
      obtain ⟨n0, n1, n2, n3, n4, n5, n6⟩ := z3.free
      obtain ⟨k0, k1, k2, k3, k4, k5, k6⟩ := x3.cells
      rw [Nat.zero_add] at k1 k2 k3 k4 k5 k6
      have E3 : Hid (∀ t r, R = .inr (t, r) → Ex (fun b => w.heap.size + 1 ≤ b) w3 t (exV o p (.slice ao m c))) := hid fun t r e => ((E2.out t r e).but hb3 (by omega)).mono fun k hk _ => hk.1
      clear HT E2 hb3 hB hx hz x3 z3
      go_wp2
      refine bodyPost_ret (v := exV o p (.slice ao m c)) (by simp [results, Tryz.results141, go_sem, exV, m0, m1, m2, m3, m4, m5, m6]) rfl (TfE.fin hgl hB3 hr3 E3.out)
    | true =>
      rw [hb] at HT
      replace HT : Hid _ := hid HT
      go_wp2_with fail
      refine Calls.mono HT.out ?_
      rintro e w3 ⟨rfl, hr3, hb3⟩
      have hop1 : oneB opsTerm S2 = 7 := (show oneB opsTerm S2 = 7 ∧ oneS opsTerm S2 = takeS ⟨#[42]⟩ S2 from ⟨(one1 _ _ _).1.trans (if_pos hb), (one1 _ _ _).2⟩).1
      have hop2 : oneS opsTerm S2 = takeS ⟨#[42]⟩ S2 := (show oneB opsTerm S2 = 7 ∧ oneS opsTerm S2 = takeS ⟨#[42]⟩ S2 from ⟨(one1 _ _ _).1.trans (if_pos hb), (one1 _ _ _).2⟩).2
      obtain ⟨hpos, t, hE, hle, hgo⟩ := HE.out.go hP h0 (by rw [hop1]; decide)
      rw [hop2] at hle hgo
      rw [hop1] at hgo
      have hless := takeS_less hb
      generalize takeS ⟨#[42]⟩ S2 = S3 at *
      have HT' : Hid _ := hid (hE.but hb3 (by omega))
      have HG : Hid _ := hid hgo
      have hB3 := hB.trans hb3
      have x3 := hx.but hb3 (by omega)
      have z3 := hz.but hb3 (by omega)
      have hq3 : q < w3.heap.size := x3.lt
      have HL : Hid (szS (stO (runP P S3)) < szS S2) := hid (Nat.lt_of_le_of_lt hle hless)
      have HC : Hid _ := hid (HP.out S3 w3.drew hr3.drew)
      have hxd : Be w3.drew q o p (.slice ao m c) := x3.keep rfl
      have hBd : But g w w3.drew := hB3.dr
      have hzd : Be w3.drew w.heap.size 0 nilP (.slice none 0 0) := z3.keep rfl
      have hqd : q < w3.drew.heap.size := hq3
      have hgd : w3.drew.heap.size = w3.heap.size := rfl
      obtain ⟨k0, k1, k2, k3, k4, k5, k6⟩ := x3.cells
      rw [Nat.zero_add] at k1 k2 k3 k4 k5 k6
      clear HT hE hgo hle hless HE hop1 hop2 hb hpos hB hx hz hr hr3
      go_upto_region 3 with fail
      go_region_with (first
          | (refine Calls.mono HC.out ?_; rintro e z1 ⟨o2, p2, a2, n2, c2, rfl, hb1, hr1, hx1⟩; have y1 := hxd.but hb1 (by omega); obtain ⟨j0, j1, j2, j3, j4, j5, j6⟩ := y1.cells; rw [Nat.zero_add] at j1 j2 j3 j4 j5 j6; unfold exV)
          | (refine Calls.mono (fTwo_any 7 o p (.slice ao m c) o2 p2 (.slice a2 n2 c2) z1) ?_; rintro e z2 ⟨bb, rfl, hbb, hb2, hc1, hc2⟩; have y2 := y1.later hb2; obtain ⟨i0, i1, i2, i3, i4, i5, i6⟩ := y2.cells; rw [Nat.zero_add] at i1 i2 i3 i4 i5 i6; obtain ⟨f0, f1, f2, f3, f4, f5, f6⟩ := y2.free; unfold exV))
      all_goals
        have hbt := hb1.later hb2
        have hB5 := (hBd.trans hbt).set7 (b := q) hqle 7 nilP (.slice (some ⟨bb, 0, none⟩) 2 2)
        have hr5 := (hr1.later hb2).set7 (b := q) (by omega) 7 nilP (.slice (some ⟨bb, 0, none⟩) 2 2)
        have x5 := y2.set 7 nilP (.slice (some ⟨bb, 0, none⟩) 2 2)
        have z5 : Be (set7 z2 q 7 nilP (.slice (some ⟨bb, 0, none⟩) 2 2)) w.heap.size 0 nilP (.slice none 0 0) := (hzd.but hbt (by omega)).keep (set7_heap _ _ _ _ _ (by omega))
        have hz1 := hb1.size
        have hqz : q < (set7 z2 q 7 nilP (.slice (some ⟨bb, 0, none⟩) 2 2)).heap.size := by rw [set7_size]; have := hbt.size; omega
        have HN : Hid _ := hid (HG.out (fun t => Ex (fun b => w.heap.size + 1 ≤ b ∧ b ≠ q) (set7 z2 q 7 nilP (.slice (some ⟨bb, 0, none⟩) 2 2)) t (exV 7 nilP (.slice (some ⟨bb, 0, none⟩) 2 2))) fun u r e => by
          have h1 : Ex (fun b => w.heap.size + 1 ≤ b ∧ b ≠ q) z2 t (exV o p (.slice ao m c)) := (Ex.keep (w := w3) (w' := w3.drew) (fun _ _ _ => rfl) HT'.out).but hbt (by omega)
          have h2 : Ex (fun b => w.heap.size + 1 ≤ b ∧ b ≠ q) z2 u (exV o2 p2 (.slice a2 n2 c2)) := ((hx1 u r e).mono fun k hk _ => ⟨by omega, by omega⟩).later hb2
          have h3 := Ex.two (op := 7) (Q := fun b => w.heap.size + 1 ≤ b ∧ b ≠ q) ⟨by omega, by omega⟩ hc1 hc2 h1 h2
          exact h3.set7 (by omega) _ _ _)
        have hm7 := hr5.sz
        clear HC HG HT' hb1 hr1 hx1 hb2 hc1 hc2 hbt y1 y2 hxd hzd hBd
        go_wp2
        go_roundw
        case rel => exact ⟨stO (runP P S3), 7, nilP, _, 2, 2, hr5, hB5, hqz, x5, z5, HN⟩
        case measure =>
          rw [hm]
          have e3 := HL.out
          first
          | (rw [hm7]; exact e3)
          | (show szF g (set7 z2 q 7 nilP (.slice (some ⟨bb, 0, none⟩) 2 2)) < _; rw [hm7]; exact e3)

set_option maxRecDepth 100000 in
set_option maxHeartbeats 4000000 in
theorem fSum_any {g d : Nat} {P : List Tk → Re Tr} (hc : ReadF 141 g d P) (hP : Shr P) : ReadF 129 g d (chainP P opsSum) := by
  intro S w h
  have hgl := h.lt
  have b0 : Be (w.alloc zE) w.heap.size 0 nilP (.slice none 0 0) := Be.new w 0 nilP (.slice none 0 0)
  have H1 : Hid _ := hid (hc S _ (h.alloc zE))
  have HP : Hid (∀ S w, Rf w g S d → _) := hid hc
  have h0 : ∀ c ∈ opsSum, 0 < c.2 := by decide
  generalize hR : runP (chainP P opsSum) S = R at *
  have HR : Hid (∀ E : Tr → Prop, (∀ t r, runP P S = .inr (t, r) → E t) → ChR P opsSum R (stO (runP P S)) E) := hid fun E k => hR ▸ ChR.start k
  clear h hc hR
  go_enter Tryz.func129, Tryz.ntmps129
  go_wp2_with fail
  refine Calls.mono H1.out ?_
  rintro e w1 ⟨o1, p1, a1, n1, c1, rfl, hb1, hr1, hx1⟩
  have hsz1 : w.heap.size + 1 ≤ w1.heap.size := by have := hb1.size; simp at this; omega
  have hB1 : But g w w1 := hb1.behind
  have z1 := b0.but hb1 (by omega)
  have x2 := Be.new w1 o1 p1 (.slice a1 n1 c1)
  have z2 := z1.later (bal (Below.refl _ w1) (.cells #[.int .i64 o1, .int .i64 p1.1, .int .i64 p1.2.1, .string p1.2.2.1, .string p1.2.2.2.1, .string p1.2.2.2.2, .slice a1 n1 c1] 43))
  have hr2 := hr1.alloc (.cells #[.int .i64 o1, .int .i64 p1.1, .int .i64 p1.2.1, .string p1.2.2.1, .string p1.2.2.2.1, .string p1.2.2.2.2, .slice a1 n1 c1] 43)
  have hB2 := hB1.alloc (.cells #[.int .i64 o1, .int .i64 p1.1, .int .i64 p1.2.1, .string p1.2.2.1, .string p1.2.2.2.1, .string p1.2.2.2.2, .slice a1 n1 c1] 43)
  have HE : Hid (ChR P opsSum R (stO (runP P S)) fun t => Ex (fun b => w.heap.size + 1 ≤ b ∧ b ≠ w1.heap.size) (w1.alloc (.cells #[.int .i64 o1, .int .i64 p1.1, .int .i64 p1.2.1, .string p1.2.2.1, .string p1.2.2.2.1, .string p1.2.2.2.2, .slice a1 n1 c1] 43)) t (exV o1 p1 (.slice a1 n1 c1))) :=
    hid (HR.out _ fun t r e => ((hx1 t r e).mono fun k hk hk2 => ⟨by simpa using hk, by omega⟩).later (bal (Below.refl _ w1) _))
  have hq2 : w1.heap.size < (w1.alloc (.cells #[.int .i64 o1, .int .i64 p1.1, .int .i64 p1.2.1, .string p1.2.2.1, .string p1.2.2.2.1, .string p1.2.2.2.2, .slice a1 n1 c1] 43)).heap.size := by simp
  clear H1 HR hx1 hb1 hB1 z1 b0 hr1
  have hqle : w.heap.size ≤ w1.heap.size := by omega
  have hqlt : w.heap.size ≠ w1.heap.size := by omega
  generalize hq : w1.heap.size = q at *
  generalize stO (runP P S) = S1 at *
  unfold exV
  go_wp2
  go_loopw [] (fun wr => ∃ (S1 : Sa) (o : Int) (p : Pay) (ao : Option Addr) (m c : Nat), Rf wr g S1 d ∧ But g w wr ∧ q < wr.heap.size ∧ Be wr q o p (.slice ao m c) ∧ Be wr w.heap.size 0 nilP (.slice none 0 0) ∧ Hid (ChR P opsSum R S1 fun t => Ex (fun b => w.heap.size + 1 ≤ b ∧ b ≠ q) wr t (exV o p (.slice ao m c)))) (fun wr => szF g wr)
  case atStart => exact ⟨S1, o1, p1, a1, n1, c1, hr2, hB2, hq2, x2, z2, HE⟩
  case round =>
    clear hr2 hB2 hq2 x2 z2 HE hq hsz1
    obtain ⟨S2, o, p, ao, m, c, hr, hB, hqw, hx, hz, HE⟩ := hrel
    have hm := hr.sz
    have HT := fTake_any hr ⟨#[43]⟩
    cases hb : takeB ⟨#[43]⟩ S2 with
    | true =>
      rw [hb] at HT
      replace HT : Hid _ := hid HT
      go_wp2_with fail
      refine Calls.mono HT.out ?_
      rintro e w3 ⟨rfl, hr3, hb3⟩
      have hop1 : oneB opsSum S2 = 5 := (show oneB opsSum S2 = 5 ∧ oneS opsSum S2 = takeS ⟨#[43]⟩ S2 from one2_1 hb).1
      have hop2 : oneS opsSum S2 = takeS ⟨#[43]⟩ S2 := (show oneB opsSum S2 = 5 ∧ oneS opsSum S2 = takeS ⟨#[43]⟩ S2 from one2_1 hb).2
      obtain ⟨hpos, t, hE, hle, hgo⟩ := HE.out.go hP h0 (by rw [hop1]; decide)
      rw [hop2] at hle hgo
      rw [hop1] at hgo
      have hless := takeS_less hb
      generalize takeS ⟨#[43]⟩ S2 = S3 at *
      have HT' : Hid _ := hid (hE.but hb3 (by omega))
      have HG : Hid _ := hid hgo
      have hB3 := hB.trans hb3
      have x3 := hx.but hb3 (by omega)
      have z3 := hz.but hb3 (by omega)
      have hq3 : q < w3.heap.size := x3.lt
      have HL : Hid (szS (stO (runP P S3)) < szS S2) := hid (Nat.lt_of_le_of_lt hle hless)
      have HC : Hid _ := hid (HP.out S3 w3.drew hr3.drew)
      have hxd : Be w3.drew q o p (.slice ao m c) := x3.keep rfl
      have hBd : But g w w3.drew := hB3.dr
      have hzd : Be w3.drew w.heap.size 0 nilP (.slice none 0 0) := z3.keep rfl
      have hqd : q < w3.drew.heap.size := hq3
      have hgd : w3.drew.heap.size = w3.heap.size := rfl
      obtain ⟨k0, k1, k2, k3, k4, k5, k6⟩ := x3.cells
      rw [Nat.zero_add] at k1 k2 k3 k4 k5 k6
      clear HT hE hgo hle hless HE hop1 hop2 hb hpos hB hx hz hr hr3
      go_upto_region 4 with fail
      go_region_with (first
          | (refine Calls.mono HC.out ?_; rintro e z1 ⟨o2, p2, a2, n2, c2, rfl, hb1, hr1, hx1⟩; have y1 := hxd.but hb1 (by omega); obtain ⟨j0, j1, j2, j3, j4, j5, j6⟩ := y1.cells; rw [Nat.zero_add] at j1 j2 j3 j4 j5 j6; unfold exV)
          | (refine Calls.mono (fTwo_any 5 o p (.slice ao m c) o2 p2 (.slice a2 n2 c2) z1) ?_; rintro e z2 ⟨bb, rfl, hbb, hb2, hc1, hc2⟩; have y2 := y1.later hb2; obtain ⟨i0, i1, i2, i3, i4, i5, i6⟩ := y2.cells; rw [Nat.zero_add] at i1 i2 i3 i4 i5 i6; obtain ⟨f0, f1, f2, f3, f4, f5, f6⟩ := y2.free; unfold exV))
      all_goals
        have hbt := hb1.later hb2
        have hB5 := (hBd.trans hbt).set7 (b := q) hqle 5 nilP (.slice (some ⟨bb, 0, none⟩) 2 2)
        have hr5 := (hr1.later hb2).set7 (b := q) (by omega) 5 nilP (.slice (some ⟨bb, 0, none⟩) 2 2)
        have x5 := y2.set 5 nilP (.slice (some ⟨bb, 0, none⟩) 2 2)
        have z5 : Be (set7 z2 q 5 nilP (.slice (some ⟨bb, 0, none⟩) 2 2)) w.heap.size 0 nilP (.slice none 0 0) := (hzd.but hbt (by omega)).keep (set7_heap _ _ _ _ _ (by omega))
        have hz1 := hb1.size
        have hqz : q < (set7 z2 q 5 nilP (.slice (some ⟨bb, 0, none⟩) 2 2)).heap.size := by rw [set7_size]; have := hbt.size; omega
        have HN : Hid _ := hid (HG.out (fun t => Ex (fun b => w.heap.size + 1 ≤ b ∧ b ≠ q) (set7 z2 q 5 nilP (.slice (some ⟨bb, 0, none⟩) 2 2)) t (exV 5 nilP (.slice (some ⟨bb, 0, none⟩) 2 2))) fun u r e => by
          have h1 : Ex (fun b => w.heap.size + 1 ≤ b ∧ b ≠ q) z2 t (exV o p (.slice ao m c)) := (Ex.keep (w := w3) (w' := w3.drew) (fun _ _ _ => rfl) HT'.out).but hbt (by omega)
          have h2 : Ex (fun b => w.heap.size + 1 ≤ b ∧ b ≠ q) z2 u (exV o2 p2 (.slice a2 n2 c2)) := ((hx1 u r e).mono fun k hk _ => ⟨by omega, by omega⟩).later hb2
          have h3 := Ex.two (op := 5) (Q := fun b => w.heap.size + 1 ≤ b ∧ b ≠ q) ⟨by omega, by omega⟩ hc1 hc2 h1 h2
          exact h3.set7 (by omega) _ _ _)
        have hm7 := hr5.sz
        clear HC HG HT' hb1 hr1 hx1 hb2 hc1 hc2 hbt y1 y2 hxd hzd hBd
        go_wp2
        go_roundw
        case rel => exact ⟨stO (runP P S3), 5, nilP, _, 2, 2, hr5, hB5, hqz, x5, z5, HN⟩
        case measure =>
          rw [hm]
          have e3 := HL.out
          first
          | (rw [hm7]; exact e3)
          | (show szF g (set7 z2 q 5 nilP (.slice (some ⟨bb, 0, none⟩) 2 2)) < _; rw [hm7]; exact e3)
    | false =>
      rw [hb, takeB_false hb] at HT
      replace HT : Hid _ := hid HT
      have hbn := hb
      clear hb
      go_wp2_with fail
      refine Calls.mono HT.out ?_
      rintro e w2 ⟨rfl, hr2, hb2⟩
      replace hB := hB.trans hb2
      replace hx := hx.but hb2 (by omega)
      replace hz := hz.but hb2 (by omega)
      replace HE : Hid (ChR P opsSum R S2 fun t => Ex (fun b => w.heap.size + 1 ≤ b ∧ b ≠ q) w2 t (exV o p (.slice ao m c))) := hid (HE.out.mono fun t ht => ht.but hb2 (by omega))
      clear HT hr hb2
      have hr := hr2
      clear hr2
      have HT := fTake_any hr ⟨#[45]⟩
      cases hb : takeB ⟨#[45]⟩ S2 with
      | false =>
        obtain ⟨e1, e2⟩ := HE.out.stop h0 (by rw [show opsSum = [(⟨#[43]⟩, 5), (⟨#[45]⟩, 6)] from rfl, (one2_2 hbn).1, if_neg (by rw [hb]; simp)])
        rw [show opsSum = [(⟨#[43]⟩, 5), (⟨#[45]⟩, 6)] from rfl, (one2_2 hbn).2, takeB_false hb] at e1
        rw [hb, takeB_false hb, ← e1] at HT
        replace HT : Hid _ := hid HT
        have E2 : Hid _ := hid e2
        clear hb e1 e2 HE hm hr hbn
        go_wp2_with fail
        refine Calls.mono HT.out ?_
        rintro e w3 ⟨rfl, hr3, hb3⟩
        have hB3 := hB.trans hb3
        have x3 := hx.but hb3 (by omega)
        have z3 := hz.but hb3 (by omega)
        obtain ⟨m0, m1, m2, m3, m4, m5, m6⟩ := z3.cells
        obtain ⟨n0, n1, n2, n3, n4, n5, n6⟩ := z3.free
        obtain ⟨k0, k1, k2, k3, k4, k5, k6⟩ := x3.cells
        rw [Nat.zero_add] at k1 k2 k3 k4 k5 k6
        have E3 : Hid (∀ t r, R = .inr (t, r) → Ex (fun b => w.heap.size + 1 ≤ b) w3 t (exV o p (.slice ao m c))) := hid fun t r e => ((E2.out t r e).but hb3 (by omega)).mono fun k hk _ => hk.1
        clear HT E2 hb3 hB hx hz x3 z3
        go_wp2
        refine bodyPost_ret (v := exV o p (.slice ao m c)) (by simp [results, Tryz.results129, go_sem, exV, m0, m1, m2, m3, m4, m5, m6]) rfl (TfE.fin hgl hB3 hr3 E3.out)
      | true =>
        rw [hb] at HT
        replace HT : Hid _ := hid HT
        go_wp2_with fail
        refine Calls.mono HT.out ?_
        rintro e w3 ⟨rfl, hr3, hb3⟩
        have hop1 : oneB opsSum S2 = 6 := (show oneB opsSum S2 = 6 ∧ oneS opsSum S2 = takeS ⟨#[45]⟩ S2 from ⟨(one2_2 hbn).1.trans (if_pos hb), (one2_2 hbn).2⟩).1
        have hop2 : oneS opsSum S2 = takeS ⟨#[45]⟩ S2 := (show oneB opsSum S2 = 6 ∧ oneS opsSum S2 = takeS ⟨#[45]⟩ S2 from ⟨(one2_2 hbn).1.trans (if_pos hb), (one2_2 hbn).2⟩).2
        obtain ⟨hpos, t, hE, hle, hgo⟩ := HE.out.go hP h0 (by rw [hop1]; decide)
        rw [hop2] at hle hgo
        rw [hop1] at hgo
        have hless := takeS_less hb
        generalize takeS ⟨#[45]⟩ S2 = S3 at *
        have HT' : Hid _ := hid (hE.but hb3 (by omega))
        have HG : Hid _ := hid hgo
        have hB3 := hB.trans hb3
        have x3 := hx.but hb3 (by omega)
        have z3 := hz.but hb3 (by omega)
        have hq3 : q < w3.heap.size := x3.lt
        have HL : Hid (szS (stO (runP P S3)) < szS S2) := hid (Nat.lt_of_le_of_lt hle hless)
        have HC : Hid _ := hid (HP.out S3 w3.drew hr3.drew)
        have hxd : Be w3.drew q o p (.slice ao m c) := x3.keep rfl
        have hBd : But g w w3.drew := hB3.dr
        have hzd : Be w3.drew w.heap.size 0 nilP (.slice none 0 0) := z3.keep rfl
        have hqd : q < w3.drew.heap.size := hq3
        have hgd : w3.drew.heap.size = w3.heap.size := rfl
        obtain ⟨k0, k1, k2, k3, k4, k5, k6⟩ := x3.cells
        rw [Nat.zero_add] at k1 k2 k3 k4 k5 k6
        clear HT hE hgo hle hless HE hop1 hop2 hb hpos hB hx hz hr hr3
        go_upto_region 6 with fail
        go_region_with (first
            | (refine Calls.mono HC.out ?_; rintro e z1 ⟨o2, p2, a2, n2, c2, rfl, hb1, hr1, hx1⟩; have y1 := hxd.but hb1 (by omega); obtain ⟨j0, j1, j2, j3, j4, j5, j6⟩ := y1.cells; rw [Nat.zero_add] at j1 j2 j3 j4 j5 j6; unfold exV)
            | (refine Calls.mono (fTwo_any 6 o p (.slice ao m c) o2 p2 (.slice a2 n2 c2) z1) ?_; rintro e z2 ⟨bb, rfl, hbb, hb2, hc1, hc2⟩; have y2 := y1.later hb2; obtain ⟨i0, i1, i2, i3, i4, i5, i6⟩ := y2.cells; rw [Nat.zero_add] at i1 i2 i3 i4 i5 i6; obtain ⟨f0, f1, f2, f3, f4, f5, f6⟩ := y2.free; unfold exV))
        all_goals
          have hbt := hb1.later hb2
          have hB5 := (hBd.trans hbt).set7 (b := q) hqle 6 nilP (.slice (some ⟨bb, 0, none⟩) 2 2)
          have hr5 := (hr1.later hb2).set7 (b := q) (by omega) 6 nilP (.slice (some ⟨bb, 0, none⟩) 2 2)
          have x5 := y2.set 6 nilP (.slice (some ⟨bb, 0, none⟩) 2 2)
          have z5 : Be (set7 z2 q 6 nilP (.slice (some ⟨bb, 0, none⟩) 2 2)) w.heap.size 0 nilP (.slice none 0 0) := (hzd.but hbt (by omega)).keep (set7_heap _ _ _ _ _ (by omega))
          have hz1 := hb1.size
          have hqz : q < (set7 z2 q 6 nilP (.slice (some ⟨bb, 0, none⟩) 2 2)).heap.size := by rw [set7_size]; have := hbt.size; omega
          have HN : Hid _ := hid (HG.out (fun t => Ex (fun b => w.heap.size + 1 ≤ b ∧ b ≠ q) (set7 z2 q 6 nilP (.slice (some ⟨bb, 0, none⟩) 2 2)) t (exV 6 nilP (.slice (some ⟨bb, 0, none⟩) 2 2))) fun u r e => by
            have h1 : Ex (fun b => w.heap.size + 1 ≤ b ∧ b ≠ q) z2 t (exV o p (.slice ao m c)) := (Ex.keep (w := w3) (w' := w3.drew) (fun _ _ _ => rfl) HT'.out).but hbt (by omega)
            have h2 : Ex (fun b => w.heap.size + 1 ≤ b ∧ b ≠ q) z2 u (exV o2 p2 (.slice a2 n2 c2)) := ((hx1 u r e).mono fun k hk _ => ⟨by omega, by omega⟩).later hb2
            have h3 := Ex.two (op := 6) (Q := fun b => w.heap.size + 1 ≤ b ∧ b ≠ q) ⟨by omega, by omega⟩ hc1 hc2 h1 h2
            exact h3.set7 (by omega) _ _ _)
          have hm7 := hr5.sz
          clear HC HG HT' hb1 hr1 hx1 hb2 hc1 hc2 hbt y1 y2 hxd hzd hBd
          go_wp2
          go_roundw
          case rel => exact ⟨stO (runP P S3), 6, nilP, _, 2, 2, hr5, hB5, hqz, x5, z5, HN⟩
          case measure =>
            rw [hm]
            have e3 := HL.out
            first
            | (rw [hm7]; exact e3)
            | (show szF g (set7 z2 q 6 nilP (.slice (some ⟨bb, 0, none⟩) 2 2)) < _; rw [hm7]; exact e3)

set_option maxRecDepth 100000 in
set_option maxHeartbeats 4000000 in
theorem fAnd_any {g d : Nat} {P : List Tk → Re Tr} (hc : ReadF 117 g d P) (hP : Shr P) : ReadF 113 g d (chainP P opsAnd) := by
  intro S w h
  have hgl := h.lt
  have b0 : Be (w.alloc zE) w.heap.size 0 nilP (.slice none 0 0) := Be.new w 0 nilP (.slice none 0 0)
  have H1 : Hid _ := hid (hc S _ (h.alloc zE))
  have HP : Hid (∀ S w, Rf w g S d → _) := hid hc
  have h0 : ∀ c ∈ opsAnd, 0 < c.2 := by decide
  generalize hR : runP (chainP P opsAnd) S = R at *
  have HR : Hid (∀ E : Tr → Prop, (∀ t r, runP P S = .inr (t, r) → E t) → ChR P opsAnd R (stO (runP P S)) E) := hid fun E k => hR ▸ ChR.start k
  clear h hc hR
  go_enter Tryz.func113, Tryz.ntmps113
  go_wp2_with fail
  refine Calls.mono H1.out ?_
  rintro e w1 ⟨o1, p1, a1, n1, c1, rfl, hb1, hr1, hx1⟩
  have hsz1 : w.heap.size + 1 ≤ w1.heap.size := by have := hb1.size; simp at this; omega
  have hB1 : But g w w1 := hb1.behind
  have z1 := b0.but hb1 (by omega)
  have x2 := Be.new w1 o1 p1 (.slice a1 n1 c1)
  have z2 := z1.later (bal (Below.refl _ w1) (.cells #[.int .i64 o1, .int .i64 p1.1, .int .i64 p1.2.1, .string p1.2.2.1, .string p1.2.2.2.1, .string p1.2.2.2.2, .slice a1 n1 c1] 43))
  have hr2 := hr1.alloc (.cells #[.int .i64 o1, .int .i64 p1.1, .int .i64 p1.2.1, .string p1.2.2.1, .string p1.2.2.2.1, .string p1.2.2.2.2, .slice a1 n1 c1] 43)
  have hB2 := hB1.alloc (.cells #[.int .i64 o1, .int .i64 p1.1, .int .i64 p1.2.1, .string p1.2.2.1, .string p1.2.2.2.1, .string p1.2.2.2.2, .slice a1 n1 c1] 43)
  have HE : Hid (ChR P opsAnd R (stO (runP P S)) fun t => Ex (fun b => w.heap.size + 1 ≤ b ∧ b ≠ w1.heap.size) (w1.alloc (.cells #[.int .i64 o1, .int .i64 p1.1, .int .i64 p1.2.1, .string p1.2.2.1, .string p1.2.2.2.1, .string p1.2.2.2.2, .slice a1 n1 c1] 43)) t (exV o1 p1 (.slice a1 n1 c1))) :=
    hid (HR.out _ fun t r e => ((hx1 t r e).mono fun k hk hk2 => ⟨by simpa using hk, by omega⟩).later (bal (Below.refl _ w1) _))
  have hq2 : w1.heap.size < (w1.alloc (.cells #[.int .i64 o1, .int .i64 p1.1, .int .i64 p1.2.1, .string p1.2.2.1, .string p1.2.2.2.1, .string p1.2.2.2.2, .slice a1 n1 c1] 43)).heap.size := by simp
  clear H1 HR hx1 hb1 hB1 z1 b0 hr1
  have hqle : w.heap.size ≤ w1.heap.size := by omega
  have hqlt : w.heap.size ≠ w1.heap.size := by omega
  generalize hq : w1.heap.size = q at *
  generalize stO (runP P S) = S1 at *
  unfold exV
  go_wp2
  go_loopw [] (fun wr => ∃ (S1 : Sa) (o : Int) (p : Pay) (ao : Option Addr) (m c : Nat), Rf wr g S1 d ∧ But g w wr ∧ q < wr.heap.size ∧ Be wr q o p (.slice ao m c) ∧ Be wr w.heap.size 0 nilP (.slice none 0 0) ∧ Hid (ChR P opsAnd R S1 fun t => Ex (fun b => w.heap.size + 1 ≤ b ∧ b ≠ q) wr t (exV o p (.slice ao m c)))) (fun wr => szF g wr)
  case atStart => exact ⟨S1, o1, p1, a1, n1, c1, hr2, hB2, hq2, x2, z2, HE⟩
  case round =>
    clear hr2 hB2 hq2 x2 z2 HE hq hsz1
    obtain ⟨S2, o, p, ao, m, c, hr, hB, hqw, hx, hz, HE⟩ := hrel
    have hm := hr.sz
    have HT := fTake_any hr ⟨#[97, 110, 100]⟩
    cases hb : takeB ⟨#[97, 110, 100]⟩ S2 with
    | false =>
      obtain ⟨e1, e2⟩ := HE.out.stop h0 (by rw [show opsAnd = [(⟨#[97, 110, 100]⟩, 14)] from rfl, (one1 _ _ _).1, if_neg (by rw [hb]; simp)])
      rw [show opsAnd = [(⟨#[97, 110, 100]⟩, 14)] from rfl, (one1 _ _ _).2, takeB_false hb] at e1
      rw [hb, takeB_false hb, ← e1] at HT
      replace HT : Hid _ := hid HT
      have E2 : Hid _ := hid e2
      clear hb e1 e2 HE hm hr
      go_wp2_with fail
      refine Calls.mono HT.out ?_
      rintro e w3 ⟨rfl, hr3, hb3⟩
      have hB3 := hB.trans hb3
      have x3 := hx.but hb3 (by omega)
      have z3 := hz.but hb3 (by omega)
      obtain ⟨m0, m1, m2, m3, m4, m5, m6⟩ := z3.cells
      obtain ⟨n0, n1, n2, n3, n4, n5, n6⟩ := z3.free
      obtain ⟨k0, k1, k2, k3, k4, k5, k6⟩ := x3.cells
      rw [Nat.zero_add] at k1 k2 k3 k4 k5 k6
      have E3 : Hid (∀ t r, R = .inr (t, r) → Ex (fun b => w.heap.size + 1 ≤ b) w3 t (exV o p (.slice ao m c))) := hid fun t r e => ((E2.out t r e).but hb3 (by omega)).mono fun k hk _ => hk.1
      clear HT E2 hb3 hB hx hz x3 z3
      go_wp2
      refine bodyPost_ret (v := exV o p (.slice ao m c)) (by simp [results, Tryz.results113, go_sem, exV, m0, m1, m2, m3, m4, m5, m6]) rfl (TfE.fin hgl hB3 hr3 E3.out)
    | true =>
      rw [hb] at HT
      replace HT : Hid _ := hid HT
      go_wp2_with fail
      refine Calls.mono HT.out ?_
      rintro e w3 ⟨rfl, hr3, hb3⟩
      have hop1 : oneB opsAnd S2 = 14 := (show oneB opsAnd S2 = 14 ∧ oneS opsAnd S2 = takeS ⟨#[97, 110, 100]⟩ S2 from ⟨(one1 _ _ _).1.trans (if_pos hb), (one1 _ _ _).2⟩).1
      have hop2 : oneS opsAnd S2 = takeS ⟨#[97, 110, 100]⟩ S2 := (show oneB opsAnd S2 = 14 ∧ oneS opsAnd S2 = takeS ⟨#[97, 110, 100]⟩ S2 from ⟨(one1 _ _ _).1.trans (if_pos hb), (one1 _ _ _).2⟩).2
      obtain ⟨hpos, t, hE, hle, hgo⟩ := HE.out.go hP h0 (by rw [hop1]; decide)
      rw [hop2] at hle hgo
      rw [hop1] at hgo
      have hless := takeS_less hb
      generalize takeS ⟨#[97, 110, 100]⟩ S2 = S3 at *
      have HT' : Hid _ := hid (hE.but hb3 (by omega))
      have HG : Hid _ := hid hgo
      have hB3 := hB.trans hb3
      have x3 := hx.but hb3 (by omega)
      have z3 := hz.but hb3 (by omega)
      have hq3 : q < w3.heap.size := x3.lt
      have HL : Hid (szS (stO (runP P S3)) < szS S2) := hid (Nat.lt_of_le_of_lt hle hless)
      have HC : Hid _ := hid (HP.out S3 w3.drew hr3.drew)
      have hxd : Be w3.drew q o p (.slice ao m c) := x3.keep rfl
      have hBd : But g w w3.drew := hB3.dr
      have hzd : Be w3.drew w.heap.size 0 nilP (.slice none 0 0) := z3.keep rfl
      have hqd : q < w3.drew.heap.size := hq3
      have hgd : w3.drew.heap.size = w3.heap.size := rfl
      obtain ⟨k0, k1, k2, k3, k4, k5, k6⟩ := x3.cells
      rw [Nat.zero_add] at k1 k2 k3 k4 k5 k6
      clear HT hE hgo hle hless HE hop1 hop2 hb hpos hB hx hz hr hr3
      go_upto_region 3 with fail
      go_region_with (first
          | (refine Calls.mono HC.out ?_; rintro e z1 ⟨o2, p2, a2, n2, c2, rfl, hb1, hr1, hx1⟩; have y1 := hxd.but hb1 (by omega); obtain ⟨j0, j1, j2, j3, j4, j5, j6⟩ := y1.cells; rw [Nat.zero_add] at j1 j2 j3 j4 j5 j6; unfold exV)
          | (refine Calls.mono (fTwo_any 14 o p (.slice ao m c) o2 p2 (.slice a2 n2 c2) z1) ?_; rintro e z2 ⟨bb, rfl, hbb, hb2, hc1, hc2⟩; have y2 := y1.later hb2; obtain ⟨i0, i1, i2, i3, i4, i5, i6⟩ := y2.cells; rw [Nat.zero_add] at i1 i2 i3 i4 i5 i6; obtain ⟨f0, f1, f2, f3, f4, f5, f6⟩ := y2.free; unfold exV))
      all_goals
        have hbt := hb1.later hb2
        have hB5 := (hBd.trans hbt).set7 (b := q) hqle 14 nilP (.slice (some ⟨bb, 0, none⟩) 2 2)
        have hr5 := (hr1.later hb2).set7 (b := q) (by omega) 14 nilP (.slice (some ⟨bb, 0, none⟩) 2 2)
        have x5 := y2.set 14 nilP (.slice (some ⟨bb, 0, none⟩) 2 2)
        have z5 : Be (set7 z2 q 14 nilP (.slice (some ⟨bb, 0, none⟩) 2 2)) w.heap.size 0 nilP (.slice none 0 0) := (hzd.but hbt (by omega)).keep (set7_heap _ _ _ _ _ (by omega))
        have hz1 := hb1.size
        have hqz : q < (set7 z2 q 14 nilP (.slice (some ⟨bb, 0, none⟩) 2 2)).heap.size := by rw [set7_size]; have := hbt.size; omega
        have HN : Hid _ := hid (HG.out (fun t => Ex (fun b => w.heap.size + 1 ≤ b ∧ b ≠ q) (set7 z2 q 14 nilP (.slice (some ⟨bb, 0, none⟩) 2 2)) t (exV 14 nilP (.slice (some ⟨bb, 0, none⟩) 2 2))) fun u r e => by
          have h1 : Ex (fun b => w.heap.size + 1 ≤ b ∧ b ≠ q) z2 t (exV o p (.slice ao m c)) := (Ex.keep (w := w3) (w' := w3.drew) (fun _ _ _ => rfl) HT'.out).but hbt (by omega)
          have h2 : Ex (fun b => w.heap.size + 1 ≤ b ∧ b ≠ q) z2 u (exV o2 p2 (.slice a2 n2 c2)) := ((hx1 u r e).mono fun k hk _ => ⟨by omega, by omega⟩).later hb2
          have h3 := Ex.two (op := 14) (Q := fun b => w.heap.size + 1 ≤ b ∧ b ≠ q) ⟨by omega, by omega⟩ hc1 hc2 h1 h2
          exact h3.set7 (by omega) _ _ _)
        have hm7 := hr5.sz
        clear HC HG HT' hb1 hr1 hx1 hb2 hc1 hc2 hbt y1 y2 hxd hzd hBd
        go_wp2
        go_roundw
        case rel => exact ⟨stO (runP P S3), 14, nilP, _, 2, 2, hr5, hB5, hqz, x5, z5, HN⟩
        case measure =>
          rw [hm]
          have e3 := HL.out
          first
          | (rw [hm7]; exact e3)
          | (show szF g (set7 z2 q 14 nilP (.slice (some ⟨bb, 0, none⟩) 2 2)) < _; rw [hm7]; exact e3)

set_option maxRecDepth 100000 in
set_option maxHeartbeats 4000000 in
theorem fExpr_any {g d : Nat} {P : List Tk → Re Tr} (hc : ReadF 113 g d P) (hP : Shr P) : ReadF 108 g d (chainP P opsOr) := by
  intro S w h
  have hgl := h.lt
  have b0 : Be (w.alloc zE) w.heap.size 0 nilP (.slice none 0 0) := Be.new w 0 nilP (.slice none 0 0)
  have H1 : Hid _ := hid (hc S _ (h.alloc zE))
  have HP : Hid (∀ S w, Rf w g S d → _) := hid hc
  have h0 : ∀ c ∈ opsOr, 0 < c.2 := by decide
  generalize hR : runP (chainP P opsOr) S = R at *
  have HR : Hid (∀ E : Tr → Prop, (∀ t r, runP P S = .inr (t, r) → E t) → ChR P opsOr R (stO (runP P S)) E) := hid fun E k => hR ▸ ChR.start k
  clear h hc hR
  go_enter Tryz.func108, Tryz.ntmps108
  go_wp2_with fail
  refine Calls.mono H1.out ?_
  rintro e w1 ⟨o1, p1, a1, n1, c1, rfl, hb1, hr1, hx1⟩
  have hsz1 : w.heap.size + 1 ≤ w1.heap.size := by have := hb1.size; simp at this; omega
  have hB1 : But g w w1 := hb1.behind
  have z1 := b0.but hb1 (by omega)
  have x2 := Be.new w1 o1 p1 (.slice a1 n1 c1)
  have z2 := z1.later (bal (Below.refl _ w1) (.cells #[.int .i64 o1, .int .i64 p1.1, .int .i64 p1.2.1, .string p1.2.2.1, .string p1.2.2.2.1, .string p1.2.2.2.2, .slice a1 n1 c1] 43))
  have hr2 := hr1.alloc (.cells #[.int .i64 o1, .int .i64 p1.1, .int .i64 p1.2.1, .string p1.2.2.1, .string p1.2.2.2.1, .string p1.2.2.2.2, .slice a1 n1 c1] 43)
  have hB2 := hB1.alloc (.cells #[.int .i64 o1, .int .i64 p1.1, .int .i64 p1.2.1, .string p1.2.2.1, .string p1.2.2.2.1, .string p1.2.2.2.2, .slice a1 n1 c1] 43)
  have HE : Hid (ChR P opsOr R (stO (runP P S)) fun t => Ex (fun b => w.heap.size + 1 ≤ b ∧ b ≠ w1.heap.size) (w1.alloc (.cells #[.int .i64 o1, .int .i64 p1.1, .int .i64 p1.2.1, .string p1.2.2.1, .string p1.2.2.2.1, .string p1.2.2.2.2, .slice a1 n1 c1] 43)) t (exV o1 p1 (.slice a1 n1 c1))) :=
    hid (HR.out _ fun t r e => ((hx1 t r e).mono fun k hk hk2 => ⟨by simpa using hk, by omega⟩).later (bal (Below.refl _ w1) _))
  have hq2 : w1.heap.size < (w1.alloc (.cells #[.int .i64 o1, .int .i64 p1.1, .int .i64 p1.2.1, .string p1.2.2.1, .string p1.2.2.2.1, .string p1.2.2.2.2, .slice a1 n1 c1] 43)).heap.size := by simp
  clear H1 HR hx1 hb1 hB1 z1 b0 hr1
  have hqle : w.heap.size ≤ w1.heap.size := by omega
  have hqlt : w.heap.size ≠ w1.heap.size := by omega
  generalize hq : w1.heap.size = q at *
  generalize stO (runP P S) = S1 at *
  unfold exV
  go_wp2
  go_loopw [] (fun wr => ∃ (S1 : Sa) (o : Int) (p : Pay) (ao : Option Addr) (m c : Nat), Rf wr g S1 d ∧ But g w wr ∧ q < wr.heap.size ∧ Be wr q o p (.slice ao m c) ∧ Be wr w.heap.size 0 nilP (.slice none 0 0) ∧ Hid (ChR P opsOr R S1 fun t => Ex (fun b => w.heap.size + 1 ≤ b ∧ b ≠ q) wr t (exV o p (.slice ao m c)))) (fun wr => szF g wr)
  case atStart => exact ⟨S1, o1, p1, a1, n1, c1, hr2, hB2, hq2, x2, z2, HE⟩
  case round =>
    clear hr2 hB2 hq2 x2 z2 HE hq hsz1
    obtain ⟨S2, o, p, ao, m, c, hr, hB, hqw, hx, hz, HE⟩ := hrel
    have hm := hr.sz
    have HT := fTake_any hr ⟨#[111, 114]⟩
    cases hb : takeB ⟨#[111, 114]⟩ S2 with
    | false =>
      obtain ⟨e1, e2⟩ := HE.out.stop h0 (by rw [show opsOr = [(⟨#[111, 114]⟩, 15)] from rfl, (one1 _ _ _).1, if_neg (by rw [hb]; simp)])
      rw [show opsOr = [(⟨#[111, 114]⟩, 15)] from rfl, (one1 _ _ _).2, takeB_false hb] at e1
      rw [hb, takeB_false hb, ← e1] at HT
      replace HT : Hid _ := hid HT
      have E2 : Hid _ := hid e2
      clear hb e1 e2 HE hm hr
      go_wp2_with fail
      refine Calls.mono HT.out ?_
      rintro e w3 ⟨rfl, hr3, hb3⟩
      have hB3 := hB.trans hb3
      have x3 := hx.but hb3 (by omega)
      have z3 := hz.but hb3 (by omega)
      obtain ⟨m0, m1, m2, m3, m4, m5, m6⟩ := z3.cells
      obtain ⟨n0, n1, n2, n3, n4, n5, n6⟩ := z3.free
      obtain ⟨k0, k1, k2, k3, k4, k5, k6⟩ := x3.cells
      rw [Nat.zero_add] at k1 k2 k3 k4 k5 k6
      have E3 : Hid (∀ t r, R = .inr (t, r) → Ex (fun b => w.heap.size + 1 ≤ b) w3 t (exV o p (.slice ao m c))) := hid fun t r e => ((E2.out t r e).but hb3 (by omega)).mono fun k hk _ => hk.1
      clear HT E2 hb3 hB hx hz x3 z3
      go_wp2
      refine bodyPost_ret (v := exV o p (.slice ao m c)) (by simp [results, Tryz.results108, go_sem, exV, m0, m1, m2, m3, m4, m5, m6]) rfl (TfE.fin hgl hB3 hr3 E3.out)
    | true =>
      rw [hb] at HT
      replace HT : Hid _ := hid HT
      go_wp2_with fail
      refine Calls.mono HT.out ?_
      rintro e w3 ⟨rfl, hr3, hb3⟩
      have hop1 : oneB opsOr S2 = 15 := (show oneB opsOr S2 = 15 ∧ oneS opsOr S2 = takeS ⟨#[111, 114]⟩ S2 from ⟨(one1 _ _ _).1.trans (if_pos hb), (one1 _ _ _).2⟩).1
      have hop2 : oneS opsOr S2 = takeS ⟨#[111, 114]⟩ S2 := (show oneB opsOr S2 = 15 ∧ oneS opsOr S2 = takeS ⟨#[111, 114]⟩ S2 from ⟨(one1 _ _ _).1.trans (if_pos hb), (one1 _ _ _).2⟩).2
      obtain ⟨hpos, t, hE, hle, hgo⟩ := HE.out.go hP h0 (by rw [hop1]; decide)
      rw [hop2] at hle hgo
      rw [hop1] at hgo
      have hless := takeS_less hb
      generalize takeS ⟨#[111, 114]⟩ S2 = S3 at *
      have HT' : Hid _ := hid (hE.but hb3 (by omega))
      have HG : Hid _ := hid hgo
      have hB3 := hB.trans hb3
      have x3 := hx.but hb3 (by omega)
      have z3 := hz.but hb3 (by omega)
      have hq3 : q < w3.heap.size := x3.lt
      have HL : Hid (szS (stO (runP P S3)) < szS S2) := hid (Nat.lt_of_le_of_lt hle hless)
      have HC : Hid _ := hid (HP.out S3 w3.drew hr3.drew)
      have hxd : Be w3.drew q o p (.slice ao m c) := x3.keep rfl
      have hBd : But g w w3.drew := hB3.dr
      have hzd : Be w3.drew w.heap.size 0 nilP (.slice none 0 0) := z3.keep rfl
      have hqd : q < w3.drew.heap.size := hq3
      have hgd : w3.drew.heap.size = w3.heap.size := rfl
      obtain ⟨k0, k1, k2, k3, k4, k5, k6⟩ := x3.cells
      rw [Nat.zero_add] at k1 k2 k3 k4 k5 k6
      clear HT hE hgo hle hless HE hop1 hop2 hb hpos hB hx hz hr hr3
      go_upto_region 3 with fail
      go_region_with (first
          | (refine Calls.mono HC.out ?_; rintro e z1 ⟨o2, p2, a2, n2, c2, rfl, hb1, hr1, hx1⟩; have y1 := hxd.but hb1 (by omega); obtain ⟨j0, j1, j2, j3, j4, j5, j6⟩ := y1.cells; rw [Nat.zero_add] at j1 j2 j3 j4 j5 j6; unfold exV)
          | (refine Calls.mono (fTwo_any 15 o p (.slice ao m c) o2 p2 (.slice a2 n2 c2) z1) ?_; rintro e z2 ⟨bb, rfl, hbb, hb2, hc1, hc2⟩; have y2 := y1.later hb2; obtain ⟨i0, i1, i2, i3, i4, i5, i6⟩ := y2.cells; rw [Nat.zero_add] at i1 i2 i3 i4 i5 i6; obtain ⟨f0, f1, f2, f3, f4, f5, f6⟩ := y2.free; unfold exV))
      all_goals
        have hbt := hb1.later hb2
        have hB5 := (hBd.trans hbt).set7 (b := q) hqle 15 nilP (.slice (some ⟨bb, 0, none⟩) 2 2)
        have hr5 := (hr1.later hb2).set7 (b := q) (by omega) 15 nilP (.slice (some ⟨bb, 0, none⟩) 2 2)
        have x5 := y2.set 15 nilP (.slice (some ⟨bb, 0, none⟩) 2 2)
        have z5 : Be (set7 z2 q 15 nilP (.slice (some ⟨bb, 0, none⟩) 2 2)) w.heap.size 0 nilP (.slice none 0 0) := (hzd.but hbt (by omega)).keep (set7_heap _ _ _ _ _ (by omega))
        have hz1 := hb1.size
        have hqz : q < (set7 z2 q 15 nilP (.slice (some ⟨bb, 0, none⟩) 2 2)).heap.size := by rw [set7_size]; have := hbt.size; omega
        have HN : Hid _ := hid (HG.out (fun t => Ex (fun b => w.heap.size + 1 ≤ b ∧ b ≠ q) (set7 z2 q 15 nilP (.slice (some ⟨bb, 0, none⟩) 2 2)) t (exV 15 nilP (.slice (some ⟨bb, 0, none⟩) 2 2))) fun u r e => by
          have h1 : Ex (fun b => w.heap.size + 1 ≤ b ∧ b ≠ q) z2 t (exV o p (.slice ao m c)) := (Ex.keep (w := w3) (w' := w3.drew) (fun _ _ _ => rfl) HT'.out).but hbt (by omega)
          have h2 : Ex (fun b => w.heap.size + 1 ≤ b ∧ b ≠ q) z2 u (exV o2 p2 (.slice a2 n2 c2)) := ((hx1 u r e).mono fun k hk _ => ⟨by omega, by omega⟩).later hb2
          have h3 := Ex.two (op := 15) (Q := fun b => w.heap.size + 1 ≤ b ∧ b ≠ q) ⟨by omega, by omega⟩ hc1 hc2 h1 h2
          exact h3.set7 (by omega) _ _ _)
        have hm7 := hr5.sz
        clear HC HG HT' hb1 hr1 hx1 hb2 hc1 hc2 hbt y1 y2 hxd hzd hBd
        go_wp2
        go_roundw
        case rel => exact ⟨stO (runP P S3), 15, nilP, _, 2, 2, hr5, hB5, hqz, x5, z5, HN⟩
        case measure =>
          rw [hm]
          have e3 := HL.out
          first
          | (rw [hm7]; exact e3)
          | (show szF g (set7 z2 q 15 nilP (.slice (some ⟨bb, 0, none⟩) 2 2)) < _; rw [hm7]; exact e3)

end Go.Proofs.YtnboooaockgoiaaGreatDoor
