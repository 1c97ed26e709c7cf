import Derived.Test.YtnboooaockgoiaaGreatDoorPah
import Derived.Test.YtnboooaockgoiaaGreatDoorPai
import Derived.Deep.RegionLaw
namespace Go.Proofs.YtnboooaockgoiaaGreatDoor
open Go.RowKit
set_option linter.unusedVariables false

def TfCol (g : Nat) (w : World) (R : Re Co) (e : Ending) (w' : World) : Prop := ∃ a k f, e = .returned (.agg #[.string a, .int .i64 k, .string f]) ∧ But g w w' ∧ Rf w' g (stO R) 0 ∧ ∀ t r, R = .inr (t, r) → (a, k, f) = t
def TfItem (g : Nat) (w : World) (R : Re It) (e : Ending) (w' : World) : Prop := ∃ k a f, e = .returned (.agg #[.int .i64 k, .string a, .string f]) ∧ But g w w' ∧ Rf w' g (stO R) 0 ∧ ∀ t r, R = .inr (t, r) → (k, a, f) = t
/-- What a call that reads a list tells. -/
def TfL {α : Type} (e : Ek α) (g : Nat) (w : World) (R : Re (List α)) (en : Ending) (w' : World) : Prop :=
  ∃ ao n c, en = .returned (.slice ao n c) ∧ But g w w' ∧ Rf w' g (stO R) 0 ∧ ∀ l r, R = .inr (l, r) → RowIs e (fun b => w.heap.size ≤ b) w' (.slice ao n c) l
theorem Rf.set3 {w : World} {g : Nat} {S : Sa} {d : Nat} (h : Rf w g S d) {b : Nat} (hb : g < b) (x y z : Value) : Rf (set3 w b x y z) g S d := ((h.other hb 0 _).other hb 1 _).other hb 2 _
theorem TfCol.fin {g : Nat} {w w1 : World} {R : Re Co} {a f : ByteArray} {k : Int} (hg : g < w.heap.size) (hB : But g w w1) (hr : Rf w1 g (stO R) 0) (hx : ∀ t r, R = .inr (t, r) → (a, k, f) = t) :
    TfCol g w R (.returned (.agg #[.string a, .int .i64 k, .string f])) (set3 w1 w.heap.size (.string a) (.int .i64 k) (.string f)) :=
  ⟨a, k, f, rfl, hB.set3 (Nat.le_refl _) _ _ _, hr.set3 hg _ _ _, hx⟩
theorem TfItem.fin {g : Nat} {w w1 : World} {R : Re It} {a f : ByteArray} {k : Int} (hg : g < w.heap.size) (hB : But g w w1) (hr : Rf w1 g (stO R) 0) (hx : ∀ t r, R = .inr (t, r) → (k, a, f) = t) :
    TfItem g w R (.returned (.agg #[.int .i64 k, .string a, .string f])) (set3 w1 w.heap.size (.int .i64 k) (.string a) (.string f)) :=
  ⟨k, a, f, rfl, hB.set3 (Nat.le_refl _) _ _ _, hr.set3 hg _ _ _, hx⟩

set_option maxRecDepth 100000 in
set_option maxHeartbeats 1000000 in
theorem fWhere_any {g : Nat} {S : Sa} {w : World} (h : Rf w g S 0) :
    Calls Tryz.prog 107 #[.pointer (some ⟨g, 0, none⟩)] w (TfL eExpr g w (runP behindP S)) := by
  have hgl := h.lt
  have HT := fTake_any h ⟨#[119, 104, 101, 114, 101]⟩
  have hbe : behindP = optP ⟨#[119, 104, 101, 114, 101]⟩ [] fun r => mapR (fun x => [x]) (exprP 64 r) := rfl
  rw [hbe]
  clear hbe
  cases hb : takeB ⟨#[119, 104, 101, 114, 101]⟩ S with
  | false =>
    obtain ⟨e1, e2⟩ := opt_false (z := ([] : List Tr)) (P := fun r => mapR (fun x => [x]) (exprP 64 r)) hb
    rw [hb, takeB_false hb] at HT
    replace HT : Hid _ := hid HT
    have E1 : Hid _ := hid e1
    have E2 : Hid _ := hid e2
    generalize runP (optP ⟨#[119, 104, 101, 114, 101]⟩ [] fun r => mapR (fun x => [x]) (exprP 64 r)) S = R at *
    clear e1 e2 hb h
    go_enter Tryz.func107, Tryz.ntmps107
    go_wp2_with fail
    refine Calls.mono HT.out ?_
    rintro e w1 ⟨rfl, hr1, hb1⟩
    clear HT
    go_wp2
    go_ret
    exact ⟨none, 0, 0, rfl, hb1, by rw [E1.out]; exact hr1, fun l r e => by rw [E2.out l r e]; exact RowIs.nil _ _ _⟩
  | true =>
    have e1 := opt_true (z := ([] : List Tr)) (P := fun r => mapR (fun x => [x]) (exprP 64 r)) hb
    rw [map_run] at e1
    rw [hb] at HT
    replace HT : Hid _ := hid HT
    have E1 : Hid _ := hid e1
    generalize runP (optP ⟨#[119, 104, 101, 114, 101]⟩ [] fun r => mapR (fun x => [x]) (exprP 64 r)) S = R at *
    clear e1 hb h
    go_enter Tryz.func107, Tryz.ntmps107
    go_wp2_with fail
    refine Calls.mono HT.out ?_
    rintro e w1 ⟨rfl, hr1, hb1⟩
    have HC : Hid _ := hid (fExpr_all hr1)
    have hsz := hb1.size
    clear HT hr1
    go_wp2_with fail
    refine Calls.mono HC.out ?_
    rintro e w2 ⟨o1, p1, a1, l1, c1, rfl, hb2, hr2, hx2⟩
    have hB2 := hb1.trans hb2
    have hsz2 := hb2.size
    clear HC hb1 hb2
    unfold exV
    go_wp2
    go_ret
    refine ⟨_, 1, 1, rfl, hB2.alloc _, by rw [E1.out, stO_mapR]; exact hr2.alloc _, fun l r e => ?_⟩
    rw [E1.out] at e
    obtain ⟨u, e2, rfl⟩ := mapR_inr e
    exact row_one w2 u o1 p1 a1 l1 c1 _ (by omega) ((hx2 u r e2).mono fun b hb _ => by omega)

theorem kind_int {S : Sa} (h : takeB ⟨#[105, 110, 116]⟩ S = true) : stO (runP (choiceP opsKind) S) = takeS ⟨#[105, 110, 116]⟩ S ∧ ∀ t r, runP (choiceP opsKind) S = .inr (t, r) → (1 : Int) = t := by
  match S with
  | .inl x => cases h
  | .inr ts =>
    have h' : isTk ⟨#[105, 110, 116]⟩ ts = true := h
    have e : oneOf opsKind ts = 1 := by show (if isTk ⟨#[105, 110, 116]⟩ ts then (1 : Int) else _) = 1; rw [if_pos h']
    have e2 : choiceP opsKind ts = .inr (1, ts.tail) := by rw [choiceP, e, if_neg (by decide)]
    refine ⟨?_, fun t r k => ?_⟩
    · show stO (choiceP opsKind ts) = _
      rw [e2]
      simp [takeS, h', stO]
    · have k' : choiceP opsKind ts = .inr (t, r) := k
      rw [e2] at k'
      cases k'
      rfl
theorem kind_text {S : Sa} (h : takeB ⟨#[105, 110, 116]⟩ S = false) : stO (runP (choiceP opsKind) S) = wantS ⟨#[116, 101, 120, 116]⟩ S ∧ ∀ t r, runP (choiceP opsKind) S = .inr (t, r) → (2 : Int) = t := by
  match S with
  | .inl x => exact ⟨rfl, fun t r k => by cases k⟩
  | .inr ts =>
    have h' : isTk ⟨#[105, 110, 116]⟩ ts = false := h
    have e : oneOf opsKind ts = if isTk ⟨#[116, 101, 120, 116]⟩ ts then 2 else 0 := by show (if isTk ⟨#[105, 110, 116]⟩ ts then (1 : Int) else _) = _; rw [if_neg (by rw [h']; simp)]; rfl
    by_cases ht : isTk ⟨#[116, 101, 120, 116]⟩ ts = true
    · rw [if_pos ht] at e
      have e2 : choiceP opsKind ts = .inr (2, ts.tail) := by rw [choiceP, e, if_neg (by decide)]
      refine ⟨?_, fun t r k => ?_⟩
      · show stO (choiceP opsKind ts) = _
        rw [e2]
        simp [wantS, ht, stO]
      · have k' : choiceP opsKind ts = .inr (t, r) := k
        rw [e2] at k'
        cases k'
        rfl
    · rw [if_neg ht] at e
      have e2 : choiceP opsKind ts = .inl (atOf ts, 5) := by rw [choiceP, e, if_pos rfl]
      refine ⟨?_, fun t r k => ?_⟩
      · show stO (choiceP opsKind ts) = _
        rw [e2]
        simp [wantS, ht, stO]
      · have k' : choiceP opsKind ts = .inr (t, r) := k
        rw [e2] at k'
        cases k'

set_option maxRecDepth 100000 in
set_option maxHeartbeats 4000000 in
theorem fCol_any {g : Nat} {S : Sa} {w : World} (h : Rf w g S 0) : Calls Tryz.prog 104 #[.pointer (some ⟨g, 0, none⟩)] w (TfCol g w (runP colP S)) := by
  have hgl := h.lt
  have b0 := Bt.new w 62 (.string ⟨#[]⟩) (.int .i64 0) (.string ⟨#[]⟩)
  have H1 : Hid _ := hid (fName_any (h.alloc (.cells #[.string ⟨#[]⟩, .int .i64 0, .string ⟨#[]⟩] 62)))
  have HS : Hid _ := hid (col_st S)
  have HI : Hid _ := hid fun t r (e : runP colP S = .inr (t, r)) => col_inr e
  generalize runP colP S = R at *
  clear h
  go_enter Tryz.func104, Tryz.ntmps104
  go_wp2_with fail
  refine Calls.mono H1.out ?_
  rintro e w1 ⟨s1, rfl, hb1, hr1, hu1⟩
  have hsz1 : w.heap.size + 1 ≤ w1.heap.size := by have := hb1.size; simp at this; omega
  have hB2 : But g w (w1.alloc (.cells #[.string s1, .int .i64 0, .string ⟨#[]⟩] 62)) := hb1.behind.alloc _
  have z2 := (b0.but hb1 (by omega)).later (bal (Below.refl _ w1) (.cells #[.string s1, .int .i64 0, .string ⟨#[]⟩] 62))
  have x2 := Bt.new w1 62 (.string s1) (.int .i64 0) (.string ⟨#[]⟩)
  have hr2 := hr1.alloc (.cells #[.string s1, .int .i64 0, .string ⟨#[]⟩] 62)
  generalize stO (runP nameP S) = S1 at *
  clear H1 hb1 b0 hr1
  have HT := fTake_any hr2 ⟨#[105, 110, 116]⟩
  go_upto_region 2 with fail
  generalize w1.alloc (.cells #[.string s1, .int .i64 0, .string ⟨#[]⟩] 62) = w2 at *
  generalize w1.heap.size = q at *
  cases hk : takeB ⟨#[105, 110, 116]⟩ S1 with
  | true =>
    obtain ⟨e1, e2⟩ := kind_int hk
    rw [hk, ← e1] at HT
    replace HT : Hid _ := hid HT
    have E2 : Hid _ := hid e2
    clear hk e1 e2 hr2
    go_wp2_with fail
    refine Calls.mono HT.out ?_
    rintro e w3 ⟨rfl, hr3, hb3⟩
    have x3 := x2.but hb3 (by omega)
    obtain ⟨c0, c1, c2⟩ := x3.cells
    obtain ⟨f0, f1, f2⟩ := x3.free
    have hql := x3.lt
    have hB5 := (hB2.trans hb3).new (r := q) (by omega) 1 (.int .i64 1)
    have x5 := x3.set1 (.int .i64 1)
    have z5 := (z2.but hb3 (by omega)).other (by omega) (r := q) 1 (.int .i64 1)
    have hr5 := hr3.other (r := q) (by omega) 1 (.int .i64 1)
    clear HT hb3 hB2 x2 z2 hr3 x3
    go_upto_region 6 with fail
    generalize w3.setCell ⟨q, 1, none⟩ (.int .i64 1) = w5 at *
    have HT := fTake_any hr5 ⟨#[114, 101, 102]⟩
    cases hb : takeB ⟨#[114, 101, 102]⟩ (stO (runP (choiceP opsKind) S1)) with
    | false =>
      obtain ⟨e3, e4⟩ := opt_false (z := (⟨#[]⟩ : ByteArray)) (P := nameP) hb
      rw [hb, takeB_false hb] at HT
      replace HT : Hid _ := hid HT
      have E3 : Hid _ := hid e3
      have E4 : Hid _ := hid e4
      clear hb e3 e4 hr5
      go_wp2_with fail
      refine Calls.mono HT.out ?_
      rintro e w6 ⟨rfl, hr6, hb6⟩
      have hB6 := hB5.trans hb6
      have x6 := x5.but hb6 (by omega)
      have z6 := z5.but hb6 (by omega)
      obtain ⟨c0, c1, c2⟩ := x6.cells
      obtain ⟨m0, m1, m2⟩ := z6.cells
      obtain ⟨n0, n1, n2⟩ := z6.free
      have hzl := z6.lt
      clear HT hb6 hB5 x5 z5 x6 z6
      go_wp2
      refine bodyPost_ret (v := .agg #[.string s1, .int .i64 1, .string ⟨#[]⟩]) (by simp [results, Tryz.results104, go_sem, m0, m1, m2]) rfl (TfCol.fin hgl hB6 (by rw [HS.out, E3.out]; exact hr6) fun t r e => ?_)
      obtain ⟨n, q1, kk, q2, f, h1, h2, h3, rfl⟩ := HI.out t r e
      rw [hu1 _ _ h1, E2.out _ _ h2, E4.out _ _ h3]
    | true =>
      have e3 := opt_true (z := (⟨#[]⟩ : ByteArray)) (P := nameP) hb
      rw [hb] at HT
      replace HT : Hid _ := hid HT
      have E3 : Hid _ := hid e3
      clear hb e3 hr5
      go_wp2_with fail
      refine Calls.mono HT.out ?_
      rintro e w6 ⟨rfl, hr6, hb6⟩
      have hB6 := hB5.trans hb6
      have x6 := x5.but hb6 (by omega)
      have z6 := z5.but hb6 (by omega)
      have HN : Hid _ := hid (fName_any hr6)
      clear HT hb6 hB5 x5 z5 hr6
      go_wp2_with fail
      refine Calls.mono HN.out ?_
      rintro e w7 ⟨s2, rfl, hb7, hr7, hu7⟩
      have hB7 := (hB6.trans hb7).new (r := q) (by omega) 2 (.string s2)
      have x7 := x6.but hb7 (by omega)
      obtain ⟨c0, c1, c2⟩ := x7.cells
      obtain ⟨f0, f1, f2⟩ := x7.free
      have x8 := x7.set2 (.string s2)
      have z8 := (z6.but hb7 (by omega)).other (by omega) (r := q) 2 (.string s2)
      have hr8 := hr7.other (r := q) (by omega) 2 (.string s2)
      have hql := x7.lt
      clear HN hb7 hB6 x6 z6 hr7 x7
      go_upto_region 8 with fail
      generalize w7.setCell ⟨q, 2, none⟩ (.string s2) = V at *
      obtain ⟨c0, c1, c2⟩ := x8.cells
      obtain ⟨m0, m1, m2⟩ := z8.cells
      obtain ⟨n0, n1, n2⟩ := z8.free
      have hzl := z8.lt
      clear x8 z8
      go_wp2
      refine bodyPost_ret (v := .agg #[.string s1, .int .i64 1, .string s2]) (by simp [results, Tryz.results104, go_sem, m0, m1, m2]) rfl (TfCol.fin hgl hB7 (by rw [HS.out, E3.out]; exact hr8) fun t r e => ?_)
      obtain ⟨n, q1, kk, q2, f, h1, h2, h3, rfl⟩ := HI.out t r e
      rw [E3.out] at h3
      rw [hu1 _ _ h1, E2.out _ _ h2, hu7 _ _ h3]
  | false =>
    obtain ⟨e1, e2⟩ := kind_text hk
    rw [hk, takeB_false hk] at HT
    replace HT : Hid _ := hid HT
    have E1 : Hid _ := hid e1
    have E2 : Hid _ := hid e2
    clear hk e1 e2 hr2
    go_wp2_with fail
    refine Calls.mono HT.out ?_
    rintro e w3 ⟨rfl, hr3, hb3⟩
    have HM : Hid _ := hid (fMust_any hr3 ⟨#[116, 101, 120, 116]⟩)
    rw [← E1.out] at HM
    have hB3 := hB2.trans hb3
    have x3 := x2.but hb3 (by omega)
    have z3 := z2.but hb3 (by omega)
    clear HT hb3 hB2 x2 z2 hr3
    go_wp2_with fail
    refine Calls.mono HM.out ?_
    rintro e w4 ⟨rfl, hr4, hb4⟩
    have x4 := x3.but hb4 (by omega)
    obtain ⟨c0, c1, c2⟩ := x4.cells
    obtain ⟨f0, f1, f2⟩ := x4.free
    have hql := x4.lt
    have hB5 := (hB3.trans hb4).new (r := q) (by omega) 1 (.int .i64 2)
    have x5 := x4.set1 (.int .i64 2)
    have z5 := (z3.but hb4 (by omega)).other (by omega) (r := q) 1 (.int .i64 2)
    have hr5 := hr4.other (r := q) (by omega) 1 (.int .i64 2)
    clear HM hb4 hB3 x3 z3 hr4 x4
    go_upto_region 6 with fail
    generalize w4.setCell ⟨q, 1, none⟩ (.int .i64 2) = w5 at *
    have HT := fTake_any hr5 ⟨#[114, 101, 102]⟩
    cases hb : takeB ⟨#[114, 101, 102]⟩ (stO (runP (choiceP opsKind) S1)) with
    | false =>
      obtain ⟨e3, e4⟩ := opt_false (z := (⟨#[]⟩ : ByteArray)) (P := nameP) hb
      rw [hb, takeB_false hb] at HT
      replace HT : Hid _ := hid HT
      have E3 : Hid _ := hid e3
      have E4 : Hid _ := hid e4
      clear hb e3 e4 hr5
      go_wp2_with fail
      refine Calls.mono HT.out ?_
      rintro e w6 ⟨rfl, hr6, hb6⟩
      have hB6 := hB5.trans hb6
      have x6 := x5.but hb6 (by omega)
      have z6 := z5.but hb6 (by omega)
      obtain ⟨c0, c1, c2⟩ := x6.cells
      obtain ⟨m0, m1, m2⟩ := z6.cells
      obtain ⟨n0, n1, n2⟩ := z6.free
      have hzl := z6.lt
      clear HT hb6 hB5 x5 z5 x6 z6
      go_wp2
      refine bodyPost_ret (v := .agg #[.string s1, .int .i64 2, .string ⟨#[]⟩]) (by simp [results, Tryz.results104, go_sem, m0, m1, m2]) rfl (TfCol.fin hgl hB6 (by rw [HS.out, E3.out]; exact hr6) fun t r e => ?_)
      obtain ⟨n, q1, kk, q2, f, h1, h2, h3, rfl⟩ := HI.out t r e
      rw [hu1 _ _ h1, E2.out _ _ h2, E4.out _ _ h3]
    | true =>
      have e3 := opt_true (z := (⟨#[]⟩ : ByteArray)) (P := nameP) hb
      rw [hb] at HT
      replace HT : Hid _ := hid HT
      have E3 : Hid _ := hid e3
      clear hb e3 hr5
      go_wp2_with fail
      refine Calls.mono HT.out ?_
      rintro e w6 ⟨rfl, hr6, hb6⟩
      have hB6 := hB5.trans hb6
      have x6 := x5.but hb6 (by omega)
      have z6 := z5.but hb6 (by omega)
      have HN : Hid _ := hid (fName_any hr6)
      clear HT hb6 hB5 x5 z5 hr6
      go_wp2_with fail
      refine Calls.mono HN.out ?_
      rintro e w7 ⟨s2, rfl, hb7, hr7, hu7⟩
      have hB7 := (hB6.trans hb7).new (r := q) (by omega) 2 (.string s2)
      have x7 := x6.but hb7 (by omega)
      obtain ⟨c0, c1, c2⟩ := x7.cells
      obtain ⟨f0, f1, f2⟩ := x7.free
      have x8 := x7.set2 (.string s2)
      have z8 := (z6.but hb7 (by omega)).other (by omega) (r := q) 2 (.string s2)
      have hr8 := hr7.other (r := q) (by omega) 2 (.string s2)
      have hql := x7.lt
      clear HN hb7 hB6 x6 z6 hr7 x7
      go_upto_region 8 with fail
      generalize w7.setCell ⟨q, 2, none⟩ (.string s2) = V at *
      obtain ⟨c0, c1, c2⟩ := x8.cells
      obtain ⟨m0, m1, m2⟩ := z8.cells
      obtain ⟨n0, n1, n2⟩ := z8.free
      have hzl := z8.lt
      clear x8 z8
      go_wp2
      refine bodyPost_ret (v := .agg #[.string s1, .int .i64 2, .string s2]) (by simp [results, Tryz.results104, go_sem, m0, m1, m2]) rfl (TfCol.fin hgl hB7 (by rw [HS.out, E3.out]; exact hr8) fun t r e => ?_)
      obtain ⟨n, q1, kk, q2, f, h1, h2, h3, rfl⟩ := HI.out t r e
      rw [E3.out] at h3
      rw [hu1 _ _ h1, E2.out _ _ h2, hu7 _ _ h3]

theorem opsAgg_sw (w : World) : Sw (w.alloc (.cells #[.string ⟨#[115, 117, 109]⟩, .string ⟨#[109, 105, 110]⟩, .string ⟨#[109, 97, 120]⟩] 9)) w.heap.size (opsAgg.map (·.1)) := by
  intro i hi
  have hi' : i < 3 := hi
  match i, hi' with
  | 0, _ => exact cell_new w _ _ _ 0
  | 1, _ => exact cell_new w _ _ _ 1
  | 2, _ => exact cell_new w _ _ _ 2
theorem opsAgg_at {k : Nat} (hk : k < 3) : ∃ h : k < opsAgg.length, (opsAgg[k]).2 = (2 : Int) + (k : Int) ∧ ∃ h' : k < (opsAgg.map (·.1)).length, (opsAgg.map (·.1))[k] = (opsAgg[k]).1 := by
  match k, hk with
  | 0, _ => exact ⟨by decide, rfl, by decide, rfl⟩
  | 1, _ => exact ⟨by decide, rfl, by decide, rfl⟩
  | 2, _ => exact ⟨by decide, rfl, by decide, rfl⟩

set_option maxRecDepth 100000 in
set_option maxHeartbeats 4000000 in
theorem fItem_any {g : Nat} {S : Sa} {w : World} (h : Rf w g S 0) : Calls Tryz.prog 105 #[.pointer (some ⟨g, 0, none⟩)] w (TfItem g w (runP itemP S)) := by
  have hgl := h.lt
  have b0 := Bt.new w 64 (.int .i64 0) (.string ⟨#[]⟩) (.string ⟨#[]⟩)
  have HT := fTake_any (h.alloc (.cells #[.int .i64 0, .string ⟨#[]⟩, .string ⟨#[]⟩] 64)) ⟨#[99, 111, 117, 110, 116]⟩
  cases hb : takeB ⟨#[99, 111, 117, 110, 116]⟩ S with
  | true =>
    have e1 := item_count hb
    have e2 := seq_st (fun _ _ => ((1, ⟨#[]⟩, ⟨#[]⟩) : It)) (wantU ⟨#[40]⟩) (seqP (fun _ _ => ()) (wantU ⟨#[42]⟩) (wantU ⟨#[41]⟩)) (takeS ⟨#[99, 111, 117, 110, 116]⟩ S)
    rw [← e1, seq_st, wantU_st, wantU_st, wantU_st] at e2
    have E1 : Hid _ := hid e1
    have E2 : Hid _ := hid e2
    rw [hb] at HT
    replace HT : Hid _ := hid HT
    generalize runP itemP S = R at *
    clear hb e1 e2 h
    go_enter Tryz.func105, Tryz.ntmps105
    go_wp2_with fail
    refine Calls.mono HT.out ?_
    rintro e w1 ⟨rfl, hr1, hb1⟩
    have hB1 : But g w w1 := hb1.behind
    have z1 := b0.but hb1 (by omega)
    have H1 : Hid _ := hid (fMust_any hr1 ⟨#[40]⟩)
    clear HT hb1 b0 hr1
    go_wp2_with fail
    refine Calls.mono H1.out ?_
    rintro e w2 ⟨rfl, hr2, hb2⟩
    have hB2 := hB1.trans hb2
    have z2 := z1.but hb2 (by omega)
    have H2 : Hid _ := hid (fMust_any hr2 ⟨#[42]⟩)
    clear H1 hb2 z1 hB1 hr2
    go_wp2_with fail
    refine Calls.mono H2.out ?_
    rintro e w3 ⟨rfl, hr3, hb3⟩
    have hB3 := hB2.trans hb3
    have z3 := z2.but hb3 (by omega)
    have H3 : Hid _ := hid (fMust_any hr3 ⟨#[41]⟩)
    clear H2 hb3 z2 hB2 hr3
    go_wp2_with fail
    refine Calls.mono H3.out ?_
    rintro e w4 ⟨rfl, hr4, hb4⟩
    have hB4 := hB3.trans hb4
    have z4 := z3.but hb4 (by omega)
    obtain ⟨m0, m1, m2⟩ := z4.cells
    obtain ⟨n0, n1, n2⟩ := z4.free
    have hzl := z4.lt
    clear H3 hb4 z3 z4 hB3
    go_wp2
    refine bodyPost_ret (v := .agg #[.int .i64 1, .string ⟨#[]⟩, .string ⟨#[]⟩]) (by simp [results, Tryz.results105, go_sem, m0, m1, m2]) rfl (TfItem.fin hgl hB4 (by rw [E2.out]; exact hr4) fun t r e => ?_)
    rw [E1.out] at e
    obtain ⟨_, _, _, _, _, rfl⟩ := seq_inr e
    rfl
  | false =>
    rw [hb, takeB_false hb] at HT
    replace HT : Hid _ := hid HT
    have E0 : Hid _ := hid (item_col hb)
    have E9 : Hid _ := hid (item_agg hb)
    generalize runP itemP S = R at *
    clear hb h
    go_enter Tryz.func105, Tryz.ntmps105
    go_wp2_with fail
    refine Calls.mono HT.out ?_
    rintro e w1 ⟨rfl, hr1, hb1⟩
    have hsz1 : w.heap.size + 1 ≤ w1.heap.size := by have := hb1.size; simp at this; omega
    have hB2 : But g w (w1.alloc (.cells #[.string ⟨#[115, 117, 109]⟩, .string ⟨#[109, 105, 110]⟩, .string ⟨#[109, 97, 120]⟩] 9)) := hb1.behind.alloc _
    have z2 := (b0.but hb1 (by omega)).later (bal (Below.refl _ w1) (.cells #[.string ⟨#[115, 117, 109]⟩, .string ⟨#[109, 105, 110]⟩, .string ⟨#[109, 97, 120]⟩] 9))
    have hr2 := hr1.alloc (.cells #[.string ⟨#[115, 117, 109]⟩, .string ⟨#[109, 105, 110]⟩, .string ⟨#[109, 97, 120]⟩] 9)
    have hcw := opsAgg_sw w1
    have hq2 : w1.heap.size < (w1.alloc (.cells #[.string ⟨#[115, 117, 109]⟩, .string ⟨#[109, 105, 110]⟩, .string ⟨#[109, 97, 120]⟩] 9)).heap.size := by simp
    have hgq : w1.heap.size ≠ g := by omega
    clear HT hb1 b0 hr1
    go_upto_region 7 with fail
    generalize w1.alloc (.cells #[.string ⟨#[115, 117, 109]⟩, .string ⟨#[109, 105, 110]⟩, .string ⟨#[109, 97, 120]⟩] 9) = V at *
    generalize w1.heap.size = q at *
    go_wp2
    go_loopw [4] (fun i wr => ∃ k : Nat, k ≤ 3 ∧ i = .int .i64 k ∧ Rf wr g S 0 ∧ But g w wr ∧ But g V wr ∧ Hid (NoneOf (opsAgg.take k) S)) (fun i _ => 3 - (intOf i).toNat)
    case atStart => exact ⟨0, Nat.zero_le _, rfl, hr2, hB2, But.refl _ _, hid (fun c hc => by simp at hc)⟩
    case round =>
      obtain ⟨k, hk, rfl, hr, hB, hBV, HN⟩ := hrel
      have z3 := z2.but hBV (by omega)
      have hq3 : q < wr.heap.size := Nat.lt_of_lt_of_le hq2 hBV.size
      by_cases hlt : k < 3
      · obtain ⟨hk1, hk2, hk3, hk4⟩ := opsAgg_at hlt
        have cs := hBV.cell (hcw k hk3) hgq
        rw [hk4] at cs
        have HA : Hid (takeB opsAgg[k].1 S = true → oneB opsAgg S = (2 : Int) + (k : Int) ∧ oneS opsAgg S = takeS opsAgg[k].1 S) := hid fun e => by rw [← hk2]; exact oneB_at hk1 HN.out e
        have HM : Hid (takeB opsAgg[k].1 S = false → NoneOf (opsAgg.take (k + 1)) S) := hid (HN.out.step hk1)
        have HT := fTake_any hr (opsAgg[k]).1
        generalize (opsAgg[k]).1 = s at *
        clear hk1 hk2 hk3 hk4 HN
        cases hb : takeB s S with
        | false =>
          have HM2 : Hid _ := hid (HM.out hb)
          rw [hb, takeB_false hb] at HT
          replace HT : Hid _ := hid HT
          clear HA HM hb hr
          go_wp2_with fail
          refine Calls.mono HT.out ?_
          rintro e w4 ⟨rfl, hr4, hb4⟩
          have hB4 := hB.trans hb4
          have hBV4 := hBV.trans hb4
          clear HT hB hBV hb4
          go_wp2
          go_roundw
          case rel => exact ⟨k + 1, by omega, by go_num, hr4, hB4, hBV4, HM2⟩
          case measure => simp only [intOf]; omega
        | true =>
          obtain ⟨e1, e2⟩ := HA.out hb
          have hz0 : oneB opsAgg S ≠ 0 := by rw [e1]; omega
          have e3 := E9.out hz0
          rw [e1, e2] at e3
          have e4 := seq_st (fun _ x => itemC ((2 : Int) + (k : Int)) x) (wantU ⟨#[40]⟩) (seqP (fun x _ => x) columnP (wantU ⟨#[41]⟩)) (takeS s S)
          rw [← e3, seq_st, wantU_st, wantU_st] at e4
          rw [hb] at HT
          replace HT : Hid _ := hid HT
          have E1 : Hid _ := hid e3
          have E2 : Hid _ := hid e4
          clear HA HM hb E0 E9 hz0 e1 e2 e3 e4 hr
          generalize takeS s S = S3 at *
          go_wp2_with fail
          refine Calls.mono HT.out ?_
          rintro e w4 ⟨rfl, hr4, hb4⟩
          have hB4 := hB.trans hb4
          have z4 := z3.but hb4 (by omega)
          have H1 : Hid _ := hid (fMust_any hr4 ⟨#[40]⟩)
          clear HT hB hBV hb4 z3 hr4 cs
          go_wp2_with fail
          refine Calls.mono H1.out ?_
          rintro e w5 ⟨rfl, hr5, hb5⟩
          have hB5 := hB4.trans hb5
          have z5 := z4.but hb5 (by omega)
          have HC : Hid _ := hid (fColumn_any hr5)
          clear H1 hB4 hb5 z4 hr5
          go_wp2_with fail
          refine Calls.mono HC.out ?_
          rintro e w6 ⟨o3, p3, a3, l3, c3, rfl, hb6, hr6, hx6⟩
          have hr7 := hr6.alloc (.cells #[.int .i64 o3, .int .i64 p3.1, .int .i64 p3.2.1, .string p3.2.2.1, .string p3.2.2.2.1, .string p3.2.2.2.2, .slice a3 l3 c3] 43)
          have x7 := Be.new w6 o3 p3 (.slice a3 l3 c3)
          have z6 := z5.but hb6 (by omega)
          have hz6 := z6.lt
          have z7 := z6.later (bal (Below.refl _ w6) (.cells #[.int .i64 o3, .int .i64 p3.1, .int .i64 p3.2.1, .string p3.2.2.1, .string p3.2.2.2.1, .string p3.2.2.2.2, .slice a3 l3 c3] 43))
          have hB7 := (hB5.trans hb6).alloc (.cells #[.int .i64 o3, .int .i64 p3.1, .int .i64 p3.2.1, .string p3.2.2.1, .string p3.2.2.2.1, .string p3.2.2.2.2, .slice a3 l3 c3] 43)
          have H2 : Hid _ := hid (fMust_any hr7 ⟨#[41]⟩)
          clear HC hB5 hb6 z5 z6 hr6 hr7
          unfold exV
          go_wp2_with fail
          refine Calls.mono H2.out ?_
          rintro e w8 ⟨rfl, hr8, hb8⟩
          have hB8 := hB7.trans hb8
          have x8 := x7.but hb8 (by omega)
          have z8 := z7.but hb8 (by omega)
          obtain ⟨i0, i1, i2, i3, i4, i5, i6⟩ := x8.cells
          rw [Nat.zero_add] at i1 i2 i3 i4 i5 i6
          obtain ⟨m0, m1, m2⟩ := z8.cells
          obtain ⟨n0, n1, n2⟩ := z8.free
          have hzl := z8.lt
          have hxl := x8.lt
          clear H2 hb8 hB7 x7 z7 x8 z8
          go_wp2
          refine bodyPost_ret (v := .agg #[.int .i64 ((2 : Int) + (k : Int)), .string p3.2.2.2.1, .string p3.2.2.2.2]) (by simp [results, Tryz.results105, go_sem, m0, m1, m2]) rfl (TfItem.fin hgl hB8 (by rw [E2.out]; exact hr8) fun t r e => ?_)
          rw [E1.out] at e
          obtain ⟨_, x, q, _, h2, rfl⟩ := seq_inr e
          obtain ⟨x', _, q', h3, _, rfl⟩ := seq_inr h2
          rw [wantU_st] at h3
          rw [ex_item (hx6 _ _ h3)]
      · obtain rfl : k = 3 := by omega
        have HNN : NoneOf opsAgg S := HN.out
        have E1 : Hid _ := hid (E0.out (oneB_none HNN).1)
        have HC : Hid _ := hid (fColumn_any hr)
        clear E0 E9 HNN HN hr
        go_wp2_with fail
        refine Calls.mono HC.out ?_
        rintro e w6 ⟨o3, p3, a3, l3, c3, rfl, hb6, hr6, hx6⟩
        have hr7 := hr6.alloc (.cells #[.int .i64 o3, .int .i64 p3.1, .int .i64 p3.2.1, .string p3.2.2.1, .string p3.2.2.2.1, .string p3.2.2.2.2, .slice a3 l3 c3] 43)
        have x7 := Be.new w6 o3 p3 (.slice a3 l3 c3)
        have z6 := z3.but hb6 (by omega)
        have hz6 := z6.lt
        have z7 := z6.later (bal (Below.refl _ w6) (.cells #[.int .i64 o3, .int .i64 p3.1, .int .i64 p3.2.1, .string p3.2.2.1, .string p3.2.2.2.1, .string p3.2.2.2.2, .slice a3 l3 c3] 43))
        have hB7 := (hB.trans hb6).alloc (.cells #[.int .i64 o3, .int .i64 p3.1, .int .i64 p3.2.1, .string p3.2.2.1, .string p3.2.2.2.1, .string p3.2.2.2.2, .slice a3 l3 c3] 43)
        obtain ⟨i0, i1, i2, i3, i4, i5, i6⟩ := x7.cells
        rw [Nat.zero_add] at i1 i2 i3 i4 i5 i6
        obtain ⟨m0, m1, m2⟩ := z7.cells
        obtain ⟨n0, n1, n2⟩ := z7.free
        have hzl := z7.lt
        have hxl := x7.lt
        clear HC hB hBV hb6 z3 z6 hr6
        unfold exV
        go_upto_region 16 with fail
        generalize w6.alloc (.cells #[.int .i64 o3, .int .i64 p3.1, .int .i64 p3.2.1, .string p3.2.2.1, .string p3.2.2.2.1, .string p3.2.2.2.2, .slice a3 l3 c3] 43) = V6 at *
        generalize w6.heap.size = q6 at *
        clear x7 z7
        go_wp2
        refine bodyPost_ret (v := .agg #[.int .i64 0, .string p3.2.2.2.1, .string p3.2.2.2.2]) (by simp [results, Tryz.results105, go_sem, m0, m1, m2]) rfl (TfItem.fin hgl hB7 (by rw [E1.out, stO_mapR]; exact hr7) fun t r e => ?_)
        rw [E1.out] at e
        obtain ⟨u, e2, rfl⟩ := mapR_inr e
        rw [ex_item (hx6 u r e2)]

end Go.Proofs.YtnboooaockgoiaaGreatDoor
namespace Go.Proofs.YtnboooaockgoiaaGreatDoor
open Go.RowKit
set_option linter.unusedVariables false

def tableP (ts : List Tk) : Re Sm := fillR (brP colP) up_co (fillR nameP up_nm (startR 1 (.inr ts)))
def indexP (ts : List Tk) : Re Sm := wantR ⟨#[41]⟩ (fillR nameP up_nm (wantR ⟨#[40]⟩ (fillR nameP up_tb (wantR ⟨#[111, 110]⟩ (startR 2 (.inr ts))))))
def insertP (ts : List Tk) : Re Sm := fillR (brP (exprP 64)) up_va (wantR ⟨#[118, 97, 108, 117, 101, 115]⟩ (fillR nameP up_tb (wantR ⟨#[105, 110, 116, 111]⟩ (startR 5 (.inr ts)))))
def deleteP (ts : List Tk) : Re Sm := fillR behindP up_wh (fillR nameP up_tb (wantR ⟨#[102, 114, 111, 109]⟩ (startR 8 (.inr ts))))
theorem shr_seq {α β γ : Type} {f : α → β → γ} {P : List Tk → Re α} {P' : List Tk → Re β} (h : Shr P) (h' : Shr P') : Shr (seqP f P P') := by
  intro ts t r e
  obtain ⟨a, q, h1, h2⟩ := thenR_inr e
  obtain ⟨b, h3, _⟩ := mapR_inr h2
  have := h ts a q h1
  have := h' q b r h3
  omega
theorem shr_want (s : ByteArray) : Shr (wantU s) := by
  intro ts t r e
  rw [wantU] at e
  split at e
  · cases e; rw [List.length_tail]; omega
  · cases e
theorem shr_opt {α : Type} {s : ByteArray} {z : α} {P : List Tk → Re α} (h : Shr P) : Shr (optP s z P) := by
  intro ts t r e
  rw [optP] at e
  split at e
  · have := h _ t r e
    rw [List.length_tail] at this
    omega
  · cases e; exact Nat.le_refl _
theorem shr_choice (l : List (ByteArray × Int)) : Shr (choiceP l) := by
  intro ts t r e
  rw [choiceP] at e
  split at e
  · cases e
  · cases e; rw [List.length_tail]; omega
theorem shr_col : Shr colP := shr_seq shr_name (shr_seq (shr_choice _) (shr_opt shr_name))
theorem shr_tag : Shr tagP := by
  intro ts t r e
  cases ts with
  | nil => cases e
  | cons x l =>
    rw [tagP] at e
    split at e
    · split at e
      · cases e
      · cases e; simp
    · cases e
theorem shr_item : Shr itemP := by
  intro ts t r e
  rw [itemP] at e
  split at e
  · have := shr_seq (shr_want _) (shr_seq (shr_want _) (shr_want _)) _ t r e
    rw [List.length_tail] at this
    omega
  · split at e
    · obtain ⟨u, h1, _⟩ := mapR_inr e
      exact shr_column ts u r h1
    · have := shr_seq (shr_want _) (shr_seq shr_column (shr_want _)) _ t r e
      rw [List.length_tail] at this
      omega
theorem tableP_run (S : Sa) : runP tableP S = fillR (brP colP) up_co (fillR nameP up_nm (startR 1 S)) := by cases S <;> rfl
theorem indexP_run (S : Sa) : runP indexP S = wantR ⟨#[41]⟩ (fillR nameP up_nm (wantR ⟨#[40]⟩ (fillR nameP up_tb (wantR ⟨#[111, 110]⟩ (startR 2 S))))) := by cases S <;> rfl
theorem insertP_run (S : Sa) : runP insertP S = fillR (brP (exprP 64)) up_va (wantR ⟨#[118, 97, 108, 117, 101, 115]⟩ (fillR nameP up_tb (wantR ⟨#[105, 110, 116, 111]⟩ (startR 5 S)))) := by cases S <;> rfl
theorem deleteP_run (S : Sa) : runP deleteP S = fillR behindP up_wh (fillR nameP up_tb (wantR ⟨#[102, 114, 111, 109]⟩ (startR 8 S))) := by cases S <;> rfl
end Go.Proofs.YtnboooaockgoiaaGreatDoor
namespace Go.Proofs.YtnboooaockgoiaaGreatDoor
open Go.RowKit
set_option linter.unusedVariables false

theorem OwnR.sl {ty k B : Nat} {w : World} {v : Value} {css : List (List Value)} (h : OwnR ty k B w v css) : ∃ ao n c, v = .slice ao n c := by
  rcases h.2.2 with ⟨rfl, h0⟩ | ⟨gg, cap, cur, rfl, hrest⟩
  · exact ⟨_, _, _, rfl⟩
  · exact ⟨_, _, _, rfl⟩
theorem OwnR.nil (ty k B : Nat) (w : World) : OwnR ty k B w (.slice none 0 0) [] := ⟨fun cs h => by simp at h, by simp, .inl ⟨rfl, rfl⟩⟩
theorem step_appR {t ety : TypeId} {z : Value} {k bytes B : Nat} {ops : Array Oper} {o : Oper} {a : Act} {w : World} {K : Act → World → Prop} {Q : Exit → Act → World → Prop} {E : Prop}
    (hgd : o.guard = none) (s x : Operand) (ho : o.op = .call { callee := .builtin .append, args := #[s, x], argTypes := #[t, t] })
    (ht : Tryz.prog.underlying t = some (.slice ety)) (hinf : (Tryz.prog.info? ety).map (fun i => (i.zero, i.size, i.bytes)) = some (some z, k, bytes)) (hzs : z.cells.size = k) (hk : 0 < k) (hby : bytes ≤ 1000)
    (v : Value) (css : List (List Value)) (g : Nat) (cs : List Value) (hs : a.eval s = v) (hx : a.eval x = .slice (some ⟨g, 0, none⟩) 1 1)
    (hown : OwnR ety k B w v css) (hcs : cs.length = k) (h1 : ∀ u ∈ cs, u.oneCell' = true) (hcell : ∀ j (hj : j < cs.length), w.cell? ⟨g, j, none⟩ = some cs[j]) (hl : css.length ≤ 1000) (hB : B ≤ w.heap.size)
    (h : ∀ v' w', OwnR ety k B w' v' (css ++ [cs]) → w.grownBy w' v.ownBlock → (v'.ownBlock = v.ownBlock ∨ v'.ownBlock = some w.heap.size) → K (a.put o.dst v') w') :
    if Region.wanted o (yielded ops a.tmps) = true then Oper.wp Tryz.prog o a w K Q else E := by
  have hw : Region.wanted o (yielded ops a.tmps) = true := by simp [Region.wanted, hgd]
  rw [if_pos hw]
  obtain ⟨v', w', hr, h2, h3, h4⟩ := run_appR ht hinf hzs hk hby w v css g cs hown hcs h1 hcell hl hB (ty := o.type)
  unfold Oper.wp execOp
  simp only [ho, resolve, invoke, builtin, Sem.run_bind, Sem.run_pure, Result.andThen_ok, List.map_toArray, List.map_cons, List.map_nil, hs, hx, hr]
  exact h v' w' h2 h3 h4
theorem new3 (w : World) (a b c : Value) (ty : TypeId) : ∀ j (hj : j < [a, b, c].length), (w.alloc (.cells #[a, b, c] ty)).cell? ⟨w.heap.size, j, none⟩ = some [a, b, c][j] := by
  intro j hj
  have hj' : j < 3 := hj
  match j, hj' with
  | 0, _ => exact cell_new w _ _ _ 0
  | 1, _ => exact cell_new w _ _ _ 1
  | 2, _ => exact cell_new w _ _ _ 2
theorem new7 (w : World) (a b c d e f h : Value) (ty : TypeId) : ∀ j (hj : j < [a, b, c, d, e, f, h].length), (w.alloc (.cells #[a, b, c, d, e, f, h] ty)).cell? ⟨w.heap.size, j, none⟩ = some [a, b, c, d, e, f, h][j] := by
  intro j hj
  have hj' : j < 7 := hj
  match j, hj' with
  | 0, _ => exact cell_new w _ _ _ 0
  | 1, _ => exact cell_new w _ _ _ 1
  | 2, _ => exact cell_new w _ _ _ 2
  | 3, _ => exact cell_new w _ _ _ 3
  | 4, _ => exact cell_new w _ _ _ 4
  | 5, _ => exact cell_new w _ _ _ 5
  | 6, _ => exact cell_new w _ _ _ 6
theorem one_item (k : Int) (a b : ByteArray) : ∀ u ∈ ([.int .i64 k, .string a, .string b] : List Value), u.oneCell' = true := by simp [Value.oneCell']
theorem one_col (a : ByteArray) (k : Int) (b : ByteArray) : ∀ u ∈ ([.string a, .int .i64 k, .string b] : List Value), u.oneCell' = true := by simp [Value.oneCell']
theorem one_expr (o : Int) (p : Pay) (a : Option Addr) (n c : Nat) : ∀ u ∈ ([.int .i64 o, .int .i64 p.1, .int .i64 p.2.1, .string p.2.2.1, .string p.2.2.2.1, .string p.2.2.2.2, .slice a n c] : List Value), u.oneCell' = true := by simp [Value.oneCell']

end Go.Proofs.YtnboooaockgoiaaGreatDoor
