/- The walks of the document's where, col, item. -/
import Derived.Test.YtjlmcnbmhgabpaaGreatEf
import Derived.Test.YtjlmcnbmhgabpaaGreatPp
import Derived.Test.YtjlmcnbmhgabpaaGreatPr
import Derived.Deep.RegionLaw
import Derived.Test.YtjlmcnbmhgabpaaGreatPu
namespace Go.Proofs.YtjlmcnbmhgabpaaGreat
open Go.RowKit
set_option linter.unusedVariables false

def TfTag (g : Nat) (w : World) (R : Re Int) (e : Ending) (w' : World) : Prop := ∃ z, e = .returned (.int .u16 z) ∧ But g w w' ∧ Rf w' g (stO R) 0 ∧ ∀ t r, R = .inr (t, r) → z = t
def TfCol (g : Nat) (w : World) (R : Re Co) (e : Ending) (w' : World) : Prop := ∃ a k f, e = .returned (.agg #[.string a, .int .i64 k, .string f]) ∧ But g w w' ∧ Rf w' g (stO R) 0 ∧ ∀ t r, R = .inr (t, r) → (a, k, f) = t
def TfItem (g : Nat) (w : World) (R : Re It) (e : Ending) (w' : World) : Prop := ∃ k a f, e = .returned (.agg #[.int .i64 k, .string a, .string f]) ∧ But g w w' ∧ Rf w' g (stO R) 0 ∧ ∀ t r, R = .inr (t, r) → (k, a, f) = t
/-- What a call that reads a list tells. -/
def TfL {α : Type} (e : Ek α) (g : Nat) (w : World) (R : Re (List α)) (en : Ending) (w' : World) : Prop :=
  ∃ ao n c, en = .returned (.slice ao n c) ∧ But g w w' ∧ Rf w' g (stO R) 0 ∧ ∀ l r, R = .inr (l, r) → RowIs e (fun b => w.heap.size ≤ b) w' (.slice ao n c) l
theorem Rf.set3 {w : World} {g : Nat} {S : Sa} {d : Nat} (h : Rf w g S d) {b : Nat} (hb : g < b) (x y z : Value) : Rf (set3 w b x y z) g S d := ((h.other hb 0 _).other hb 1 _).other hb 2 _
theorem TfCol.fin {g : Nat} {w w1 : World} {R : Re Co} {a f : ByteArray} {k : Int} (hg : g < w.heap.size) (hB : But g w w1) (hr : Rf w1 g (stO R) 0) (hx : ∀ t r, R = .inr (t, r) → (a, k, f) = t) :
    TfCol g w R (.returned (.agg #[.string a, .int .i64 k, .string f])) (set3 w1 w.heap.size (.string a) (.int .i64 k) (.string f)) :=
  ⟨a, k, f, rfl, hB.set3 (Nat.le_refl _) _ _ _, hr.set3 hg _ _ _, hx⟩
theorem TfItem.fin {g : Nat} {w w1 : World} {R : Re It} {a f : ByteArray} {k : Int} (hg : g < w.heap.size) (hB : But g w w1) (hr : Rf w1 g (stO R) 0) (hx : ∀ t r, R = .inr (t, r) → (k, a, f) = t) :
    TfItem g w R (.returned (.agg #[.int .i64 k, .string a, .string f])) (set3 w1 w.heap.size (.int .i64 k) (.string a) (.string f)) :=
  ⟨k, a, f, rfl, hB.set3 (Nat.le_refl _) _ _ _, hr.set3 hg _ _ _, hx⟩

set_option maxRecDepth 100000 in
set_option maxHeartbeats 1000000 in
theorem fWhere_any {g : Nat} {S : Sa} {w : World} (h : Rf w g S 0) :
    Calls Tryz.prog 97 #[.pointer (some ⟨g, 0, none⟩)] w (TfL eExpr g w (runP behindP S)) := by
  have hgl := h.lt
  have HT := fTake_any h ⟨#[119, 104, 101, 114, 101]⟩
  have hbe : behindP = optP ⟨#[119, 104, 101, 114, 101]⟩ [] fun r => mapR (fun x => [x]) (exprP 64 r) := rfl
  rw [hbe]
  clear hbe
  cases hb : takeB ⟨#[119, 104, 101, 114, 101]⟩ S with
  | false =>
    obtain ⟨e1, e2⟩ := opt_false (z := ([] : List Tr)) (P := fun r => mapR (fun x => [x]) (exprP 64 r)) hb
    rw [hb, takeB_false hb] at HT
    replace HT : Hid _ := hid HT
    have E1 : Hid _ := hid e1
    have E2 : Hid _ := hid e2
    generalize runP (optP ⟨#[119, 104, 101, 114, 101]⟩ [] fun r => mapR (fun x => [x]) (exprP 64 r)) S = R at *
    clear e1 e2 hb h
    go_enter Tryz.func97, Tryz.ntmps97
    go_wp2_with fail
    refine Calls.mono HT.out ?_
    rintro e w1 ⟨rfl, hr1, hb1⟩
    clear HT
    go_wp2
    go_ret
    exact ⟨none, 0, 0, rfl, hb1, by rw [E1.out]; exact hr1, fun l r e => by rw [E2.out l r e]; exact RowIs.nil _ _ _⟩
  | true =>
    have e1 := opt_true (z := ([] : List Tr)) (P := fun r => mapR (fun x => [x]) (exprP 64 r)) hb
    rw [map_run] at e1
    rw [hb] at HT
    replace HT : Hid _ := hid HT
    have E1 : Hid _ := hid e1
    generalize runP (optP ⟨#[119, 104, 101, 114, 101]⟩ [] fun r => mapR (fun x => [x]) (exprP 64 r)) S = R at *
    clear e1 hb h
    go_enter Tryz.func97, Tryz.ntmps97
    go_wp2_with fail
    refine Calls.mono HT.out ?_
    rintro e w1 ⟨rfl, hr1, hb1⟩
    have HC : Hid _ := hid (fExpr_all hr1)
    have hsz := hb1.size
    clear HT hr1
    go_wp2_with fail
    refine Calls.mono HC.out ?_
    rintro e w2 ⟨o1, p1, a1, l1, c1, rfl, hb2, hr2, hx2⟩
    have hB2 := hb1.trans hb2
    have hsz2 := hb2.size
    clear HC hb1 hb2
    unfold exV
    go_wp2
    go_ret
    refine ⟨_, 1, 1, rfl, hB2.alloc _, by rw [E1.out, stO_mapR]; exact hr2.alloc _, fun l r e => ?_⟩
    rw [E1.out] at e
    obtain ⟨u, e2, rfl⟩ := mapR_inr e
    exact row_one w2 u o1 p1 a1 l1 c1 _ (by omega) ((hx2 u r e2).mono fun b hb _ => by omega)

theorem kind_int {S : Sa} (h : takeB ⟨#[105, 110, 116]⟩ S = true) : stO (runP (choiceP opsKind) S) = takeS ⟨#[105, 110, 116]⟩ S ∧ ∀ t r, runP (choiceP opsKind) S = .inr (t, r) → (1 : Int) = t := by
  match S with
  | .inl x => cases h
  | .inr ts =>
    have h' : isTk ⟨#[105, 110, 116]⟩ ts = true := h
    have e : oneOf opsKind ts = 1 := by show (if isTk ⟨#[105, 110, 116]⟩ ts then (1 : Int) else _) = 1; rw [if_pos h']
    have e2 : choiceP opsKind ts = .inr (1, ts.tail) := by rw [choiceP, e, if_neg (by decide)]
    refine ⟨?_, fun t r k => ?_⟩
    · show stO (choiceP opsKind ts) = _
      rw [e2]
      simp [takeS, h', stO]
    · have k' : choiceP opsKind ts = .inr (t, r) := k
      rw [e2] at k'
      cases k'
      rfl
theorem kind_text {S : Sa} (h : takeB ⟨#[105, 110, 116]⟩ S = false) : stO (runP (choiceP opsKind) S) = wantS ⟨#[116, 101, 120, 116]⟩ S ∧ ∀ t r, runP (choiceP opsKind) S = .inr (t, r) → (2 : Int) = t := by
  match S with
  | .inl x => exact ⟨rfl, fun t r k => by cases k⟩
  | .inr ts =>
    have h' : isTk ⟨#[105, 110, 116]⟩ ts = false := h
    have e : oneOf opsKind ts = if isTk ⟨#[116, 101, 120, 116]⟩ ts then 2 else 0 := by show (if isTk ⟨#[105, 110, 116]⟩ ts then (1 : Int) else _) = _; rw [if_neg (by rw [h']; simp)]; rfl
    by_cases ht : isTk ⟨#[116, 101, 120, 116]⟩ ts = true
    · rw [if_pos ht] at e
      have e2 : choiceP opsKind ts = .inr (2, ts.tail) := by rw [choiceP, e, if_neg (by decide)]
      refine ⟨?_, fun t r k => ?_⟩
      · show stO (choiceP opsKind ts) = _
        rw [e2]
        simp [wantS, ht, stO]
      · have k' : choiceP opsKind ts = .inr (t, r) := k
        rw [e2] at k'
        cases k'
        rfl
    · rw [if_neg ht] at e
      have e2 : choiceP opsKind ts = .inl (atOf ts, 5) := by rw [choiceP, e, if_pos rfl]
      refine ⟨?_, fun t r k => ?_⟩
      · show stO (choiceP opsKind ts) = _
        rw [e2]
        simp [wantS, ht, stO]
      · have k' : choiceP opsKind ts = .inr (t, r) := k
        rw [e2] at k'
        cases k'

set_option maxRecDepth 100000 in
set_option maxHeartbeats 4000000 in
theorem fCol_any {g : Nat} {S : Sa} {w : World} (h : Rf w g S 0) : Calls Tryz.prog 94 #[.pointer (some ⟨g, 0, none⟩)] w (TfCol g w (runP colP S)) := by
  have hgl := h.lt
  have b0 := Bt.new w 55 (.string ⟨#[]⟩) (.int .i64 0) (.string ⟨#[]⟩)
  have H1 : Hid _ := hid (fName_any (h.alloc (.cells #[.string ⟨#[]⟩, .int .i64 0, .string ⟨#[]⟩] 55)))
  have HS : Hid _ := hid (col_st S)
  have HI : Hid _ := hid fun t r (e : runP colP S = .inr (t, r)) => col_inr e
  generalize runP colP S = R at *
  clear h
  go_enter Tryz.func94, Tryz.ntmps94
  go_wp2_with fail
  refine Calls.mono H1.out ?_
  rintro e w1 ⟨s1, rfl, hb1, hr1, hu1⟩
  have hsz1 : w.heap.size + 1 ≤ w1.heap.size := by have := hb1.size; simp at this; omega
  have hB2 : But g w (w1.alloc (.cells #[.string s1, .int .i64 0, .string ⟨#[]⟩] 55)) := hb1.behind.alloc _
  have z2 := (b0.but hb1 (by omega)).later (bal (Below.refl _ w1) (.cells #[.string s1, .int .i64 0, .string ⟨#[]⟩] 55))
  have x2 := Bt.new w1 55 (.string s1) (.int .i64 0) (.string ⟨#[]⟩)
  have hr2 := hr1.alloc (.cells #[.string s1, .int .i64 0, .string ⟨#[]⟩] 55)
  generalize stO (runP nameP S) = S1 at *
  clear H1 hb1 b0 hr1
  have HT := fTake_any hr2 ⟨#[105, 110, 116]⟩
  go_upto_region 2 with fail
  generalize w1.alloc (.cells #[.string s1, .int .i64 0, .string ⟨#[]⟩] 55) = w2 at *
  generalize w1.heap.size = q at *
  cases hk : takeB ⟨#[105, 110, 116]⟩ S1 with
  | true =>
    obtain ⟨e1, e2⟩ := kind_int hk
    rw [hk, ← e1] at HT
    replace HT : Hid _ := hid HT
    have E2 : Hid _ := hid e2
    clear hk e1 e2 hr2
    go_wp2_with fail
    refine Calls.mono HT.out ?_
    rintro e w3 ⟨rfl, hr3, hb3⟩
    have x3 := x2.but hb3 (by omega)
    obtain ⟨c0, c1, c2⟩ := x3.cells
    obtain ⟨f0, f1, f2⟩ := x3.free
    have hql := x3.lt
    have hB5 := (hB2.trans hb3).new (r := q) (by omega) 1 (.int .i64 1)
    have x5 := x3.set1 (.int .i64 1)
    have z5 := (z2.but hb3 (by omega)).other (by omega) (r := q) 1 (.int .i64 1)
    have hr5 := hr3.other (r := q) (by omega) 1 (.int .i64 1)
    clear HT hb3 hB2 x2 z2 hr3 x3
    go_upto_region 6 with fail
    generalize w3.setCell ⟨q, 1, none⟩ (.int .i64 1) = w5 at *
    have HT := fTake_any hr5 ⟨#[114, 101, 102]⟩
    cases hb : takeB ⟨#[114, 101, 102]⟩ (stO (runP (choiceP opsKind) S1)) with
    | false =>
      obtain ⟨e3, e4⟩ := opt_false (z := (⟨#[]⟩ : ByteArray)) (P := nameP) hb
      rw [hb, takeB_false hb] at HT
      replace HT : Hid _ := hid HT
      have E3 : Hid _ := hid e3
      have E4 : Hid _ := hid e4
      clear hb e3 e4 hr5
      go_wp2_with fail
      refine Calls.mono HT.out ?_
      rintro e w6 ⟨rfl, hr6, hb6⟩
      have hB6 := hB5.trans hb6
      have x6 := x5.but hb6 (by omega)
      have z6 := z5.but hb6 (by omega)
      obtain ⟨c0, c1, c2⟩ := x6.cells
      obtain ⟨m0, m1, m2⟩ := z6.cells
      obtain ⟨n0, n1, n2⟩ := z6.free
      have hzl := z6.lt
      clear HT hb6 hB5 x5 z5 x6 z6
      go_wp2
      refine bodyPost_ret (v := .agg #[.string s1, .int .i64 1, .string ⟨#[]⟩]) (by simp [results, Tryz.results94, go_sem, m0, m1, m2]) rfl (TfCol.fin hgl hB6 (by rw [HS.out, E3.out]; exact hr6) fun t r e => ?_)
      obtain ⟨n, q1, kk, q2, f, h1, h2, h3, rfl⟩ := HI.out t r e
      rw [hu1 _ _ h1, E2.out _ _ h2, E4.out _ _ h3]
    | true =>
      have e3 := opt_true (z := (⟨#[]⟩ : ByteArray)) (P := nameP) hb
      rw [hb] at HT
      replace HT : Hid _ := hid HT
      have E3 : Hid _ := hid e3
      clear hb e3 hr5
      go_wp2_with fail
      refine Calls.mono HT.out ?_
      rintro e w6 ⟨rfl, hr6, hb6⟩
      have hB6 := hB5.trans hb6
      have x6 := x5.but hb6 (by omega)
      have z6 := z5.but hb6 (by omega)
      have HN : Hid _ := hid (fName_any hr6)
      clear HT hb6 hB5 x5 z5 hr6
      go_wp2_with fail
      refine Calls.mono HN.out ?_
      rintro e w7 ⟨s2, rfl, hb7, hr7, hu7⟩
      have hB7 := (hB6.trans hb7).new (r := q) (by omega) 2 (.string s2)
      have x7 := x6.but hb7 (by omega)
      obtain ⟨c0, c1, c2⟩ := x7.cells
      obtain ⟨f0, f1, f2⟩ := x7.free
      have x8 := x7.set2 (.string s2)
      have z8 := (z6.but hb7 (by omega)).other (by omega) (r := q) 2 (.string s2)
      have hr8 := hr7.other (r := q) (by omega) 2 (.string s2)
      have hql := x7.lt
      clear HN hb7 hB6 x6 z6 hr7 x7
      go_upto_region 8 with fail
      generalize w7.setCell ⟨q, 2, none⟩ (.string s2) = V at *
      obtain ⟨c0, c1, c2⟩ := x8.cells
      obtain ⟨m0, m1, m2⟩ := z8.cells
      obtain ⟨n0, n1, n2⟩ := z8.free
      have hzl := z8.lt
      clear x8 z8
      go_wp2
      refine bodyPost_ret (v := .agg #[.string s1, .int .i64 1, .string s2]) (by simp [results, Tryz.results94, go_sem, m0, m1, m2]) rfl (TfCol.fin hgl hB7 (by rw [HS.out, E3.out]; exact hr8) fun t r e => ?_)
      obtain ⟨n, q1, kk, q2, f, h1, h2, h3, rfl⟩ := HI.out t r e
      rw [E3.out] at h3
      rw [hu1 _ _ h1, E2.out _ _ h2, hu7 _ _ h3]
  | false =>
    obtain ⟨e1, e2⟩ := kind_text hk
    rw [hk, takeB_false hk] at HT
    replace HT : Hid _ := hid HT
    have E1 : Hid _ := hid e1
    have E2 : Hid _ := hid e2
    clear hk e1 e2 hr2
    go_wp2_with fail
    refine Calls.mono HT.out ?_
    rintro e w3 ⟨rfl, hr3, hb3⟩
    have HM : Hid _ := hid (fMust_any hr3 ⟨#[116, 101, 120, 116]⟩)
    rw [← E1.out] at HM
    have hB3 := hB2.trans hb3
    have x3 := x2.but hb3 (by omega)
    have z3 := z2.but hb3 (by omega)
    clear HT hb3 hB2 x2 z2 hr3
    go_wp2_with fail
    refine Calls.mono HM.out ?_
    rintro e w4 ⟨rfl, hr4, hb4⟩
    have x4 := x3.but hb4 (by omega)
    obtain ⟨c0, c1, c2⟩ := x4.cells
    obtain ⟨f0, f1, f2⟩ := x4.free
    have hql := x4.lt
    have hB5 := (hB3.trans hb4).new (r := q) (by omega) 1 (.int .i64 2)
    have x5 := x4.set1 (.int .i64 2)
    have z5 := (z3.but hb4 (by omega)).other (by omega) (r := q) 1 (.int .i64 2)
    have hr5 := hr4.other (r := q) (by omega) 1 (.int .i64 2)
    clear HM hb4 hB3 x3 z3 hr4 x4
    go_upto_region 6 with fail
    generalize w4.setCell ⟨q, 1, none⟩ (.int .i64 2) = w5 at *
    have HT := fTake_any hr5 ⟨#[114, 101, 102]⟩
    cases hb : takeB ⟨#[114, 101, 102]⟩ (stO (runP (choiceP opsKind) S1)) with
    | false =>
      obtain ⟨e3, e4⟩ := opt_false (z := (⟨#[]⟩ : ByteArray)) (P := nameP) hb
      rw [hb, takeB_false hb] at HT
      replace HT : Hid _ := hid HT
      have E3 : Hid _ := hid e3
      have E4 : Hid _ := hid e4
      clear hb e3 e4 hr5
      go_wp2_with fail
      refine Calls.mono HT.out ?_
      rintro e w6 ⟨rfl, hr6, hb6⟩
      have hB6 := hB5.trans hb6
      have x6 := x5.but hb6 (by omega)
      have z6 := z5.but hb6 (by omega)
      obtain ⟨c0, c1, c2⟩ := x6.cells
      obtain ⟨m0, m1, m2⟩ := z6.cells
      obtain ⟨n0, n1, n2⟩ := z6.free
      have hzl := z6.lt
      clear HT hb6 hB5 x5 z5 x6 z6
      go_wp2
      refine bodyPost_ret (v := .agg #[.string s1, .int .i64 2, .string ⟨#[]⟩]) (by simp [results, Tryz.results94, go_sem, m0, m1, m2]) rfl (TfCol.fin hgl hB6 (by rw [HS.out, E3.out]; exact hr6) fun t r e => ?_)
      obtain ⟨n, q1, kk, q2, f, h1, h2, h3, rfl⟩ := HI.out t r e
      rw [hu1 _ _ h1, E2.out _ _ h2, E4.out _ _ h3]
    | true =>
      have e3 := opt_true (z := (⟨#[]⟩ : ByteArray)) (P := nameP) hb
      rw [hb] at HT
      replace HT : Hid _ := hid HT
      have E3 : Hid _ := hid e3
      clear hb e3 hr5
      go_wp2_with fail
      refine Calls.mono HT.out ?_
      rintro e w6 ⟨rfl, hr6, hb6⟩
      have hB6 := hB5.trans hb6
      have x6 := x5.but hb6 (by omega)
      have z6 := z5.but hb6 (by omega)
      have HN : Hid _ := hid (fName_any hr6)
      clear HT hb6 hB5 x5 z5 hr6
      go_wp2_with fail
      refine Calls.mono HN.out ?_
      rintro e w7 ⟨s2, rfl, hb7, hr7, hu7⟩
      have hB7 := (hB6.trans hb7).new (r := q) (by omega) 2 (.string s2)
      have x7 := x6.but hb7 (by omega)
      obtain ⟨c0, c1, c2⟩ := x7.cells
      obtain ⟨f0, f1, f2⟩ := x7.free
      have x8 := x7.set2 (.string s2)
      have z8 := (z6.but hb7 (by omega)).other (by omega) (r := q) 2 (.string s2)
      have hr8 := hr7.other (r := q) (by omega) 2 (.string s2)
      have hql := x7.lt
      clear HN hb7 hB6 x6 z6 hr7 x7
      go_upto_region 8 with fail
      generalize w7.setCell ⟨q, 2, none⟩ (.string s2) = V at *
      obtain ⟨c0, c1, c2⟩ := x8.cells
      obtain ⟨m0, m1, m2⟩ := z8.cells
      obtain ⟨n0, n1, n2⟩ := z8.free
      have hzl := z8.lt
      clear x8 z8
      go_wp2
      refine bodyPost_ret (v := .agg #[.string s1, .int .i64 2, .string s2]) (by simp [results, Tryz.results94, go_sem, m0, m1, m2]) rfl (TfCol.fin hgl hB7 (by rw [HS.out, E3.out]; exact hr8) fun t r e => ?_)
      obtain ⟨n, q1, kk, q2, f, h1, h2, h3, rfl⟩ := HI.out t r e
      rw [E3.out] at h3
      rw [hu1 _ _ h1, E2.out _ _ h2, hu7 _ _ h3]

theorem opsAgg_sw (w : World) : Sw (w.alloc (.cells #[.string ⟨#[115, 117, 109]⟩, .string ⟨#[109, 105, 110]⟩, .string ⟨#[109, 97, 120]⟩] 9)) w.heap.size (opsAgg.map (·.1)) := by
  intro i hi
  have hi' : i < 3 := hi
  match i, hi' with
  | 0, _ => exact cell_new w _ _ _ 0
  | 1, _ => exact cell_new w _ _ _ 1
  | 2, _ => exact cell_new w _ _ _ 2
theorem opsAgg_at {k : Nat} (hk : k < 3) : ∃ h : k < opsAgg.length, (opsAgg[k]).2 = (2 : Int) + (k : Int) ∧ ∃ h' : k < (opsAgg.map (·.1)).length, (opsAgg.map (·.1))[k] = (opsAgg[k]).1 := by
  match k, hk with
  | 0, _ => exact ⟨by decide, rfl, by decide, rfl⟩
  | 1, _ => exact ⟨by decide, rfl, by decide, rfl⟩
  | 2, _ => exact ⟨by decide, rfl, by decide, rfl⟩

set_option maxRecDepth 100000 in
set_option maxHeartbeats 4000000 in
theorem fItem_any {g : Nat} {S : Sa} {w : World} (h : Rf w g S 0) : Calls Tryz.prog 95 #[.pointer (some ⟨g, 0, none⟩)] w (TfItem g w (runP itemP S)) := by
  have hgl := h.lt
  have b0 := Bt.new w 58 (.int .i64 0) (.string ⟨#[]⟩) (.string ⟨#[]⟩)
  have HT := fTake_any (h.alloc (.cells #[.int .i64 0, .string ⟨#[]⟩, .string ⟨#[]⟩] 58)) ⟨#[99, 111, 117, 110, 116]⟩
  cases hb : takeB ⟨#[99, 111, 117, 110, 116]⟩ S with
  | true =>
    have e1 := item_count hb
    have e2 := seq_st (fun _ _ => ((1, ⟨#[]⟩, ⟨#[]⟩) : It)) (wantU ⟨#[40]⟩) (seqP (fun _ _ => ()) (wantU ⟨#[42]⟩) (wantU ⟨#[41]⟩)) (takeS ⟨#[99, 111, 117, 110, 116]⟩ S)
    rw [← e1, seq_st, wantU_st, wantU_st, wantU_st] at e2
    have E1 : Hid _ := hid e1
    have E2 : Hid _ := hid e2
    rw [hb] at HT
    replace HT : Hid _ := hid HT
    generalize runP itemP S = R at *
    clear hb e1 e2 h
    go_enter Tryz.func95, Tryz.ntmps95
    go_wp2_with fail
    refine Calls.mono HT.out ?_
    rintro e w1 ⟨rfl, hr1, hb1⟩
    have hB1 : But g w w1 := hb1.behind
    have z1 := b0.but hb1 (by omega)
    have H1 : Hid _ := hid (fMust_any hr1 ⟨#[40]⟩)
    clear HT hb1 b0 hr1
    go_wp2_with fail
    refine Calls.mono H1.out ?_
    rintro e w2 ⟨rfl, hr2, hb2⟩
    have hB2 := hB1.trans hb2
    have z2 := z1.but hb2 (by omega)
    have H2 : Hid _ := hid (fMust_any hr2 ⟨#[42]⟩)
    clear H1 hb2 z1 hB1 hr2
    go_wp2_with fail
    refine Calls.mono H2.out ?_
    rintro e w3 ⟨rfl, hr3, hb3⟩
    have hB3 := hB2.trans hb3
    have z3 := z2.but hb3 (by omega)
    have H3 : Hid _ := hid (fMust_any hr3 ⟨#[41]⟩)
    clear H2 hb3 z2 hB2 hr3
    go_wp2_with fail
    refine Calls.mono H3.out ?_
    rintro e w4 ⟨rfl, hr4, hb4⟩
    have hB4 := hB3.trans hb4
    have z4 := z3.but hb4 (by omega)
    obtain ⟨m0, m1, m2⟩ := z4.cells
    obtain ⟨n0, n1, n2⟩ := z4.free
    have hzl := z4.lt
    clear H3 hb4 z3 z4 hB3
    go_wp2
    refine bodyPost_ret (v := .agg #[.int .i64 1, .string ⟨#[]⟩, .string ⟨#[]⟩]) (by simp [results, Tryz.results95, go_sem, m0, m1, m2]) rfl (TfItem.fin hgl hB4 (by rw [E2.out]; exact hr4) fun t r e => ?_)
    rw [E1.out] at e
    obtain ⟨_, _, _, _, _, rfl⟩ := seq_inr e
    rfl
  | false =>
    rw [hb, takeB_false hb] at HT
    replace HT : Hid _ := hid HT
    have E0 : Hid _ := hid (item_col hb)
    have E9 : Hid _ := hid (item_agg hb)
    generalize runP itemP S = R at *
    clear hb h
    go_enter Tryz.func95, Tryz.ntmps95
    go_wp2_with fail
    refine Calls.mono HT.out ?_
    rintro e w1 ⟨rfl, hr1, hb1⟩
    have hsz1 : w.heap.size + 1 ≤ w1.heap.size := by have := hb1.size; simp at this; omega
    have hB2 : But g w (w1.alloc (.cells #[.string ⟨#[115, 117, 109]⟩, .string ⟨#[109, 105, 110]⟩, .string ⟨#[109, 97, 120]⟩] 9)) := hb1.behind.alloc _
    have z2 := (b0.but hb1 (by omega)).later (bal (Below.refl _ w1) (.cells #[.string ⟨#[115, 117, 109]⟩, .string ⟨#[109, 105, 110]⟩, .string ⟨#[109, 97, 120]⟩] 9))
    have hr2 := hr1.alloc (.cells #[.string ⟨#[115, 117, 109]⟩, .string ⟨#[109, 105, 110]⟩, .string ⟨#[109, 97, 120]⟩] 9)
    have hcw := opsAgg_sw w1
    have hq2 : w1.heap.size < (w1.alloc (.cells #[.string ⟨#[115, 117, 109]⟩, .string ⟨#[109, 105, 110]⟩, .string ⟨#[109, 97, 120]⟩] 9)).heap.size := by simp
    have hgq : w1.heap.size ≠ g := by omega
    clear HT hb1 b0 hr1
    go_upto_region 7 with fail
    generalize w1.alloc (.cells #[.string ⟨#[115, 117, 109]⟩, .string ⟨#[109, 105, 110]⟩, .string ⟨#[109, 97, 120]⟩] 9) = V at *
    generalize w1.heap.size = q at *
    go_wp2
    go_loopw [4] (fun i wr => ∃ k : Nat, k ≤ 3 ∧ i = .int .i64 k ∧ Rf wr g S 0 ∧ But g w wr ∧ But g V wr ∧ Hid (NoneOf (opsAgg.take k) S)) (fun i _ => 3 - (intOf i).toNat)
    case atStart => exact ⟨0, Nat.zero_le _, rfl, hr2, hB2, But.refl _ _, hid (fun c hc => by simp at hc)⟩
    case round =>
      obtain ⟨k, hk, rfl, hr, hB, hBV, HN⟩ := hrel
      have z3 := z2.but hBV (by omega)
      have hq3 : q < wr.heap.size := Nat.lt_of_lt_of_le hq2 hBV.size
      by_cases hlt : k < 3
      · obtain ⟨hk1, hk2, hk3, hk4⟩ := opsAgg_at hlt
        have cs := hBV.cell (hcw k hk3) hgq
        rw [hk4] at cs
        have HA : Hid (takeB opsAgg[k].1 S = true → oneB opsAgg S = (2 : Int) + (k : Int) ∧ oneS opsAgg S = takeS opsAgg[k].1 S) := hid fun e => by rw [← hk2]; exact oneB_at hk1 HN.out e
        have HM : Hid (takeB opsAgg[k].1 S = false → NoneOf (opsAgg.take (k + 1)) S) := hid (HN.out.step hk1)
        have HT := fTake_any hr (opsAgg[k]).1
        generalize (opsAgg[k]).1 = s at *
        clear hk1 hk2 hk3 hk4 HN
        cases hb : takeB s S with
        | false =>
          have HM2 : Hid _ := hid (HM.out hb)
          rw [hb, takeB_false hb] at HT
          replace HT : Hid _ := hid HT
          clear HA HM hb hr
          go_wp2_with fail
          refine Calls.mono HT.out ?_
          rintro e w4 ⟨rfl, hr4, hb4⟩
          have hB4 := hB.trans hb4
          have hBV4 := hBV.trans hb4
          clear HT hB hBV hb4
          go_wp2
          go_roundw
          case rel => exact ⟨k + 1, by omega, by go_num, hr4, hB4, hBV4, HM2⟩
          case measure => simp only [intOf]; omega
        | true =>
          obtain ⟨e1, e2⟩ := HA.out hb
          have hz0 : oneB opsAgg S ≠ 0 := by rw [e1]; omega
          have e3 := E9.out hz0
          rw [e1, e2] at e3
          have e4 := seq_st (fun _ x => itemC ((2 : Int) + (k : Int)) x) (wantU ⟨#[40]⟩) (seqP (fun x _ => x) columnP (wantU ⟨#[41]⟩)) (takeS s S)
          rw [← e3, seq_st, wantU_st, wantU_st] at e4
          rw [hb] at HT
          replace HT : Hid _ := hid HT
          have E1 : Hid _ := hid e3
          have E2 : Hid _ := hid e4
          clear HA HM hb E0 E9 hz0 e1 e2 e3 e4 hr
          generalize takeS s S = S3 at *
          go_wp2_with fail
          refine Calls.mono HT.out ?_
          rintro e w4 ⟨rfl, hr4, hb4⟩
          have hB4 := hB.trans hb4
          have z4 := z3.but hb4 (by omega)
          have H1 : Hid _ := hid (fMust_any hr4 ⟨#[40]⟩)
          clear HT hB hBV hb4 z3 hr4 cs
          go_wp2_with fail
          refine Calls.mono H1.out ?_
          rintro e w5 ⟨rfl, hr5, hb5⟩
          have hB5 := hB4.trans hb5
          have z5 := z4.but hb5 (by omega)
          have HC : Hid _ := hid (fColumn_any hr5)
          clear H1 hB4 hb5 z4 hr5
          go_wp2_with fail
          refine Calls.mono HC.out ?_
          rintro e w6 ⟨o3, p3, a3, l3, c3, rfl, hb6, hr6, hx6⟩
          have hr7 := hr6.alloc (.cells #[.int .i64 o3, .int .i64 p3.1, .int .i64 p3.2.1, .string p3.2.2.1, .string p3.2.2.2.1, .string p3.2.2.2.2, .slice a3 l3 c3] 80)
          have x7 := Be.new w6 o3 p3 (.slice a3 l3 c3)
          have z6 := z5.but hb6 (by omega)
          have hz6 := z6.lt
          have z7 := z6.later (bal (Below.refl _ w6) (.cells #[.int .i64 o3, .int .i64 p3.1, .int .i64 p3.2.1, .string p3.2.2.1, .string p3.2.2.2.1, .string p3.2.2.2.2, .slice a3 l3 c3] 80))
          have hB7 := (hB5.trans hb6).alloc (.cells #[.int .i64 o3, .int .i64 p3.1, .int .i64 p3.2.1, .string p3.2.2.1, .string p3.2.2.2.1, .string p3.2.2.2.2, .slice a3 l3 c3] 80)
          have H2 : Hid _ := hid (fMust_any hr7 ⟨#[41]⟩)
          clear HC hB5 hb6 z5 z6 hr6 hr7
          unfold exV
          go_wp2_with fail
          refine Calls.mono H2.out ?_
          rintro e w8 ⟨rfl, hr8, hb8⟩
          have hB8 := hB7.trans hb8
          have x8 := x7.but hb8 (by omega)
          have z8 := z7.but hb8 (by omega)
          obtain ⟨i0, i1, i2, i3, i4, i5, i6⟩ := x8.cells
          rw [Nat.zero_add] at i1 i2 i3 i4 i5 i6
          obtain ⟨m0, m1, m2⟩ := z8.cells
          obtain ⟨n0, n1, n2⟩ := z8.free
          have hzl := z8.lt
          have hxl := x8.lt
          clear H2 hb8 hB7 x7 z7 x8 z8
          go_wp2
          refine bodyPost_ret (v := .agg #[.int .i64 ((2 : Int) + (k : Int)), .string p3.2.2.2.1, .string p3.2.2.2.2]) (by simp [results, Tryz.results95, go_sem, m0, m1, m2]) rfl (TfItem.fin hgl hB8 (by rw [E2.out]; exact hr8) fun t r e => ?_)
          rw [E1.out] at e
          obtain ⟨_, x, q, _, h2, rfl⟩ := seq_inr e
          obtain ⟨x', _, q', h3, _, rfl⟩ := seq_inr h2
          rw [wantU_st] at h3
          rw [ex_item (hx6 _ _ h3)]
      · obtain rfl : k = 3 := by omega
        have HNN : NoneOf opsAgg S := HN.out
        have E1 : Hid _ := hid (E0.out (oneB_none HNN).1)
        have HC : Hid _ := hid (fColumn_any hr)
        clear E0 E9 HNN HN hr
        go_wp2_with fail
        refine Calls.mono HC.out ?_
        rintro e w6 ⟨o3, p3, a3, l3, c3, rfl, hb6, hr6, hx6⟩
        have hr7 := hr6.alloc (.cells #[.int .i64 o3, .int .i64 p3.1, .int .i64 p3.2.1, .string p3.2.2.1, .string p3.2.2.2.1, .string p3.2.2.2.2, .slice a3 l3 c3] 80)
        have x7 := Be.new w6 o3 p3 (.slice a3 l3 c3)
        have z6 := z3.but hb6 (by omega)
        have hz6 := z6.lt
        have z7 := z6.later (bal (Below.refl _ w6) (.cells #[.int .i64 o3, .int .i64 p3.1, .int .i64 p3.2.1, .string p3.2.2.1, .string p3.2.2.2.1, .string p3.2.2.2.2, .slice a3 l3 c3] 80))
        have hB7 := (hB.trans hb6).alloc (.cells #[.int .i64 o3, .int .i64 p3.1, .int .i64 p3.2.1, .string p3.2.2.1, .string p3.2.2.2.1, .string p3.2.2.2.2, .slice a3 l3 c3] 80)
        obtain ⟨i0, i1, i2, i3, i4, i5, i6⟩ := x7.cells
        rw [Nat.zero_add] at i1 i2 i3 i4 i5 i6
        obtain ⟨m0, m1, m2⟩ := z7.cells
        obtain ⟨n0, n1, n2⟩ := z7.free
        have hzl := z7.lt
        have hxl := x7.lt
        clear HC hB hBV hb6 z3 z6 hr6
        unfold exV
        go_upto_region 16 with fail
        generalize w6.alloc (.cells #[.int .i64 o3, .int .i64 p3.1, .int .i64 p3.2.1, .string p3.2.2.1, .string p3.2.2.2.1, .string p3.2.2.2.2, .slice a3 l3 c3] 80) = V6 at *
        generalize w6.heap.size = q6 at *
        clear x7 z7
        go_wp2
        refine bodyPost_ret (v := .agg #[.int .i64 0, .string p3.2.2.2.1, .string p3.2.2.2.2]) (by simp [results, Tryz.results95, go_sem, m0, m1, m2]) rfl (TfItem.fin hgl hB7 (by rw [E1.out, stO_mapR]; exact hr7) fun t r e => ?_)
        rw [E1.out] at e
        obtain ⟨u, e2, rfl⟩ := mapR_inr e
        rw [ex_item (hx6 u r e2)]

end Go.Proofs.YtjlmcnbmhgabpaaGreat

/- The walk of the document's tags; an append in a region that draws. -/
namespace Go.Proofs.YtjlmcnbmhgabpaaGreat
open Go.RowKit
set_option linter.unusedVariables false

/-- A thing is to be read, behind those that were. -/
def PeR {α : Type} (P : List Tk → Re α) (R : Re (List α)) (S : Sa) (css : List (List Value)) (E : α → List Value → Prop) : Prop :=
  ∀ (cs : List Value) (E' : α → List Value → Prop), (∀ u ds, E u ds → E' u ds) → (∀ u r, runP P S = .inr (u, r) → E' u cs) → LiR P R (stO (runP P S)) (css ++ [cs]) E'
theorem PeR.start {α : Type} {P : List Tk → Re α} {S : Sa} {E : α → List Value → Prop} : PeR P (runP (listP P) S) S [] E := fun cs E' _ h => LiR.start h
theorem PeR.bad {α : Type} {P : List Tk → Re α} {R : Re (List α)} {S : Sa} {css : List (List Value)} {E : α → List Value → Prop} (h : PeR P R S css E) {x : Int × Int} (hx : stO (runP P S) = .inl x) : R = .inl x := by
  have := h [] (fun _ _ => True) (fun _ _ _ => trivial) (fun _ _ _ => trivial)
  rw [hx] at this
  rcases this with ⟨e, he, hR⟩ | ⟨ts, _, _, he, _⟩
  · cases he; exact hR
  · cases he
theorem LiR.next {α : Type} {P : List Tk → Re α} {R : Re (List α)} {t : Tk} {ts : List Tk} {css : List (List Value)} {E : α → List Value → Prop} (hP : Shr P) (h : LiR P R (.inr (t :: ts)) css E) (hz : takeB ⟨#[44]⟩ (.inr (t :: ts)) = true) : PeR P R (.inr ts) css E :=
  (h.go hP hz).2
theorem OwnR.sl {ty k B : Nat} {w : World} {v : Value} {css : List (List Value)} (h : OwnR ty k B w v css) : ∃ ao n c, v = .slice ao n c := by
  rcases h.2.2 with ⟨rfl, h0⟩ | ⟨gg, cap, cur, rfl, hrest⟩
  · exact ⟨_, _, _, rfl⟩
  · exact ⟨_, _, _, rfl⟩
theorem OwnR.nil (ty k B : Nat) (w : World) : OwnR ty k B w (.slice none 0 0) [] := ⟨fun cs h => by simp at h, by simp, .inl ⟨rfl, rfl⟩⟩
theorem step_appR {t ety : TypeId} {z : Value} {k bytes B : Nat} {ops : Array Oper} {o : Oper} {a : Act} {w : World} {K : Act → World → Prop} {Q : Exit → Act → World → Prop} {E : Prop}
    (hgd : o.guard = none) (s x : Operand) (ho : o.op = .call { callee := .builtin .append, args := #[s, x], argTypes := #[t, t] })
    (ht : Tryz.prog.underlying t = some (.slice ety)) (hinf : (Tryz.prog.info? ety).map (fun i => (i.zero, i.size, i.bytes)) = some (some z, k, bytes)) (hzs : z.cells.size = k) (hk : 0 < k) (hby : bytes ≤ 1000)
    (v : Value) (css : List (List Value)) (g : Nat) (cs : List Value) (hs : a.eval s = v) (hx : a.eval x = .slice (some ⟨g, 0, none⟩) 1 1)
    (hown : OwnR ety k B w v css) (hcs : cs.length = k) (h1 : ∀ u ∈ cs, u.oneCell' = true) (hcell : ∀ j (hj : j < cs.length), w.cell? ⟨g, j, none⟩ = some cs[j]) (hl : css.length ≤ 1000) (hB : B ≤ w.heap.size)
    (h : ∀ v' w', OwnR ety k B w' v' (css ++ [cs]) → w.grownBy w' v.ownBlock → (v'.ownBlock = v.ownBlock ∨ v'.ownBlock = some w.heap.size) → K (a.put o.dst v') w') :
    if Region.wanted o (yielded ops a.tmps) = true then Oper.wp Tryz.prog o a w K Q else E := by
  have hw : Region.wanted o (yielded ops a.tmps) = true := by simp [Region.wanted, hgd]
  rw [if_pos hw]
  obtain ⟨v', w', hr, h2, h3, h4⟩ := run_appR ht hinf hzs hk hby w v css g cs hown hcs h1 hcell hl hB (ty := o.type)
  unfold Oper.wp execOp
  simp only [ho, resolve, invoke, builtin, Sem.run_bind, Sem.run_pure, Result.andThen_ok, List.map_toArray, List.map_cons, List.map_nil, hs, hx, hr]
  exact h v' w' h2 h3 h4

theorem tagA {w : World} {g : Nat} {S : Sa} {t : Tk} (hr : Rf w g S 0) (h : okS S = true → t = nxT S) (h3 : t.1 ≠ 3) : ∃ y, failS 5 S = .inl y ∧ stO (runP tagP S) = .inl y := by
  match S, hr, h with
  | .inl x, hr, h => exact ⟨x, rfl, rfl⟩
  | .inr [], hr, h => obtain ⟨b, o, N, c, n, all, h1, h2, hg, hw⟩ := hr.ok; exact h2.1.elim
  | .inr (u :: us), hr, h =>
    have e : t = u := h rfl
    subst e
    refine ⟨(t.2.2.2, 5), rfl, ?_⟩
    show stO (tagP (t :: us)) = _
    rw [tagP, if_neg h3]
    rfl
theorem tagB {w : World} {g : Nat} {S : Sa} {t : Tk} (hr : Rf w g S 0) (h : okS S = true → t = nxT S) (h3 : t.1 = 3) (hb : 65535 < t.2.2.1) : ∃ y, failS 3 S = .inl y ∧ stO (runP tagP S) = .inl y := by
  match S, hr, h with
  | .inl x, hr, h => exact ⟨x, rfl, rfl⟩
  | .inr [], hr, h => obtain ⟨b, o, N, c, n, all, h1, h2, hg, hw⟩ := hr.ok; exact h2.1.elim
  | .inr (u :: us), hr, h =>
    have e : t = u := h rfl
    subst e
    refine ⟨(t.2.2.2, 3), rfl, ?_⟩
    show stO (tagP (t :: us)) = _
    rw [tagP, if_pos h3, if_pos hb]
    rfl
theorem tagC {t : Tk} {us : List Tk} (h3 : t.1 = 3) (hb : ¬ 65535 < t.2.2.1) : runP tagP (.inr (t :: us)) = .inr (IntKind.u16.wrap t.2.2.1, us) := by
  show tagP (t :: us) = _
  rw [tagP, if_pos h3, if_neg hb]
theorem Rf.grown {g d : Nat} {S : Sa} {w3 w4 : World} {row : Option Nat} (h : Rf w3 g S d) (hg : w3.grownBy w4 row) (hrow : ∀ k, row = some k → g < k) : Rf w4 g S d :=
  h.keep fun k hk => hg.block k (Nat.lt_of_le_of_lt hk h.lt) (fun e => by have := hrow k e.symm; omega)

set_option maxRecDepth 100000 in
set_option maxHeartbeats 4000000 in
theorem fTags_any {g : Nat} {S : Sa} {w : World} (h : Rf w g S 0) :
    Calls Tryz.prog 50 #[.pointer (some ⟨g, 0, none⟩)] w (TfL eTag g w (runP (listP tagP) S)) := by
  have hgl := h.lt
  have hf := h.few
  have HP0 : Hid _ := hid (PeR.start (P := tagP) (S := S) (E := fun t cs => cs = [.int .u16 t]))
  generalize runP (listP tagP) S = R at *
  go_enter Tryz.func50, Tryz.ntmps50
  go_wp2
  go_loopw [3] (fun v3 wr => ∃ (S1 : Sa) (css : List (List Value)), Rf wr g S1 0 ∧ But g w wr ∧ OwnR 56 1 w.heap.size wr v3 css ∧ css.length + szS S1 ≤ 501 ∧ Hid (PeR tagP R S1 css fun t cs => cs = [.int .u16 t])) (fun _ wr => szF g wr)
  case atStart => exact ⟨S, [], h, But.refl _ _, OwnR.nil _ _ _ _, by simp; omega, HP0⟩
  case round =>
    clear h hf HP0
    obtain ⟨S2, css, hr, hB, ho, hcs, HE⟩ := hrel
    obtain ⟨ao, n0, c0, rfl⟩ := ho.sl
    have hm := hr.sz
    have H : Hid _ := hid (fNow_any hr)
    have hcl : css.length ≤ 501 := by omega
    unfold TfNow tkA at H
    go_wp2_with fail
    refine Calls.mono H.out ?_
    rintro e w1 ⟨⟨t0, t1, t2, t3⟩, rfl, hb1, ht⟩
    have hb2 := bal hb1 (.cells #[.int .i64 t0, .string t1, .int .i64 t2, .int .i64 t3] 45)
    have hr2 := hr.later hb2
    have hB2 : But g w (w1.alloc (.cells #[.int .i64 t0, .string t1, .int .i64 t2, .int .i64 t3] 45)) := hB.later hb2
    have ho2 : OwnR 56 1 w.heap.size (w1.alloc (.cells #[.int .i64 t0, .string t1, .int .i64 t2, .int .i64 t3] 45)) (.slice ao n0 c0) css := ho.but (But.of (g := g) hb2) hgl
    obtain ⟨y0, y1, y2, y3⟩ := Ct.new w1 (t0, t1, t2, t3) 45
    rw [Nat.zero_add] at y1 y2 y3
    have hqg : g < w1.heap.size := Nat.lt_of_lt_of_le hr.lt hb1.size
    have hql : w1.heap.size < (w1.alloc (.cells #[.int .i64 t0, .string t1, .int .i64 t2, .int .i64 t3] 45)).heap.size := by simp
    clear H hb1 hb2 hr hB ho
    go_upto_region 3 with fail
    generalize w1.alloc (.cells #[.int .i64 t0, .string t1, .int .i64 t2, .int .i64 t3] 45) = w2 at *
    generalize w1.heap.size = q at *
    by_cases h3 : t0 = 3
    · subst h3
      by_cases hbig : 65535 < t2
      · have gb : decide ((65535 : Int) < t2) = true := by simpa using hbig
        obtain ⟨y, e1, e2⟩ := tagB hr2 ht rfl hbig
        have HR : Hid _ := hid (HE.out.bad e2)
        have HF : Hid _ := hid (fFail_any hr2 3 (by decide))
        rw [e1] at HF
        clear HE hr2 ht e1 e2 hbig
        go_wp2_with fail
        refine Calls.mono HF.out ?_
        rintro e w3 ⟨rfl, hr3, hb3⟩
        have hB3 := hB2.trans hb3
        obtain ⟨b', o', N', c', n', all', d', hx, -, -, hg3, -⟩ := hr3.bad
        obtain ⟨k0, k1, k2, k3, k4⟩ := hg3.cells
        have g4 : (y.2 != 0) = true := by simpa using hx
        have hgl3 := hr3.lt
        clear HF hb3 hB2 hg3
        go_wp2
        go_ret
        exact ⟨ao, n0, c0, rfl, hB3, by rw [HR.out]; exact hr3, fun l r e => by rw [HR.out] at e; cases e⟩
      · have gb : decide ((65535 : Int) < t2) = false := by simpa using hbig
        match S2, hr2, ht, HE, hm, hcs with
        | .inl x, hr2, ht, HE, hm, hcs =>
          have HR : Hid _ := hid (HE.out.bad (x := x) rfl)
          obtain ⟨b', o', N', c', n', all', d', hx, -, -, hg3, -⟩ := hr2.bad
          obtain ⟨k0, k1, k2, k3, k4⟩ := hg3.cells
          have g4 : (x.2 != 0) = true := by simpa using hx
          have hgl3 := hr2.lt
          clear HE hg3 ht
          go_wp2
          go_ret
          exact ⟨ao, n0, c0, rfl, hB2, by rw [HR.out]; exact hr2, fun l r e => by rw [HR.out] at e; cases e⟩
        | .inr [], hr2, ht, HE, hm, hcs => obtain ⟨b, o, N, c, n, all, h1, h2, hg, hw⟩ := hr2.ok; exact h2.1.elim
        | .inr (u :: us), hr2, ht, HE, hm, hcs =>
          have hu : (3, t1, t2, t3) = u := ht rfl
          subst hu
          have e1 := tagC (t := (3, t1, t2, t3)) (us := us) rfl hbig
          have HL := HE.out [.int .u16 (IntKind.u16.wrap t2)] (fun t cs => cs = [.int .u16 t]) (fun _ _ k => k) (fun v r k => by rw [e1] at k; cases k; rfl)
          rw [e1] at HL
          replace HL : Hid _ := hid HL
          obtain ⟨b', o', N', c', n', all', -, -, hg3, -⟩ := hr2.ok
          obtain ⟨k0, k1, k2, k3, k4⟩ := hg3.cells
          have hgl3 := hr2.lt
          have hr4 := hr2.alloc (.cells #[.int .u16 (IntKind.u16.wrap t2)] 56)
          have hB4 := hB2.alloc (.cells #[.int .u16 (IntKind.u16.wrap t2)] 56)
          have ho4 := ho2.alloc (.cells #[.int .u16 (IntKind.u16.wrap t2)] 56)
          have hblk := ho2.blk
          have hszw := hB4.size
          have hm' : szF g wr = us.length + 1 := hm
          have hcs' : css.length + (us.length + 1) ≤ 501 := hcs
          have hw2g : (w2.alloc (.cells #[.int .u16 (IntKind.u16.wrap t2)] 56)).heap.size = w2.heap.size + 1 := by simp
          clear HE hg3 ht e1 hbig hm hcs ho2 hr2
          go_wp2_with (first | (at_builtin; refine wpList_appR Tryz.underlying24 Tryz.infoTTag rfl (by decide) (by decide) rfl (.tmp 23) (.tmp 27) rfl _ css w2.heap.size [.int .u16 (IntKind.u16.wrap t2)] rfl rfl ho4 rfl (by simp [Value.oneCell']) ?_ (by omega) hB4.size ?_) | fail)
          · intro v' w6 hO6 hg6 hown
            have hB6 := hB4.grown hg6 fun k e => (hblk k e).1
            have hr6 := hr4.grown hg6 fun k e => by have := (hblk k e).1; omega
            have HN : Hid _ := hid (fNext_any hr6 (by show (3 : Int) ≠ 6; decide))
            obtain ⟨ao', n', c', rfl⟩ := hO6.sl
            clear hg6 hown hB4 ho4 hr4 hblk k0 k1 k2 k3 k4
            go_wp2_with fail
            refine Calls.mono HN.out ?_
            rintro e w7 ⟨rfl, hr7, hb7⟩
            have hB7 := hB6.trans hb7
            have hO7 := hO6.but hb7 hgl
            have HT := fTake_any hr7 ⟨#[44]⟩
            clear HN hb7 hB6 hr6
            cases hc : takeB ⟨#[44]⟩ (.inr us) with
            | false =>
              obtain ⟨e1, e2⟩ := HL.out.stop hc
              rw [hc, takeB_false hc] at HT
              replace HT : Hid _ := hid HT
              have E1 : Hid _ := hid e1
              have E2 : Hid _ := hid e2
              clear e1 e2 HL hc hr7
              go_wp2_with fail
              refine Calls.mono HT.out ?_
              rintro e w8 ⟨rfl, hr8, hb8⟩
              have hB8 := hB7.trans hb8
              have hO8 := hO7.but hb8 hgl
              clear HT hb8 hB7
              go_wp2
              go_ret
              refine ⟨ao', n', c', rfl, hB8, by rw [E1.out]; exact hr8, fun l r e => ?_⟩
              obtain ⟨h1, h2⟩ := E2.out l r e
              exact OwnR.row (e := eTag) hO8 h1 (by simp) (fun b hb _ => hb) fun i a b => h2 i a b
            | true =>
              obtain ⟨tt, ts, hS, -, hT⟩ := takeB_true hc
              cases hS
              have HE' : Hid _ := hid (HL.out.next shr_tag hc)
              rw [hc, hT] at HT
              replace HT : Hid _ := hid HT
              clear HL hc hr7 hT
              go_wp2_with fail
              refine Calls.mono HT.out ?_
              rintro e w8 ⟨rfl, hr8, hb8⟩
              have hB8 := hB7.trans hb8
              have hO8 := hO7.but hb8 hgl
              have hm8 := hr8.sz
              clear HT hb8 hB7
              go_wp2
              go_roundw
              case rel => exact ⟨.inr ts, css ++ [[.int .u16 (IntKind.u16.wrap t2)]], hr8, hB8, hO8, by simp only [List.length_append, List.length_singleton, szS] at *; simp only [List.length_cons] at hcs'; omega, HE'⟩
              case measure =>
                have hm9 : szF g w8 = ts.length := hm8
                simp only [List.length_cons] at hm'
                omega
    · have g3 : (t0 != 3) = true := by simpa using h3
      obtain ⟨y, e1, e2⟩ := tagA hr2 ht h3
      have HR : Hid _ := hid (HE.out.bad e2)
      have HF : Hid _ := hid (fFail_any hr2 5 (by decide))
      rw [e1] at HF
      clear HE hr2 ht e1 e2 h3
      go_wp2_with fail
      refine Calls.mono HF.out ?_
      rintro e w3 ⟨rfl, hr3, hb3⟩
      have hB3 := hB2.trans hb3
      obtain ⟨b', o', N', c', n', all', d', hx, -, -, hg3, -⟩ := hr3.bad
      obtain ⟨k0, k1, k2, k3, k4⟩ := hg3.cells
      have g4 : (y.2 != 0) = true := by simpa using hx
      have hgl3 := hr3.lt
      clear HF hb3 hB2 hg3
      go_wp2
      go_ret
      exact ⟨ao, n0, c0, rfl, hB3, by rw [HR.out]; exact hr3, fun l r e => by rw [HR.out] at e; cases e⟩

end Go.Proofs.YtjlmcnbmhgabpaaGreat

/- Statements that the document's reader fills. -/
namespace Go.Proofs.YtjlmcnbmhgabpaaGreat
open Go.RowKit
set_option linter.unusedVariables false

theorem Rf.set13 {w : World} {g : Nat} {S : Sa} {d : Nat} (h : Rf w g S d) {b : Nat} (hb : g < b) (s : Sv) : Rf (set13 w b s) g S d := (((((((((((((h.other hb 0 _).other hb 1 _).other hb 2 _).other hb 3 _).other hb 4 _).other hb 5 _).other hb 6 _).other hb 7 _).other hb 8 _).other hb 9 _).other hb 10 _).other hb 11 _).other hb 12 _)
def TfS (g : Nat) (w : World) (R : Re Sm) (e : Ending) (w' : World) : Prop :=
  ∃ s, e = .returned (stV s) ∧ But g w w' ∧ Rf w' g (stO R) 0 ∧ ∀ m r, R = .inr (m, r) → IsS (fun b => w.heap.size ≤ b) w' m s ∧ s.inn = (none, 0, 0)
def TfF (g : Nat) (w : World) (R : Re Sf) (e : Ending) (w' : World) : Prop :=
  ∃ s, e = .returned (stV s) ∧ But g w w' ∧ Rf w' g (stO R) 0 ∧ ∀ m r, R = .inr (m, r) → IsS (fun b => w.heap.size ≤ b) w' m.1 s ∧ RowIs eStmt (fun b => w.heap.size ≤ b) w' (slV s.inn) m.2
/-- Nothing but blocks g and q is turned. -/
structure Bu (g q : Nat) (w w' : World) : Prop where
  os : w'.os = w.os
  tape : w'.tape = w.tape
  output : w'.output = w.output
  size : w.heap.size ≤ w'.heap.size
  block : ∀ k, k < w.heap.size → k ≠ g → k ≠ q → w'.heap[k]? = w.heap[k]?
theorem Bu.refl (g q : Nat) (w : World) : Bu g q w w := ⟨rfl, rfl, rfl, Nat.le_refl _, fun _ _ _ _ => rfl⟩
theorem Bu.trans {g q : Nat} {a b c : World} (h : Bu g q a b) (k : Bu g q b c) : Bu g q a c :=
  ⟨k.os.trans h.os, k.tape.trans h.tape, k.output.trans h.output, Nat.le_trans h.size k.size, fun i hi hg hq => (k.block i (Nat.lt_of_lt_of_le hi h.size) hg hq).trans (h.block i hi hg hq)⟩
theorem Bu.of {g q : Nat} {w w' : World} (h : But g w w') : Bu g q w w' := ⟨h.os, h.tape, h.output, h.size, fun k hk hg _ => h.block k hk hg⟩
theorem Bu.set (g q o : Nat) (w : World) (v : Value) : Bu g q w (w.setCell ⟨q, o, none⟩ v) := ⟨rfl, rfl, rfl, by simp [World.setCell], fun k _ _ hk => Below.heap_setCell _ _ _ _ hk⟩
theorem Bu.put {g q : Nat} {w w' : World} (h : Bu g q w w') (o : Nat) (v : Value) : Bu g q w (w'.setCell ⟨q, o, none⟩ v) := h.trans (Bu.set g q o w' v)
theorem Bu.on {g q : Nat} {w w1 w2 : World} (h : Bu g q w w1) (k : But g w1 w2) : Bu g q w w2 := h.trans (Bu.of k)
theorem Bu.but {g q : Nat} {w w1 w2 : World} (h : But g w w1) (k : Bu g q w1 w2) (hq : w.heap.size ≤ q) : But g w w2 :=
  ⟨k.os.trans h.os, k.tape.trans h.tape, k.output.trans h.output, Nat.le_trans h.size k.size, fun i hi hg => (k.block i (Nat.lt_of_lt_of_le hi h.size) hg (by omega)).trans (h.block i hi hg)⟩
theorem Bu.keepB {g q : Nat} {w w' : World} (h : Bu g q w w') {b : Nat} {s : Sv} (hx : Bs w b s) (h1 : b ≠ g) (h2 : b ≠ q) : Bs w' b s := hx.keep (h.block b hx.lt h1 h2)
theorem Bs.set0 {w : World} {b : Nat} {s : Sv} (h : Bs w b s) (v : Int) : Bs (w.setCell ⟨b, 0, none⟩ (.int .i64 v)) b { s with k := v } := ⟨by simp [World.setCell, Array.getElem?_modify, h.row]⟩

/-- A statement is being filled, in block q; its result's block is as it was. -/
structure Jn (g q : Nat) (w : World) (R : Re Sm) (w1 : World) (s : Sv) : Prop where
  but : But g w w1
  rf : Rf w1 g (stO R) 0
  lo : w.heap.size < q
  box : Bs w1 q s
  zero : Bs w1 w.heap.size (zS 0)
  is : ∀ m r, R = .inr (m, r) → IsS (fun b => w.heap.size + 1 ≤ b ∧ b ≠ q) w1 m s ∧ s.inn = (none, 0, 0)
theorem Jn.conv {g q : Nat} {w : World} {R R' : Re Sm} {w1 : World} {s : Sv} (h : Jn g q w R w1 s) (e : R' = R) : Jn g q w R' w1 s := e ▸ h
theorem Jn.start {g : Nat} {w w1 : World} {S : Sa} (hB : But g w w1) (hr : Rf w1 g S 0) (z : Bs w1 w.heap.size (zS 0)) (k : Int) : Jn g w1.heap.size w (startR k S) (w1.alloc (.cells #[.int .i64 (zS k).k, .string (zS k).tb, .string (zS k).nm, .slice (zS k).co.1 (zS k).co.2.1 (zS k).co.2.2, .slice (zS k).ta.1 (zS k).ta.2.1 (zS k).ta.2.2, .slice (zS k).va.1 (zS k).va.2.1 (zS k).va.2.2, .slice (zS k).it.1 (zS k).it.2.1 (zS k).it.2.2, .string (zS k).jn, .slice (zS k).on.1 (zS k).on.2.1 (zS k).on.2.2, .slice (zS k).wh.1 (zS k).wh.2.1 (zS k).wh.2.2, .slice (zS k).od.1 (zS k).od.2.1 (zS k).od.2.2, .bool (zS k).ds, .slice (zS k).inn.1 (zS k).inn.2.1 (zS k).inn.2.2] 29)) (zS k) := by
  refine ⟨hB.alloc _, by rw [start_st]; exact hr.alloc _, z.lt, Bs.new w1 (zS k), z.later (bal (Below.refl _ _) _), fun m r e => ?_⟩
  cases S with
  | inl x => cases e
  | inr ts => cases e; exact ⟨IsS.zero _ _ k, rfl⟩
theorem Jn.want {g q : Nat} {w : World} {R : Re Sm} {w1 w2 : World} {s : Sv} (h : Jn g q w R w1 s) (hg : g < w.heap.size) {t : ByteArray} (hr : Rf w2 g (wantS t (stO R)) 0) (hb : But g w1 w2) : Jn g q w (wantR t R) w2 s := by
  have hl := h.lo
  refine ⟨h.but.trans hb, by rw [stO_wantR]; exact hr, h.lo, h.box.but hb (by omega), h.zero.but hb (by omega), fun m r e => ?_⟩
  obtain ⟨r', e'⟩ := wantR_inr e
  exact ⟨(h.is m r' e').1.keep fun b hq hlt => hb.block b hlt (by omega), (h.is m r' e').2⟩
theorem Jn.take {g q : Nat} {w : World} {R : Re Sm} {w1 w2 : World} {s : Sv} (h : Jn g q w R w1 s) (hg : g < w.heap.size) {t : ByteArray} (hr : Rf w2 g (takeS t (stO R)) 0) (hb : But g w1 w2) : Jn g q w (takeR t R) w2 s := by
  have hl := h.lo
  refine ⟨h.but.trans hb, by rw [take_st]; exact hr, h.lo, h.box.but hb (by omega), h.zero.but hb (by omega), fun m r e => ?_⟩
  obtain ⟨m', q', e1, e2⟩ := thenR_inr e
  cases e2
  exact ⟨(h.is m q' e1).1.keep fun b hq hlt => hb.block b hlt (by omega), (h.is m q' e1).2⟩
theorem Jn.same {g q : Nat} {w : World} {R : Re Sm} {w1 w2 : World} {s : Sv} (h : Jn g q w R w1 s) (hg : g < w.heap.size) (hr : Rf w2 g (stO R) 0) (hb : But g w1 w2) : Jn g q w R w2 s := by
  have hl := h.lo
  exact ⟨h.but.trans hb, hr, h.lo, h.box.but hb (by omega), h.zero.but hb (by omega), fun m r e => ⟨(h.is m r e).1.keep fun b hq hlt => hb.block b hlt (by omega), (h.is m r e).2⟩⟩
/-- A field is filled, by whatever road. -/
theorem Jn.fill {α : Type} {g q : Nat} {w : World} {R : Re Sm} {w1 w2 : World} {s s' : Sv} (h : Jn g q w R w1 s) (hg : g < w.heap.size) {P : List Tk → Re α} {f : Sm → α → Sm} (hb : Bu g q w1 w2) (hr : Rf w2 g (stO (runP P (stO R))) 0) (hx : Bs w2 q s')
    (hi : ∀ m x q' r, R = .inr (m, q') → runP P (stO R) = .inr (x, r) → IsS (fun b => w.heap.size + 1 ≤ b ∧ b ≠ q) w2 m s → s.inn = (none, 0, 0) → IsS (fun b => w.heap.size + 1 ≤ b ∧ b ≠ q) w2 (f m x) s' ∧ s'.inn = (none, 0, 0)) :
    Jn g q w (fillR P f R) w2 s' := by
  have hl := h.lo
  refine ⟨Bu.but h.but hb (by omega), by rw [fill_st]; exact hr, h.lo, hx, hb.keepB h.zero (by omega) (by omega), fun m r e => ?_⟩
  obtain ⟨m0, q', x, e1, e2, rfl⟩ := fill_inr e
  have h0 := h.is m0 q' e1
  exact hi m0 x q' r e1 e2 (h0.1.keep fun b hq hlt => hb.block b hlt (by omega) (by omega)) h0.2
/-- A field is filled by what a call told. -/
theorem Jn.put {α : Type} {g q : Nat} {w : World} {R : Re Sm} {w1 w2 : World} {s s' : Sv} (h : Jn g q w R w1 s) (hg : g < w.heap.size) {P : List Tk → Re α} {f : Sm → α → Sm} {i : Nat} {v : Value} (hb : But g w1 w2) (hr : Rf w2 g (stO (runP P (stO R))) 0)
    (hx : Bs w2 q s → Bs (w2.setCell ⟨q, i, none⟩ v) q s')
    (hi : ∀ m x q' r, R = .inr (m, q') → runP P (stO R) = .inr (x, r) → IsS (fun b => w.heap.size + 1 ≤ b ∧ b ≠ q) (w2.setCell ⟨q, i, none⟩ v) m s → s.inn = (none, 0, 0) → IsS (fun b => w.heap.size + 1 ≤ b ∧ b ≠ q) (w2.setCell ⟨q, i, none⟩ v) (f m x) s' ∧ s'.inn = (none, 0, 0)) :
    Jn g q w (fillR P f R) (w2.setCell ⟨q, i, none⟩ v) s' := by
  have hl := h.lo
  exact h.fill hg ((Bu.of hb).put i v) (hr.other (by omega) _ _) (hx (h.box.but hb (by omega))) hi
/-- What is new behind the box is kept while the box is filled. -/
theorem row_put {α : Type} {e : Ek α} (he : 0 < e.k) {w : World} {v : Value} {l : List α} {B q : Nat} (hq : q < B) (i : Nat) (u : Value) (a : Nat) (ha : a + 1 ≤ B) (h : RowIs e (fun b => B ≤ b) w v l) : RowIs e (fun b => a + 1 ≤ b ∧ b ≠ q) (w.setCell ⟨q, i, none⟩ u) v l :=
  (h.keep he fun b hb _ => Below.heap_setCell _ _ _ _ (by show b ≠ q; omega)).mono he fun b hb _ => ⟨by omega, by omega⟩
theorem Jn.tb {g q : Nat} {w : World} {R : Re Sm} {w1 w2 : World} {s : Sv} (h : Jn g q w R w1 s) (hg : g < w.heap.size) {x : ByteArray} (hb : But g w1 w2) (hr : Rf w2 g (stO (runP nameP (stO R))) 0) (hu : ∀ u r, runP nameP (stO R) = .inr (u, r) → x = u) :
    Jn g q w (fillR nameP up_tb R) (w2.setCell ⟨q, 1, none⟩ (.string x)) { s with tb := x } :=
  h.put hg hb hr (fun hx => hx.set1 _) fun m u q r _ e his hin => ⟨{ his with tb := hu u r e }, hin⟩
theorem Jn.nm {g q : Nat} {w : World} {R : Re Sm} {w1 w2 : World} {s : Sv} (h : Jn g q w R w1 s) (hg : g < w.heap.size) {x : ByteArray} (hb : But g w1 w2) (hr : Rf w2 g (stO (runP nameP (stO R))) 0) (hu : ∀ u r, runP nameP (stO R) = .inr (u, r) → x = u) :
    Jn g q w (fillR nameP up_nm R) (w2.setCell ⟨q, 2, none⟩ (.string x)) { s with nm := x } :=
  h.put hg hb hr (fun hx => hx.set2 _) fun m u q r _ e his hin => ⟨{ his with nm := hu u r e }, hin⟩
theorem Jn.jn {g q : Nat} {w : World} {R : Re Sm} {w1 w2 : World} {s : Sv} (h : Jn g q w R w1 s) (hg : g < w.heap.size) {x : ByteArray} (hb : But g w1 w2) (hr : Rf w2 g (stO (runP nameP (stO R))) 0) (hu : ∀ u r, runP nameP (stO R) = .inr (u, r) → x = u) :
    Jn g q w (fillR nameP up_jn R) (w2.setCell ⟨q, 7, none⟩ (.string x)) { s with jn := x } :=
  h.put hg hb hr (fun hx => hx.set7 _) fun m u q r _ e his hin => ⟨{ his with jn := hu u r e }, hin⟩
theorem Jn.co {g q : Nat} {w : World} {R : Re Sm} {w1 w2 : World} {s : Sv} (h : Jn g q w R w1 s) (hg : g < w.heap.size) {P : List Tk → Re (List Co)} {v : Sl} (hb : But g w1 w2) (hr : Rf w2 g (stO (runP P (stO R))) 0) (hu : ∀ u r, runP P (stO R) = .inr (u, r) → RowIs eCol (fun b => w1.heap.size ≤ b) w2 (slV v) u) :
    Jn g q w (fillR P up_co R) (w2.setCell ⟨q, 3, none⟩ (slV v)) { s with co := v } :=
  h.put hg hb hr (fun hx => hx.set3 _) fun m u q r _ e his hin => ⟨{ his with co := row_put (by decide) h.box.lt 3 _ _ (by have := h.zero.lt; omega) (hu u r e) }, hin⟩
theorem Jn.ta {g q : Nat} {w : World} {R : Re Sm} {w1 w2 : World} {s : Sv} (h : Jn g q w R w1 s) (hg : g < w.heap.size) {P : List Tk → Re (List Int)} {v : Sl} (hb : But g w1 w2) (hr : Rf w2 g (stO (runP P (stO R))) 0) (hu : ∀ u r, runP P (stO R) = .inr (u, r) → RowIs eTag (fun b => w1.heap.size ≤ b) w2 (slV v) u) :
    Jn g q w (fillR P up_ta R) (w2.setCell ⟨q, 4, none⟩ (slV v)) { s with ta := v } :=
  h.put hg hb hr (fun hx => hx.set4 _) fun m u q r _ e his hin => ⟨{ his with ta := row_put (by decide) h.box.lt 4 _ _ (by have := h.zero.lt; omega) (hu u r e) }, hin⟩
theorem Jn.va {g q : Nat} {w : World} {R : Re Sm} {w1 w2 : World} {s : Sv} (h : Jn g q w R w1 s) (hg : g < w.heap.size) {P : List Tk → Re (List Tr)} {v : Sl} (hb : But g w1 w2) (hr : Rf w2 g (stO (runP P (stO R))) 0) (hu : ∀ u r, runP P (stO R) = .inr (u, r) → RowIs eExpr (fun b => w1.heap.size ≤ b) w2 (slV v) u) :
    Jn g q w (fillR P up_va R) (w2.setCell ⟨q, 5, none⟩ (slV v)) { s with va := v } :=
  h.put hg hb hr (fun hx => hx.set5 _) fun m u q r _ e his hin => ⟨{ his with va := row_put (by decide) h.box.lt 5 _ _ (by have := h.zero.lt; omega) (hu u r e) }, hin⟩
theorem Jn.it {g q : Nat} {w : World} {R : Re Sm} {w1 w2 : World} {s : Sv} (h : Jn g q w R w1 s) (hg : g < w.heap.size) {P : List Tk → Re (List It)} {v : Sl} (hb : But g w1 w2) (hr : Rf w2 g (stO (runP P (stO R))) 0) (hu : ∀ u r, runP P (stO R) = .inr (u, r) → RowIs eItem (fun b => w1.heap.size ≤ b) w2 (slV v) u) :
    Jn g q w (fillR P up_it R) (w2.setCell ⟨q, 6, none⟩ (slV v)) { s with it := v } :=
  h.put hg hb hr (fun hx => hx.set6 _) fun m u q r _ e his hin => ⟨{ his with it := row_put (by decide) h.box.lt 6 _ _ (by have := h.zero.lt; omega) (hu u r e) }, hin⟩
theorem Jn.on {g q : Nat} {w : World} {R : Re Sm} {w1 w2 : World} {s : Sv} (h : Jn g q w R w1 s) (hg : g < w.heap.size) {P : List Tk → Re (List Tr)} {v : Sl} (hb : But g w1 w2) (hr : Rf w2 g (stO (runP P (stO R))) 0) (hu : ∀ u r, runP P (stO R) = .inr (u, r) → RowIs eExpr (fun b => w1.heap.size ≤ b) w2 (slV v) u) :
    Jn g q w (fillR P up_on R) (w2.setCell ⟨q, 8, none⟩ (slV v)) { s with on := v } :=
  h.put hg hb hr (fun hx => hx.set8 _) fun m u q r _ e his hin => ⟨{ his with on := row_put (by decide) h.box.lt 8 _ _ (by have := h.zero.lt; omega) (hu u r e) }, hin⟩
theorem Jn.wh {g q : Nat} {w : World} {R : Re Sm} {w1 w2 : World} {s : Sv} (h : Jn g q w R w1 s) (hg : g < w.heap.size) {P : List Tk → Re (List Tr)} {v : Sl} (hb : But g w1 w2) (hr : Rf w2 g (stO (runP P (stO R))) 0) (hu : ∀ u r, runP P (stO R) = .inr (u, r) → RowIs eExpr (fun b => w1.heap.size ≤ b) w2 (slV v) u) :
    Jn g q w (fillR P up_wh R) (w2.setCell ⟨q, 9, none⟩ (slV v)) { s with wh := v } :=
  h.put hg hb hr (fun hx => hx.set9 _) fun m u q r _ e his hin => ⟨{ his with wh := row_put (by decide) h.box.lt 9 _ _ (by have := h.zero.lt; omega) (hu u r e) }, hin⟩
theorem Jn.od {g q : Nat} {w : World} {R : Re Sm} {w1 w2 : World} {s : Sv} (h : Jn g q w R w1 s) (hg : g < w.heap.size) {P : List Tk → Re (List Tr)} {v : Sl} (hb : But g w1 w2) (hr : Rf w2 g (stO (runP P (stO R))) 0) (hu : ∀ u r, runP P (stO R) = .inr (u, r) → RowIs eExpr (fun b => w1.heap.size ≤ b) w2 (slV v) u) :
    Jn g q w (fillR P up_od R) (w2.setCell ⟨q, 10, none⟩ (slV v)) { s with od := v } :=
  h.put hg hb hr (fun hx => hx.set10 _) fun m u q r _ e his hin => ⟨{ his with od := row_put (by decide) h.box.lt 10 _ _ (by have := h.zero.lt; omega) (hu u r e) }, hin⟩
theorem Jn.ds {g q : Nat} {w : World} {R : Re Sm} {w1 w2 : World} {s : Sv} (h : Jn g q w R w1 s) (hg : g < w.heap.size) {P : List Tk → Re Bool} {x : Bool} (hb : But g w1 w2) (hr : Rf w2 g (stO (runP P (stO R))) 0) (hu : ∀ u r, runP P (stO R) = .inr (u, r) → x = u) :
    Jn g q w (fillR P up_ds R) (w2.setCell ⟨q, 11, none⟩ (.bool x)) { s with ds := x } :=
  h.put hg hb hr (fun hx => hx.set11 _) fun m u q r _ e his hin => ⟨{ his with ds := hu u r e }, hin⟩
theorem Jn.it0 {g q : Nat} {w : World} {R : Re Sm} {w1 : World} {s : Sv} (h : Jn g q w R w1 s) (hs : s.it = (none, 0, 0)) : Jn g q w (fillR (fun ts => .inr ([], ts)) up_it R) w1 s := by
  refine ⟨h.but, by rw [fill_st]; have := h.rf; cases R <;> exact this, h.lo, h.box, h.zero, fun m r e => ?_⟩
  obtain ⟨m0, q', x, e1, e2, rfl⟩ := fill_inr e
  rw [e1] at e2
  cases e2
  exact ⟨{ (h.is m0 q' e1).1 with it := by rw [hs]; exact RowIs.nil _ _ _ }, (h.is m0 q' e1).2⟩
theorem Jn.jo0 {g q : Nat} {w : World} {R : Re Sm} {w1 : World} {s : Sv} (h : Jn g q w R w1 s) (hb : takeB ⟨#[106, 111, 105, 110]⟩ (stO R) = false) (hs : s.jn = ⟨#[]⟩) (ho : s.on = (none, 0, 0)) : Jn g q w (fillR joinP up_jo R) w1 s := by
  obtain ⟨q1, q2⟩ := opt_false (z := ((⟨#[]⟩, []) : ByteArray × List Tr)) (P := seqP Prod.mk nameP onP) hb
  refine ⟨h.but, by rw [fill_st, joinP, q1]; exact h.rf, h.lo, h.box, h.zero, fun m r e => ?_⟩
  obtain ⟨m0, q', x, e1, e2, rfl⟩ := fill_inr e
  have := q2 x r e2
  subst this
  exact ⟨{ (h.is m0 q' e1).1 with jn := hs, on := by rw [ho]; exact RowIs.nil _ _ _ }, (h.is m0 q' e1).2⟩
theorem Jn.oo0 {g q : Nat} {w : World} {R : Re Sm} {w1 : World} {s : Sv} (h : Jn g q w R w1 s) (hb : takeB ⟨#[111, 114, 100, 101, 114]⟩ (stO R) = false) (hs : s.ds = false) (ho : s.od = (none, 0, 0)) : Jn g q w (fillR ordP up_oo R) w1 s := by
  obtain ⟨q1, q2⟩ := opt_false (z := (([], false) : List Tr × Bool)) (P := seqP Prod.mk orderP descP) hb
  refine ⟨h.but, by rw [fill_st, ordP, q1]; exact h.rf, h.lo, h.box, h.zero, fun m r e => ?_⟩
  obtain ⟨m0, q', x, e1, e2, rfl⟩ := fill_inr e
  have := q2 x r e2
  subst this
  exact ⟨{ (h.is m0 q' e1).1 with ds := hs, od := by rw [ho]; exact RowIs.nil _ _ _ }, (h.is m0 q' e1).2⟩
theorem TfS.fin2 {g : Nat} {w w1 : World} {R : Re Sm} {s : Sv} (hg : g < w.heap.size) (hB : But g w w1) (hr : Rf w1 g (stO R) 0)
    (hx : ∀ m r, R = .inr (m, r) → IsS (fun b => w.heap.size + 1 ≤ b) w1 m s ∧ s.inn = (none, 0, 0)) : TfS g w R (.returned (stV s)) (set13 w1 w.heap.size s) := by
  refine ⟨s, rfl, hB.set13 (Nat.le_refl _) s, hr.set13 hg s, fun m r e => ?_⟩
  obtain ⟨h1, h2⟩ := hx m r e
  exact ⟨(h1.keep fun b hq hlt => set13_heap _ _ _ (by omega)).mono fun b hb _ => by omega, h2⟩
theorem TfF.fin {g : Nat} {w w1 : World} {R : Re Sf} {s : Sv} (hg : g < w.heap.size) (hB : But g w w1) (hr : Rf w1 g (stO R) 0)
    (hx : ∀ m r, R = .inr (m, r) → IsS (fun b => w.heap.size + 1 ≤ b) w1 m.1 s ∧ RowIs eStmt (fun b => w.heap.size + 1 ≤ b) w1 (slV s.inn) m.2) : TfF g w R (.returned (stV s)) (set13 w1 w.heap.size s) := by
  refine ⟨s, rfl, hB.set13 (Nat.le_refl _) s, hr.set13 hg s, fun m r e => ?_⟩
  obtain ⟨h1, h2⟩ := hx m r e
  exact ⟨(h1.keep fun b hq hlt => set13_heap _ _ _ (by omega)).mono fun b hb _ => by omega, (h2.keep (by decide) fun b hq hlt => set13_heap _ _ _ (by omega)).mono (by decide) fun b hb _ => by omega⟩
theorem TfS.fin {g q : Nat} {w w1 : World} {R R' : Re Sm} {s : Sv} (hR : R = R') (hg : g < w.heap.size) (h : Jn g q w R' w1 s) : TfS g w R (.returned (stV s)) (set13 w1 w.heap.size s) := by
  subst hR
  exact TfS.fin2 hg h.but h.rf fun m r e => ⟨(h.is m r e).1.mono fun b hb _ => hb.1, (h.is m r e).2⟩
/-- A statement alone, where those that stand in it are told, too. -/
theorem TfF.plain {g q : Nat} {w w1 : World} {P : List Tk → Re Sm} {S : Sa} {R : Re Sf} {R' : Re Sm} {s : Sv} (hR : R = runP (plain P) S) (hP : runP P S = R') (hg : g < w.heap.size) (h : Jn g q w R' w1 s) : TfF g w R (.returned (stV s)) (set13 w1 w.heap.size s) := by
  rw [plain_run, hP] at hR
  subst hR
  refine TfF.fin hg h.but (by rw [stO_mapR]; exact h.rf) fun m r e => ?_
  obtain ⟨u, e2, rfl⟩ := mapR_inr e
  obtain ⟨h1, h2⟩ := h.is u r e2
  exact ⟨h1.mono fun b hb _ => hb.1, by rw [h2]; exact RowIs.nil _ _ _⟩
/-- The result's block, and all else, behind some takes. -/
structure Wf (g : Nat) (w w1 : World) (S : Sa) : Prop where
  but : But g w w1
  rf : Rf w1 g S 0
  zero : Bs w1 w.heap.size (zS 0)
theorem Wf.lt {g : Nat} {w w1 : World} {S : Sa} (h : Wf g w w1 S) : w.heap.size + 1 ≤ w1.heap.size := by have := h.zero.lt; omega
theorem Wf.start {g : Nat} {w : World} {S : Sa} (h : Rf w g S 0) : Wf g w (w.alloc (.cells #[.int .i64 0, .string ⟨#[]⟩, .string ⟨#[]⟩, .slice none 0 0, .slice none 0 0, .slice none 0 0, .slice none 0 0, .string ⟨#[]⟩, .slice none 0 0, .slice none 0 0, .slice none 0 0, .bool false, .slice none 0 0] 29)) S := ⟨(But.refl g w).alloc _, h.alloc _, Bs.new w (zS 0)⟩
theorem Wf.on {g : Nat} {w w1 w2 : World} {S S' : Sa} (h : Wf g w w1 S) (hg : g < w.heap.size) (hr : Rf w2 g S' 0) (hb : But g w1 w2) : Wf g w w2 S' := ⟨h.but.trans hb, hr, h.zero.but hb (by omega)⟩
theorem Wf.jn {g : Nat} {w w1 : World} {S : Sa} (h : Wf g w w1 S) (k : Int) : Jn g w1.heap.size w (startR k S) (w1.alloc (.cells #[.int .i64 (zS k).k, .string (zS k).tb, .string (zS k).nm, .slice (zS k).co.1 (zS k).co.2.1 (zS k).co.2.2, .slice (zS k).ta.1 (zS k).ta.2.1 (zS k).ta.2.2, .slice (zS k).va.1 (zS k).va.2.1 (zS k).va.2.2, .slice (zS k).it.1 (zS k).it.2.1 (zS k).it.2.2, .string (zS k).jn, .slice (zS k).on.1 (zS k).on.2.1 (zS k).on.2.2, .slice (zS k).wh.1 (zS k).wh.2.1 (zS k).wh.2.2, .slice (zS k).od.1 (zS k).od.2.1 (zS k).od.2.2, .bool (zS k).ds, .slice (zS k).inn.1 (zS k).inn.2.1 (zS k).inn.2.2] 29)) (zS k) := Jn.start h.but h.rf h.zero k
/-- A statement whose table is told as it is begun. -/
theorem Wf.jtb {g : Nat} {w w1 w2 : World} {S : Sa} (h : Wf g w w1 S) (hg : g < w.heap.size) {x : ByteArray} (hb : But g w1 w2) (hr : Rf w2 g (stO (runP nameP S)) 0) (hu : ∀ u r, runP nameP S = .inr (u, r) → x = u) (k : Int) :
    Jn g w2.heap.size w (fillR nameP up_tb (startR k S)) (w2.alloc (.cells #[.int .i64 ({ zS k with tb := x } : Sv).k, .string ({ zS k with tb := x } : Sv).tb, .string ({ zS k with tb := x } : Sv).nm, .slice ({ zS k with tb := x } : Sv).co.1 ({ zS k with tb := x } : Sv).co.2.1 ({ zS k with tb := x } : Sv).co.2.2, .slice ({ zS k with tb := x } : Sv).ta.1 ({ zS k with tb := x } : Sv).ta.2.1 ({ zS k with tb := x } : Sv).ta.2.2, .slice ({ zS k with tb := x } : Sv).va.1 ({ zS k with tb := x } : Sv).va.2.1 ({ zS k with tb := x } : Sv).va.2.2, .slice ({ zS k with tb := x } : Sv).it.1 ({ zS k with tb := x } : Sv).it.2.1 ({ zS k with tb := x } : Sv).it.2.2, .string ({ zS k with tb := x } : Sv).jn, .slice ({ zS k with tb := x } : Sv).on.1 ({ zS k with tb := x } : Sv).on.2.1 ({ zS k with tb := x } : Sv).on.2.2, .slice ({ zS k with tb := x } : Sv).wh.1 ({ zS k with tb := x } : Sv).wh.2.1 ({ zS k with tb := x } : Sv).wh.2.2, .slice ({ zS k with tb := x } : Sv).od.1 ({ zS k with tb := x } : Sv).od.2.1 ({ zS k with tb := x } : Sv).od.2.2, .bool ({ zS k with tb := x } : Sv).ds, .slice ({ zS k with tb := x } : Sv).inn.1 ({ zS k with tb := x } : Sv).inn.2.1 ({ zS k with tb := x } : Sv).inn.2.2] 29)) { zS k with tb := x } := by
  have z := h.zero.but hb (by omega)
  refine ⟨(h.but.trans hb).alloc _, by rw [fill_st, start_st]; exact hr.alloc _, z.lt, Bs.new w2 _, z.later (bal (Below.refl _ _) _), fun m r e => ?_⟩
  obtain ⟨m0, q', y, e1, e2, rfl⟩ := fill_inr e
  rw [start_st] at e2
  cases S with
  | inl _ => cases e1
  | inr ts =>
    cases e1
    exact ⟨{ IsS.zero _ _ k with tb := hu y r e2 }, rfl⟩
theorem Wf.tes {g : Nat} {w w1 w2 : World} {S : Sa} {P : List Tk → Re Sm} {R : Re Sm} {s : Sv} (h : Wf g w w1 S) (hg : g < w.heap.size) (hR : R = runP P S) (hb : But g w1 w2) (hr : Rf w2 g (stO (runP P S)) 0)
    (hx : ∀ m r, runP P S = .inr (m, r) → IsS (fun b => w1.heap.size ≤ b) w2 m s ∧ s.inn = (none, 0, 0)) : TfS g w R (.returned (stV s)) (set13 w2 w.heap.size s) := by
  subst hR
  exact TfS.fin2 hg (h.but.trans hb) hr fun m r e => ⟨(hx m r e).1.mono fun b hb _ => by have := h.lt; omega, (hx m r e).2⟩
theorem Wf.tef {g : Nat} {w w1 w2 : World} {S : Sa} {P : List Tk → Re Sf} {R : Re Sf} {s : Sv} (h : Wf g w w1 S) (hg : g < w.heap.size) (hR : R = runP P S) (hb : But g w1 w2) (hr : Rf w2 g (stO (runP P S)) 0)
    (hx : ∀ m r, runP P S = .inr (m, r) → IsS (fun b => w1.heap.size ≤ b) w2 m.1 s ∧ RowIs eStmt (fun b => w1.heap.size ≤ b) w2 (slV s.inn) m.2) : TfF g w R (.returned (stV s)) (set13 w2 w.heap.size s) := by
  subst hR
  exact TfF.fin hg (h.but.trans hb) hr fun m r e => ⟨(hx m r e).1.mono fun b hb _ => by have := h.lt; omega, (hx m r e).2.mono (by decide) fun b hb _ => by have := h.lt; omega⟩
theorem Wf.teg {g : Nat} {w w1 w2 : World} {S : Sa} {P : List Tk → Re Sm} {R : Re Sf} {s : Sv} (h : Wf g w w1 S) (hg : g < w.heap.size) (hR : R = runP (plain P) S) (hb : But g w1 w2) (hr : Rf w2 g (stO (runP P S)) 0)
    (hx : ∀ m r, runP P S = .inr (m, r) → IsS (fun b => w1.heap.size ≤ b) w2 m s ∧ s.inn = (none, 0, 0)) : TfF g w R (.returned (stV s)) (set13 w2 w.heap.size s) := by
  refine h.tef (P := plain P) hg hR hb (by rw [plain_run, stO_mapR]; exact hr) fun m r e => ?_
  rw [plain_run] at e
  obtain ⟨u, e2, rfl⟩ := mapR_inr e
  obtain ⟨h1, h2⟩ := hx u r e2
  exact ⟨h1, by rw [h2]; exact RowIs.nil _ _ _⟩

/-- A row that lies in a field of the statement is told, from the world where it was begun. -/
theorem OwnR.bu {ty k B g q : Nat} {w w' : World} {v : Value} {css : List (List Value)} (h : OwnR ty k B w v css) (hb : Bu g q w w') (hg : g < B) (hq : q < B) : OwnR ty k B w' v css := by
  refine ⟨h.1, h.2.1, ?_⟩
  rcases h.2.2 with k | ⟨b, cap, cur, hv, hg', hh, r⟩
  · exact .inl k
  · exact .inr ⟨b, cap, cur, hv, hg', by rw [hb.block b (Array.getElem?_eq_some_iff.1 hh).1 (by omega) (by omega)]; exact hh, r⟩
theorem Bu.grown {g q B : Nat} {w w3 w4 : World} {row : Option Nat} (h : Bu g q w w3) (hg : w3.grownBy w4 row) (hrow : ∀ k, row = some k → w.heap.size ≤ k) : Bu g q w w4 :=
  ⟨hg.os.trans h.os, hg.tape.trans h.tape, hg.output.trans h.output, Nat.le_trans h.size hg.size, fun k hk hgk hqk => (hg.block k (Nat.lt_of_lt_of_le hk h.size) (fun e => by have := hrow k e.symm; omega)).trans (h.block k hk hgk hqk)⟩
theorem Bs.grown {w3 w4 : World} {row : Option Nat} {b : Nat} {s : Sv} (h : Bs w3 b s) (hg : w3.grownBy w4 row) (hrow : ∀ k, row = some k → b < k) : Bs w4 b s :=
  h.keep (hg.block b h.lt (fun e => by have := hrow b e.symm; omega))

end Go.Proofs.YtjlmcnbmhgabpaaGreat

