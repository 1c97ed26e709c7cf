/- The walks of itemOf, item, on, order. -/
import Derived.Test.YtjlmcnbmhgabpaaGreatPo1
namespace Go.Proofs.YtjlmcnbmhgabpaaGreat
open Go.RowKit
set_option linter.unusedVariables false

set_option maxRecDepth 100000 in
set_option maxHeartbeats 1000000 in
theorem pItemOf_any (k o : Int) (p : Pay) (sl : Value) (w : World) :
    Calls Tryz.prog 117 #[.int .i64 k, exV o p sl] w fun e w' => e = .returned (.agg #[.int .i64 k, .string p.2.2.2.1, .string p.2.2.2.2]) ∧ Below w.heap.size w w' := by
  obtain ⟨k1, i1, t1, b1, m1⟩ := p
  unfold exV
  go_enter Tryz.func117, Tryz.ntmps117
  go_wp2
  refine bodyPost_ret (v := .agg #[.int .i64 k, .string b1, .string m1]) (by simp [results, Tryz.results117, go_sem]) rfl ⟨rfl, ?_⟩
  exact bal (bal (Below.refl _ _) _) _
theorem ex_item {Q : Nat → Prop} {w : World} {t : Tr} {o : Int} {p : Pay} {a : Option Addr} {n c : Nat} (h : Ex Q w t (exV o p (.slice a n c))) (k : Int) : itemC k t = (k, p.2.2.2.1, p.2.2.2.2) := by
  cases t with
  | nil => exact h.elim
  | node x op q l r =>
    obtain ⟨ao, n', c', hv, _⟩ := h
    simp only [exV, Value.agg.injEq, Array.mk.injEq, List.cons.injEq, Value.int.injEq, Value.string.injEq, true_and] at hv
    rw [itemC, hv.2.2.2.2.1, hv.2.2.2.2.2.1]
theorem item_count {S : Sa} (h : takeB ⟨#[99, 111, 117, 110, 116]⟩ S = true) : runP itemP S = runP (seqP (fun _ _ => ((1, ⟨#[]⟩, ⟨#[]⟩) : It)) (wantU ⟨#[40]⟩) (seqP (fun _ _ => ()) (wantU ⟨#[42]⟩) (wantU ⟨#[41]⟩))) (takeS ⟨#[99, 111, 117, 110, 116]⟩ S) := by
  match S with
  | .inl x => cases h
  | .inr ts =>
    have h' : isTk ⟨#[99, 111, 117, 110, 116]⟩ ts = true := h
    show itemP ts = runP _ (if isTk ⟨#[99, 111, 117, 110, 116]⟩ ts then .inr ts.tail else .inr ts)
    rw [itemP, if_pos h', if_pos h']
    rfl
theorem item_col {S : Sa} (h : takeB ⟨#[99, 111, 117, 110, 116]⟩ S = false) (h2 : oneB opsAgg S = 0) : runP itemP S = mapR (itemC 0) (runP columnP S) := by
  match S with
  | .inl x => rfl
  | .inr ts =>
    have h' : isTk ⟨#[99, 111, 117, 110, 116]⟩ ts = false := h
    have h2' : oneOf opsAgg ts = 0 := h2
    show itemP ts = _
    rw [itemP, if_neg (by rw [h']; simp), if_pos h2']
    rfl
theorem opsAgg_pos : ∀ c ∈ opsAgg, 0 < c.2 := by decide
theorem item_agg {S : Sa} (h : takeB ⟨#[99, 111, 117, 110, 116]⟩ S = false) (h2 : oneB opsAgg S ≠ 0) : runP itemP S = runP (seqP (fun _ x => itemC (oneB opsAgg S) x) (wantU ⟨#[40]⟩) (seqP (fun x _ => x) columnP (wantU ⟨#[41]⟩))) (oneS opsAgg S) := by
  match S with
  | .inl x => rfl
  | .inr ts =>
    have h' : isTk ⟨#[99, 111, 117, 110, 116]⟩ ts = false := h
    have h2' : oneOf opsAgg ts ≠ 0 := h2
    rw [(oneOf_some opsAgg_pos h2').1]
    show itemP ts = _
    rw [itemP, if_neg (by rw [h']; simp), if_neg h2']
    rfl
theorem opsAgg_cw (w : World) : Cw (w.alloc (.cells #[.string ⟨#[115, 117, 109]⟩, .int .i64 2, .string ⟨#[109, 105, 110]⟩, .int .i64 3, .string ⟨#[109, 97, 120]⟩, .int .i64 4] 131)) w.heap.size opsAgg := by
  intro i hi
  have hi' : i < 3 := hi
  match i, hi' with
  | 0, _ => simp [go_sem, opsAgg]
  | 1, _ => simp [go_sem, opsAgg]
  | 2, _ => simp [go_sem, opsAgg]
theorem pAggs {g : Nat} {S : Sa} {d : Nat} {w : World} (h : Rp w g S d) {b : Nat} (hb : w.heap.size = b := by rfl) :
    Calls Tryz.prog 116 #[.pointer (some ⟨g, 0, none⟩), .slice (some ⟨b, 0, none⟩) 3 3] (w.alloc (.cells #[.string ⟨#[115, 117, 109]⟩, .int .i64 2, .string ⟨#[109, 105, 110]⟩, .int .i64 3, .string ⟨#[109, 97, 120]⟩, .int .i64 4] 131)) fun x w' => x = .returned (.int .i64 (oneB opsAgg S)) ∧ Rp w' g (oneS opsAgg S) d ∧ But g w w' := by
  subst hb
  have hgl := h.lt
  refine Calls.mono (pOneOf_any (b := w.heap.size) (h.alloc (.cells #[.string ⟨#[115, 117, 109]⟩, .int .i64 2, .string ⟨#[109, 105, 110]⟩, .int .i64 3, .string ⟨#[109, 97, 120]⟩, .int .i64 4] 131)) opsAgg (by decide) (by omega) (opsAgg_cw w)) ?_
  rintro x w' ⟨h1, h2, h3⟩
  exact ⟨h1, h2, h3.behind⟩
theorem pWant3 {g : Nat} {S : Sa} {d : Nat} {w : World} (h : Rp w g S d) (s1 s2 s3 : ByteArray) {b : Nat} (hb : w.heap.size = b := by rfl) :
    Calls Tryz.prog 81 #[.pointer (some ⟨g, 0, none⟩), .slice (some ⟨b, 0, none⟩) 3 3] (w.alloc (.cells #[.string s1, .string s2, .string s3] 9)) fun x w' => x = .returned (.tuple #[]) ∧ Rp w' g (wantS s3 (wantS s2 (wantS s1 S))) d ∧ But g w w' := by
  subst hb
  have hgl := h.lt
  refine Calls.mono (pWant_any (b := w.heap.size) (h.alloc (.cells #[.string s1, .string s2, .string s3] 9)) [s1, s2, s3] (by simp) (by omega) (by
    intro i hi
    have hi' : i < 3 := hi
    match i, hi' with
    | 0, _ => simp [go_sem]
    | 1, _ => simp [go_sem]
    | 2, _ => simp [go_sem])) ?_
  rintro x w' ⟨h1, h2, h3⟩
  exact ⟨h1, h2, h3.behind⟩

set_option maxRecDepth 100000 in
set_option maxHeartbeats 2000000 in
theorem pItem_any {g : Nat} {S : Sa} {w : World} (h : Rp w g S 0) : Calls Tryz.prog 83 #[.pointer (some ⟨g, 0, none⟩)] w (TeItem g w (runP itemP S)) := by
  have hgl := h.lt
  have b0 := Bt.new w 58 (.int .i64 0) (.string ⟨#[]⟩) (.string ⟨#[]⟩)
  have HT := pTake_any (h.alloc (.cells #[.int .i64 0, .string ⟨#[]⟩, .string ⟨#[]⟩] 58)) ⟨#[99, 111, 117, 110, 116]⟩
  cases hb : takeB ⟨#[99, 111, 117, 110, 116]⟩ S with
  | true =>
    have e1 := item_count hb
    have e2 := seq_st (fun _ _ => ((1, ⟨#[]⟩, ⟨#[]⟩) : It)) (wantU ⟨#[40]⟩) (seqP (fun _ _ => ()) (wantU ⟨#[42]⟩) (wantU ⟨#[41]⟩)) (takeS ⟨#[99, 111, 117, 110, 116]⟩ S)
    rw [← e1, seq_st, wantU_st, wantU_st, wantU_st] at e2
    have E1 : Hid _ := hid e1
    have E2 : Hid _ := hid e2
    rw [hb] at HT
    replace HT : Hid _ := hid HT
    generalize runP itemP S = R at *
    clear hb e1 e2 h
    go_enter Tryz.func83, Tryz.ntmps83
    go_wp2_with fail
    refine Calls.mono HT.out ?_
    rintro e w1 ⟨rfl, hr1, hb1⟩
    have hB1 : But g w w1 := hb1.behind
    have z1 := b0.but hb1 (by omega)
    have H2 : Hid _ := hid (pWant3 hr1 ⟨#[40]⟩ ⟨#[42]⟩ ⟨#[41]⟩)
    clear HT hb1 b0 hr1
    go_wp2_with fail
    refine Calls.mono H2.out ?_
    rintro e w2 ⟨rfl, hr2, hb2⟩
    have hB2 := hB1.trans hb2
    have z2 := z1.but hb2 (by omega)
    obtain ⟨m0, m1, m2⟩ := z2.cells
    obtain ⟨n0, n1, n2⟩ := z2.free
    clear H2 hb2 z1 z2 hB1
    go_wp2
    refine bodyPost_ret (v := .agg #[.int .i64 1, .string ⟨#[]⟩, .string ⟨#[]⟩]) (by simp [results, Tryz.results83, go_sem, m0, m1, m2]) rfl (TeItem.fin hgl hB2 (by rw [E2.out]; exact hr2) fun t r e => ?_)
    rw [E1.out] at e
    obtain ⟨_, _, _, _, _, rfl⟩ := seq_inr e
    rfl
  | false =>
    rw [hb, takeB_false hb] at HT
    replace HT : Hid _ := hid HT
    have E0 : Hid _ := hid (item_col hb)
    have E9 : Hid _ := hid (item_agg hb)
    generalize runP itemP S = R at *
    clear hb h
    go_enter Tryz.func83, Tryz.ntmps83
    go_wp2_with fail
    refine Calls.mono HT.out ?_
    rintro e w1 ⟨rfl, hr1, hb1⟩
    have hB1 : But g w w1 := hb1.behind
    have z1 := b0.but hb1 (by omega)
    have H2 : Hid _ := hid (pAggs hr1)
    clear HT hb1 b0 hr1
    go_wp2_with fail
    refine Calls.mono H2.out ?_
    rintro e w2 ⟨rfl, hr2, hb2⟩
    have hB2 := hB1.trans hb2
    have z2 := z1.but hb2 (by omega)
    clear H2 hb2 z1 hB1
    by_cases hk : oneB opsAgg S = 0
    · have E1 : Hid _ := hid (E0.out hk)
      have hS : oneS opsAgg S = S := by
        match S, hk with
        | .inl x, _ => rfl
        | .inr ts, hk => exact oneOf_zero opsAgg_pos hk
      rw [hS] at hr2
      rw [hk]
      have HC : Hid _ := hid (pColumn_any hr2)
      clear E0 E9 hk hS
      go_wp2_with fail
      refine Calls.mono HC.out ?_
      rintro e w3 ⟨o3, p3, a3, l3, c3, rfl, hb3, hr3, hx3⟩
      have HI : Hid _ := hid (pItemOf_any 0 o3 p3 (.slice a3 l3 c3) w3)
      have hB3 := hB2.trans hb3
      have z3 := z2.but hb3 (by omega)
      unfold exV at HI ⊢
      clear HC hb3 z2 hB2 hr2
      go_wp2_with fail
      refine Calls.mono HI.out ?_
      rintro e w4 ⟨rfl, hb4⟩
      have hB4 := hB3.later hb4
      have hr4 := hr3.later hb4
      have z4 := z3.later hb4
      obtain ⟨m0, m1, m2⟩ := z4.cells
      obtain ⟨n0, n1, n2⟩ := z4.free
      clear HI hb4 z3 z4 hB3
      go_wp2
      refine bodyPost_ret (v := .agg #[.int .i64 0, .string p3.2.2.2.1, .string p3.2.2.2.2]) (by simp [results, Tryz.results83, go_sem, m0, m1, m2]) rfl (TeItem.fin hgl hB4 (by rw [E1.out, stO_mapR]; exact hr4) fun t r e => ?_)
      rw [E1.out] at e
      obtain ⟨u, e2, rfl⟩ := mapR_inr e
      rw [ex_item (hx3 u r e2)]
    · have e1 := E9.out hk
      have e2 := seq_st (fun _ x => itemC (oneB opsAgg S) x) (wantU ⟨#[40]⟩) (seqP (fun x _ => x) columnP (wantU ⟨#[41]⟩)) (oneS opsAgg S)
      rw [← e1, seq_st, wantU_st, wantU_st] at e2
      have E1 : Hid _ := hid e1
      have E2 : Hid _ := hid e2
      have gk : (oneB opsAgg S == 0) = false := by simpa using hk
      have H3 : Hid _ := hid (pWant1 hr2 ⟨#[40]⟩)
      clear E0 E9 hk e1 e2 hr2
      generalize oneB opsAgg S = kk at *
      go_wp2_with fail
      refine Calls.mono H3.out ?_
      rintro e w3 ⟨rfl, hr3, hb3⟩
      have hB3 := hB2.trans hb3
      have z3 := z2.but hb3 (by omega)
      have HC : Hid _ := hid (pColumn_any hr3)
      clear H3 hb3 z2 hB2 hr3
      go_wp2_with fail
      refine Calls.mono HC.out ?_
      rintro e w4 ⟨o4, p4, a4, l4, c4, rfl, hb4, hr4, hx4⟩
      have HI : Hid _ := hid (pItemOf_any kk o4 p4 (.slice a4 l4 c4) w4)
      have hB4 := hB3.trans hb4
      have z4 := z3.but hb4 (by omega)
      unfold exV at HI ⊢
      clear HC hb4 z3 hB3
      go_wp2_with fail
      refine Calls.mono HI.out ?_
      rintro e w5 ⟨rfl, hb5⟩
      have hB5 := (hB4.later hb5).alloc (.cells #[.int .i64 kk, .string p4.2.2.2.1, .string p4.2.2.2.2] 58)
      have hr5 := (hr4.later hb5).alloc (.cells #[.int .i64 kk, .string p4.2.2.2.1, .string p4.2.2.2.2] 58)
      have z5 := (z4.later hb5).later (bal (Below.refl _ w5) (.cells #[.int .i64 kk, .string p4.2.2.2.1, .string p4.2.2.2.2] 58))
      have x5 := Bt.new w5 58 (.int .i64 kk) (.string p4.2.2.2.1) (.string p4.2.2.2.2)
      have hsz : w.heap.size < w5.heap.size := (z4.later hb5).lt
      have H6 : Hid _ := hid (pWant1 hr5 ⟨#[41]⟩ (World.size_alloc _ _))
      clear HI hb5 z4 hB4 hr4 hr5
      go_wp2_with fail
      refine Calls.mono H6.out ?_
      rintro e w6 ⟨rfl, hr6, hb6⟩
      have hB6 := hB5.trans hb6
      have z6 := z5.but hb6 (by omega)
      have x6 := x5.but hb6 (by omega)
      obtain ⟨c0, c1, c2⟩ := x6.cells
      obtain ⟨m0, m1, m2⟩ := z6.cells
      obtain ⟨n0, n1, n2⟩ := z6.free
      clear H6 hb6 z5 x5 x6 z6 hB5
      go_wp2
      refine bodyPost_ret (v := .agg #[.int .i64 kk, .string p4.2.2.2.1, .string p4.2.2.2.2]) (by simp [results, Tryz.results83, go_sem, m0, m1, m2]) rfl (TeItem.fin hgl hB6 (by rw [E2.out]; exact hr6) fun t r e => ?_)
      rw [E1.out] at e
      obtain ⟨_, x, q, _, h2, rfl⟩ := seq_inr e
      obtain ⟨x', _, q', h3, _, rfl⟩ := seq_inr h2
      rw [wantU_st] at h3
      rw [ex_item (hx4 _ _ h3)]

theorem on_st (S : Sa) : stO (runP onP S) = stO (runP columnP (wantS ⟨#[61]⟩ (stO (runP columnP (wantS ⟨#[111, 110]⟩ S))))) := by rw [onP, seq_st, wantU_st, seq_st, seq_st, wantU_st]
theorem on_inr {S : Sa} {l : List Tr} {r : List Tk} (h : runP onP S = .inr (l, r)) : ∃ a b q, runP columnP (wantS ⟨#[111, 110]⟩ S) = .inr (a, q) ∧ runP columnP (wantS ⟨#[61]⟩ (stO (runP columnP (wantS ⟨#[111, 110]⟩ S)))) = .inr (b, r) ∧ l = [a, b] := by
  obtain ⟨_, l', q, _, h2, rfl⟩ := seq_inr h
  obtain ⟨a, b, q2, h3, h4, rfl⟩ := seq_inr h2
  obtain ⟨_, b', q3, _, h6, rfl⟩ := seq_inr h4
  rw [wantU_st] at h3 h6
  rw [wantU_st] at h6
  exact ⟨a, b, q2, h3, h6, rfl⟩
/-- A slice of two expressions, new. -/
theorem row_two (w : World) (t u : Tr) (o : Int) (p : Pay) (a : Option Addr) (m c : Nat) (o' : Int) (p' : Pay) (a' : Option Addr) (m' c' : Nat) (Q : Nat → Prop) (hq : Q w.heap.size) (h : Ex Q w t (exV o p (.slice a m c))) (k : Ex Q w u (exV o' p' (.slice a' m' c'))) :
    RowIs eExpr Q (w.alloc (.cells #[.int .i64 o, .int .i64 p.1, .int .i64 p.2.1, .string p.2.2.1, .string p.2.2.2.1, .string p.2.2.2.2, .slice a m c, .int .i64 o', .int .i64 p'.1, .int .i64 p'.2.1, .string p'.2.2.1, .string p'.2.2.2.1, .string p'.2.2.2.2, .slice a' m' c'] 80)) (.slice (some ⟨w.heap.size, 0, none⟩) 2 2) [t, u] := by
  refine ⟨_, 2, 2, rfl, rfl, Nat.le_refl _, by omega, fun _ => ⟨w.heap.size, 0, rfl, hq, fun i hi => ?_⟩⟩
  have hi' : i < 2 := hi
  match i, hi' with
  | 0, _ =>
    refine ⟨exC o p (.slice a m c), ⟨o, p, a, m, c, rfl, h.later (bal (Below.refl _ w) _)⟩, rfl, fun j hj => ?_⟩
    have hj' : j < 7 := hj
    match j, hj' with
    | 0, _ => exact cell_new w _ _ _ 0
    | 1, _ => exact cell_new w _ _ _ 1
    | 2, _ => exact cell_new w _ _ _ 2
    | 3, _ => exact cell_new w _ _ _ 3
    | 4, _ => exact cell_new w _ _ _ 4
    | 5, _ => exact cell_new w _ _ _ 5
    | 6, _ => exact cell_new w _ _ _ 6
  | 1, _ =>
    refine ⟨exC o' p' (.slice a' m' c'), ⟨o', p', a', m', c', rfl, k.later (bal (Below.refl _ w) _)⟩, rfl, fun j hj => ?_⟩
    have hj' : j < 7 := hj
    match j, hj' with
    | 0, _ => exact cell_new w _ _ _ 7
    | 1, _ => exact cell_new w _ _ _ 8
    | 2, _ => exact cell_new w _ _ _ 9
    | 3, _ => exact cell_new w _ _ _ 10
    | 4, _ => exact cell_new w _ _ _ 11
    | 5, _ => exact cell_new w _ _ _ 12
    | 6, _ => exact cell_new w _ _ _ 13

set_option maxRecDepth 100000 in
set_option maxHeartbeats 2000000 in
theorem pOn_any {g : Nat} {S : Sa} {w : World} (h : Rp w g S 0) : Calls Tryz.prog 84 #[.pointer (some ⟨g, 0, none⟩)] w (TeL eExpr g w (runP onP S)) := by
  have hgl := h.lt
  have H1 : Hid _ := hid (pWant1 h ⟨#[111, 110]⟩)
  have ES : Hid _ := hid (on_st S)
  have EI : Hid _ := hid fun l r (e : runP onP S = .inr (l, r)) => on_inr e
  generalize runP onP S = R at *
  clear h
  go_enter Tryz.func84, Tryz.ntmps84
  go_wp2_with fail
  refine Calls.mono H1.out ?_
  rintro e w1 ⟨rfl, hr1, hb1⟩
  have hsz1 := hb1.size
  have H2 : Hid _ := hid (pColumn_any hr1)
  clear H1 hr1
  go_wp2_with fail
  refine Calls.mono H2.out ?_
  rintro e w2 ⟨o2, p2, a2, l2, c2, rfl, hb2, hr2, hx2⟩
  have hB2 := hb1.trans hb2
  have hsz2 := hb2.size
  have hr3 := hr2.alloc (.cells #[.int .i64 o2, .int .i64 p2.1, .int .i64 p2.2.1, .string p2.2.2.1, .string p2.2.2.2.1, .string p2.2.2.2.2, .slice a2 l2 c2] 80)
  have hB3 := hB2.alloc (.cells #[.int .i64 o2, .int .i64 p2.1, .int .i64 p2.2.1, .string p2.2.2.1, .string p2.2.2.2.1, .string p2.2.2.2.2, .slice a2 l2 c2] 80)
  have x3 := Be.new w2 o2 p2 (.slice a2 l2 c2)
  have HX3 : Hid (∀ t r, runP columnP (wantS ⟨#[111, 110]⟩ S) = .inr (t, r) → Ex (fun b => w.heap.size ≤ b) (w2.alloc (.cells #[.int .i64 o2, .int .i64 p2.1, .int .i64 p2.2.1, .string p2.2.2.1, .string p2.2.2.2.1, .string p2.2.2.2.2, .slice a2 l2 c2] 80)) t (exV o2 p2 (.slice a2 l2 c2))) :=
    hid fun t r e => ((hx2 t r e).mono fun k hk _ => by omega).later (bal (Below.refl _ w2) _)
  have H4 : Hid _ := hid (pWant1 hr3 ⟨#[61]⟩ (World.size_alloc _ _))
  have hq : w.heap.size ≤ w2.heap.size := by omega
  clear H2 hr2 hx2 hb1 hb2 hB2 hr3
  unfold exV
  go_wp2_with fail
  refine Calls.mono H4.out ?_
  rintro e w4 ⟨rfl, hr4, hb4⟩
  have hB4 := hB3.trans hb4
  have x4 := x3.but hb4 (by omega)
  have hsz4 : w2.heap.size < w4.heap.size := by have := hb4.size; simp at this; omega
  have HX4 : Hid _ := hid fun t r e => (HX3.out t r e).but hb4 (by omega)
  obtain ⟨k0, k1, k2, k3, k4, k5, k6⟩ := x4.cells
  rw [Nat.zero_add] at k1 k2 k3 k4 k5 k6
  generalize w2.heap.size = q at *
  have HC : Hid _ := hid (pColumn_any hr4.drew)
  have hxd : Be w4.drew q o2 p2 (.slice a2 l2 c2) := x4.keep rfl
  have hBd : But g w w4.drew := hB4.dr
  have hgd : w4.drew.heap.size = w4.heap.size := rfl
  clear H4 hb4 HX3 x3 hB3
  go_upto_region 4 with fail
  go_region_with (first
    | (refine Calls.mono HC.out ?_; rintro e z1 ⟨o5, p5, a5, l5, c5, rfl, hb1, hr1, hx1⟩; have y1 := hxd.but hb1 (by omega); obtain ⟨j0, j1, j2, j3, j4, j5, j6⟩ := y1.cells; rw [Nat.zero_add] at j1 j2 j3 j4 j5 j6; unfold exV))
  all_goals
    have hB5 := hBd.trans hb1
    have hz1 := hb1.size
    have HN : Hid (∀ l r, R = .inr (l, r) → ∃ t u, l = [t, u] ∧ Ex (fun b => w.heap.size ≤ b) z1 t (exV o2 p2 (.slice a2 l2 c2)) ∧ Ex (fun b => w.heap.size ≤ b) z1 u (exV o5 p5 (.slice a5 l5 c5))) := hid fun l r e => by
      obtain ⟨t, u, q', e1, e2, rfl⟩ := EI.out l r e
      exact ⟨t, u, rfl, (Ex.keep (w := w4) (w' := w4.drew) (fun _ _ _ => rfl) (HX4.out t q' e1)).but hb1 (by omega), (hx1 u r e2).mono fun k hk _ => by omega⟩
    clear HC HX4 hxd hBd y1 hb1 hx1 x4
    go_wp2
    go_ret
    refine ⟨_, 2, 2, rfl, hB5.alloc _, by rw [ES.out]; exact hr1.alloc _, fun l r e => ?_⟩
    obtain ⟨t, u, rfl, h1, h2⟩ := HN.out l r e
    exact row_two z1 t u o2 p2 a2 l2 c2 o5 p5 a5 l5 c5 _ (by omega) h1 h2

theorem order_st (S : Sa) : stO (runP orderP S) = stO (runP columnP (wantS ⟨#[98, 121]⟩ S)) := by rw [orderP, seq_st, wantU_st, map_run, stO_mapR]
theorem order_inr {S : Sa} {l : List Tr} {r : List Tk} (h : runP orderP S = .inr (l, r)) : ∃ a, runP columnP (wantS ⟨#[98, 121]⟩ S) = .inr (a, r) ∧ l = [a] := by
  obtain ⟨_, l', q, _, h2, rfl⟩ := seq_inr h
  rw [wantU_st, map_run] at h2
  obtain ⟨a, h3, h4⟩ := mapR_inr h2
  exact ⟨a, h3, h4⟩
set_option maxRecDepth 100000 in
set_option maxHeartbeats 2000000 in
theorem pOrder_any {g : Nat} {S : Sa} {w : World} (h : Rp w g S 0) : Calls Tryz.prog 87 #[.pointer (some ⟨g, 0, none⟩)] w (TeL eExpr g w (runP orderP S)) := by
  have hgl := h.lt
  have H1 : Hid _ := hid (pWant1 h ⟨#[98, 121]⟩)
  have ES : Hid _ := hid (order_st S)
  have EI : Hid _ := hid fun l r (e : runP orderP S = .inr (l, r)) => order_inr e
  generalize runP orderP S = R at *
  clear h
  go_enter Tryz.func87, Tryz.ntmps87
  go_wp2_with fail
  refine Calls.mono H1.out ?_
  rintro e w1 ⟨rfl, hr1, hb1⟩
  have hsz1 := hb1.size
  have H2 : Hid _ := hid (pColumn_any hr1)
  clear H1 hr1
  go_wp2_with fail
  refine Calls.mono H2.out ?_
  rintro e w2 ⟨o2, p2, a2, l2, c2, rfl, hb2, hr2, hx2⟩
  have hB2 := hb1.trans hb2
  have hsz2 := hb2.size
  clear H2 hb1 hb2
  unfold exV
  go_wp2
  go_ret
  refine ⟨_, 1, 1, rfl, hB2.alloc _, by rw [ES.out]; exact hr2.alloc _, fun l r e => ?_⟩
  obtain ⟨u, e2, rfl⟩ := EI.out l r e
  exact row_one w2 u o2 p2 a2 l2 c2 _ (by omega) ((hx2 u r e2).mono fun b hb _ => by omega)

end Go.Proofs.YtjlmcnbmhgabpaaGreat
