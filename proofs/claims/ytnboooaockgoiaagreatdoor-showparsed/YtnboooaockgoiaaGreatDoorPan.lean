import Derived.Test.YtnboooaockgoiaaGreatDoorPam
namespace Go.Proofs.YtnboooaockgoiaaGreatDoor
open Go.RowKit
set_option linter.unusedVariables false

theorem want_start (t : ByteArray) (k : Int) (S : Sa) : wantR t (startR k S) = startR k (wantS t S) := by
  match S with
  | .inl x => rfl
  | .inr ts =>
    show (if isTk t ts then (.inr (sm k, ts.tail) : Re Sm) else .inl (atOf ts, 5)) = startR k (if isTk t ts then .inr ts.tail else .inl (atOf ts, 5))
    split <;> rfl
theorem br_fill {α : Type} (P : List Tk → Re α) (f : Sm → List α → Sm) (R : Re Sm) : fillR (brP P) f R = wantR ⟨#[41]⟩ (fillR (listP P) f (wantR ⟨#[40]⟩ R)) := by
  match R with
  | .inl x => rfl
  | .inr (m, ts) =>
    have e1 : fillR (brP P) f (.inr (m, ts)) = mapR (f m) (thenR (wantU ⟨#[40]⟩ ts) fun _ r => mapR (fun l => l) (thenR (listP P r) fun l r' => mapR (fun _ => l) (wantU ⟨#[41]⟩ r'))) := rfl
    have e2 : wantR ⟨#[40]⟩ (.inr (m, ts)) = if isTk ⟨#[40]⟩ ts then (.inr (m, ts.tail) : Re Sm) else .inl (atOf ts, 5) := rfl
    rw [e1, e2, wantU]
    by_cases h : isTk ⟨#[40]⟩ ts = true
    · rw [if_pos h, if_pos h]
      have e3 : (thenR (.inr ((), ts.tail) : Re Unit) fun _ r => mapR (fun l => l) (thenR (listP P r) fun l r' => mapR (fun _ => l) (wantU ⟨#[41]⟩ r'))) = mapR (fun l => l) (thenR (listP P ts.tail) fun l r' => mapR (fun _ => l) (wantU ⟨#[41]⟩ r')) := rfl
      have e4 : fillR (listP P) f (.inr (m, ts.tail)) = mapR (f m) (listP P ts.tail) := rfl
      rw [e3, e4]
      cases listP P ts.tail with
      | inl x => rfl
      | inr x =>
        show mapR (f m) (mapR (fun l => l) (mapR (fun _ => x.1) (wantU ⟨#[41]⟩ x.2))) = (if isTk ⟨#[41]⟩ x.2 then _ else _)
        rw [wantU]
        split <;> rfl
    · rw [if_neg h, if_neg h]
      rfl
theorem delete_run (S : Sa) : runP (dispP ⟨#[100, 101, 108, 101, 116, 101]⟩ deleteP failP) S = runP deleteP (wantS ⟨#[100, 101, 108, 101, 116, 101]⟩ S) := by
  match S with
  | .inl x => rfl
  | .inr ts =>
    show dispP ⟨#[100, 101, 108, 101, 116, 101]⟩ deleteP failP ts = runP deleteP (if isTk ⟨#[100, 101, 108, 101, 116, 101]⟩ ts then .inr ts.tail else .inl (atOf ts, 5))
    rw [dispP]
    split <;> rfl

set_option maxRecDepth 100000 in
set_option maxHeartbeats 8000000 in
theorem fWrites_any {g : Nat} {S : Sa} {w : World} (h : Rf w g S 0) : Calls Tryz.prog 76 #[.pointer (some ⟨g, 0, none⟩)] w (TfS g w (runP changeP S)) := by
  have hgl := h.lt
  have W0 := Wf.start h
  have HT := fTake_any W0.rf ⟨#[105, 110, 115, 101, 114, 116]⟩
  clear h
  cases hb : takeB ⟨#[105, 110, 115, 101, 114, 116]⟩ S with
  | true =>
    rw [hb] at HT
    replace HT : Hid _ := hid HT
    have e1 : runP changeP S = _ := disp_true hb
    rw [insertP_run, br_fill] at e1
    have HR : Hid _ := hid e1
    clear hb e1
    generalize takeS ⟨#[105, 110, 115, 101, 114, 116]⟩ S = S1 at *
    go_enter Tryz.func76, Tryz.ntmps76
    go_wp2_with fail
    refine Calls.mono HT.out ?_
    rintro e w1 ⟨rfl, hr1, hb1⟩
    have I1 : Jn g w1.heap.size w (startR 5 S1) (w1.alloc (.cells #[.int .i64 5, .string ⟨#[]⟩, .string ⟨#[]⟩, .slice none 0 0, .slice none 0 0, .slice none 0 0, .slice none 0 0, .string ⟨#[]⟩, .slice none 0 0, .slice none 0 0, .slice none 0 0, .bool false, .slice none 0 0] 48)) (zS 5) := (W0.on hgl hr1 hb1).jn 5
    clear HT hr1 hb1 W0
    have hqg : w1.heap.size ≠ g := by have := I1.lo; omega
    go_upto_region 3 with fail
    generalize w1.alloc (.cells #[.int .i64 5, .string ⟨#[]⟩, .string ⟨#[]⟩, .slice none 0 0, .slice none 0 0, .slice none 0 0, .slice none 0 0, .string ⟨#[]⟩, .slice none 0 0, .slice none 0 0, .slice none 0 0, .bool false, .slice none 0 0] 48) = wI at *
    generalize w1.heap.size = q at *
    have H2 : Hid _ := hid (fMust_any I1.rf ⟨#[105, 110, 116, 111]⟩)
    go_wp2_with fail
    refine Calls.mono H2.out ?_
    rintro e w2 ⟨rfl, hr2, hb2⟩
    have I2 := I1.want hgl hr2 hb2
    clear H2 hr2 hb2 I1
    have H3 : Hid _ := hid (fName_any I2.rf)
    go_wp2_with fail
    refine Calls.mono H3.out ?_
    rintro e w3 ⟨s3, rfl, hb3, hr3, hu3⟩
    have y3 := I2.box.but hb3 hqg
    have cy3 := y3.cells.2.1
    have fy3 := y3.free.2.1
    have yl3 := y3.lt
    have I3 := I2.tb hgl hb3 hr3 hu3
    clear H3 hr3 hb3 hu3 I2 y3
    have H4 : Hid _ := hid (fMust_any I3.rf ⟨#[118, 97, 108, 117, 101, 115]⟩)
    go_wp2_with fail
    refine Calls.mono H4.out ?_
    rintro e w4 ⟨rfl, hr4, hb4⟩
    have I4 := I3.want hgl hr4 hb4
    clear H4 hr4 hb4 I3
    have H5 : Hid _ := hid (fMust_any I4.rf ⟨#[40]⟩)
    go_wp2_with fail
    refine Calls.mono H5.out ?_
    rintro e w5 ⟨rfl, hr5, hb5⟩
    have I5 := I4.want hgl hr5 hb5
    clear H5 hr5 hb5 I4
    have hf0 := I5.rf.few
    have hbox := I5.box
    have hlo := I5.lo
    have hql : q < w5.heap.size := hbox.lt
    have hgq : g < q := by omega
    have HC : Hid _ := hid (fExpr_all (I5.rf.drew))
    have HLs : Hid (∀ (cs : List Value) (E : _ → List Value → Prop), (∀ t r, runP (exprP 64) (stO (wantR ⟨#[40]⟩ (wantR ⟨#[118, 97, 108, 117, 101, 115]⟩ (fillR nameP up_tb (wantR ⟨#[105, 110, 116, 111]⟩ (startR 5 S1)))))) = .inr (t, r) → E t cs) → LiR (exprP 64) (runP (listP (exprP 64)) (stO (wantR ⟨#[40]⟩ (wantR ⟨#[118, 97, 108, 117, 101, 115]⟩ (fillR nameP up_tb (wantR ⟨#[105, 110, 116, 111]⟩ (startR 5 S1))))))) (stO (runP (exprP 64) (stO (wantR ⟨#[40]⟩ (wantR ⟨#[118, 97, 108, 117, 101, 115]⟩ (fillR nameP up_tb (wantR ⟨#[105, 110, 116, 111]⟩ (startR 5 S1)))))))) [cs] E) := hid fun cs E k => LiR.start k
    have HRf : Hid _ := hid I5
    have hxd : Bs w5.drew q ({ zS 5 with tb := s3 } : Sv) := hbox.keep rfl
    have hgd : w5.drew.heap.size = w5.heap.size := rfl
    have kf : w5.cell? ⟨q, 5, none⟩ = some (.slice none 0 0) := hbox.cells.2.2.2.2.2.1
    clear I5
    generalize hS0 : stO (wantR ⟨#[40]⟩ (wantR ⟨#[118, 97, 108, 117, 101, 115]⟩ (fillR nameP up_tb (wantR ⟨#[105, 110, 116, 111]⟩ (startR 5 S1))))) = S0 at HC HLs hf0
    generalize hRR : runP (listP (exprP 64)) S0 = R1 at *
    go_upto_region 7 with fail
    go_cut [] (fun w' => ∃ (css : List (List Value)) (sl : Sl), Rf w' g (stO (runP (exprP 64) S0)) 0 ∧ Bu g q w5 w' ∧ Bs w' q { ({ zS 5 with tb := s3 } : Sv) with va := sl } ∧ OwnR 43 7 w5.heap.size w' (slV sl) css ∧ css ≠ [] ∧ css.length + szS (stO (runP (exprP 64) S0)) ≤ 501 ∧ Hid (LiR (exprP 64) R1 (stO (runP (exprP 64) S0)) css fun t cs => eExpr.E (fun b => w5.heap.size ≤ b ∧ some b ≠ (slV sl).ownBlock) w' t cs))
    case first =>
     go_region_law (first
       | (go_simp; refine Calls.mono HC.out ?_; rintro e z1 ⟨o1, p1, a1, l1, c1, rfl, hb1, hr1, hx1⟩; have y1 := hxd.but hb1 (by omega); have cy : z1.cell? ⟨q, 5, none⟩ = some (.slice none 0 0) := y1.cells.2.2.2.2.2.1; have hsz1 := hb1.size; have hyl := y1.lt; unfold exV; skip)
       | (refine step_appR (B := w5.heap.size) (by rfl) (.tmp 20) (.tmp 23) (by rfl) Tryz.underlying41 Tryz.infoTExpr rfl (by decide) (by decide) _ [] z1.heap.size [.int .i64 o1, .int .i64 p1.1, .int .i64 p1.2.1, .string p1.2.2.1, .string p1.2.2.2.1, .string p1.2.2.2.2, .slice a1 l1 c1] (by rfl) (by rfl) (OwnR.nil _ _ _ _) rfl (one_expr _ _ _ _ _) (new7 z1 _ _ _ _ _ _ _ _) (by simp) (by rw [World.size_alloc]; omega) ?_; intro v' w6 hO6 hg6 hown; obtain ⟨ao, n, c, rfl⟩ := hO6.sl; have hz6 := (y1.later (bal (Below.refl _ z1) (.cells #[.int .i64 o1, .int .i64 p1.1, .int .i64 p1.2.1, .string p1.2.2.1, .string p1.2.2.2.1, .string p1.2.2.2.2, .slice a1 l1 c1] 43))).grown hg6 (fun k e => by cases e); have cz : w6.cell? ⟨q, 5, none⟩ = some (.slice none 0 0) := hz6.cells.2.2.2.2.2.1; have fz := hz6.free.2.2.2.2.2.1; have hzl := hz6.lt))
     all_goals
       have hB6 : Bu g q w5 w6 := Bu.grown (B := 0) (Bu.of (show But g w5 (z1.alloc (.cells #[.int .i64 o1, .int .i64 p1.1, .int .i64 p1.2.1, .string p1.2.2.1, .string p1.2.2.2.1, .string p1.2.2.2.2, .slice a1 l1 c1] 43)) from ⟨(hb1.alloc (.cells #[.int .i64 o1, .int .i64 p1.1, .int .i64 p1.2.1, .string p1.2.2.1, .string p1.2.2.2.1, .string p1.2.2.2.2, .slice a1 l1 c1] 43)).os, (hb1.alloc (.cells #[.int .i64 o1, .int .i64 p1.1, .int .i64 p1.2.1, .string p1.2.2.1, .string p1.2.2.2.1, .string p1.2.2.2.2, .slice a1 l1 c1] 43)).tape, (hb1.alloc (.cells #[.int .i64 o1, .int .i64 p1.1, .int .i64 p1.2.1, .string p1.2.2.1, .string p1.2.2.2.1, .string p1.2.2.2.2, .slice a1 l1 c1] 43)).output, (hb1.alloc (.cells #[.int .i64 o1, .int .i64 p1.1, .int .i64 p1.2.1, .string p1.2.2.1, .string p1.2.2.2.1, .string p1.2.2.2.2, .slice a1 l1 c1] 43)).size, (hb1.alloc (.cells #[.int .i64 o1, .int .i64 p1.1, .int .i64 p1.2.1, .string p1.2.2.1, .string p1.2.2.2.1, .string p1.2.2.2.2, .slice a1 l1 c1] 43)).block⟩)) hg6 (fun k e => by cases e)
       have hr6 : Rf w6 g (stO (runP (exprP 64) S0)) 0 := (hr1.alloc (.cells #[.int .i64 o1, .int .i64 p1.1, .int .i64 p1.2.1, .string p1.2.2.1, .string p1.2.2.2.1, .string p1.2.2.2.2, .slice a1 l1 c1] 43)).grown hg6 (fun k e => by cases e)
       have hB7 := hB6.put 5 (.slice ao n c)
       have hr7 := hr6.other hgq 5 (.slice ao n c)
       have x7 := hz6.set5 (ao, n, c)
       have hO7 : OwnR 43 7 w5.heap.size (w6.setCell ⟨q, 5, none⟩ (.slice ao n c)) (slV (ao, n, c)) [[.int .i64 o1, .int .i64 p1.1, .int .i64 p1.2.1, .string p1.2.2.1, .string p1.2.2.2.1, .string p1.2.2.2.2, .slice a1 l1 c1]] := hO6.bu (Bu.set g q 5 w6 (.slice ao n c)) (by omega) hql
       have HE7 : Hid (LiR (exprP 64) R1 (stO (runP (exprP 64) S0)) [[.int .i64 o1, .int .i64 p1.1, .int .i64 p1.2.1, .string p1.2.2.1, .string p1.2.2.2.1, .string p1.2.2.2.2, .slice a1 l1 c1]] fun t cs => eExpr.E (fun b => w5.heap.size ≤ b ∧ some b ≠ (slV (ao, n, c)).ownBlock) (w6.setCell ⟨q, 5, none⟩ (.slice ao n c)) t cs) := hid (HLs.out _ _ fun t r e =>
         eExpr.keep (w := w6) (fun b hq hlt => Below.heap_setCell _ _ _ _ (by show b ≠ q; omega)) (eExpr.grow (row := none) (eExpr.keep (w := z1) (fun b hq hlt => (bal (Below.refl _ z1) _).block b hlt) (eExpr.mono (Q := fun b => w5.heap.size ≤ b) (fun b hq _ => ⟨hq, by simp⟩) (⟨o1, p1, a1, l1, c1, rfl, hx1 t r e⟩))) hg6 (by first | exact hown | simpa using hown)))
       have hc7 : ([[.int .i64 o1, .int .i64 p1.1, .int .i64 p1.2.1, .string p1.2.2.1, .string p1.2.2.2.1, .string p1.2.2.2.2, .slice a1 l1 c1]] : List (List Value)).length + szS (stO (runP (exprP 64) S0)) ≤ 501 := by
         have := hr7.few
         simp only [List.length_singleton]
         omega
       have hne7 : ([[.int .i64 o1, .int .i64 p1.1, .int .i64 p1.2.1, .string p1.2.2.1, .string p1.2.2.2.1, .string p1.2.2.2.2, .slice a1 l1 c1]] : List (List Value)) ≠ [] := by simp
       clear HC HLs hb1 hr1 hx1 hg6 hown y1 cy hB6 hr6 hO6 hz6 cz fz hzl hyl hsz1 hxd kf
       go_wp2_with fail
       go_meet
       exact ⟨_, (ao, n, c), hr7, hB7, x7, hO7, hne7, hc7, HE7⟩
    case rest =>
      obtain ⟨css0, sl0, hr7, hB7, x7, hO7, hne7, hc7, HE7⟩ := hcut
      clear HC HLs hxd kf
      go_wp2
      go_loopw [] (fun wr => ∃ (S1 : Sa) (css : List (List Value)) (sl : Sl), Rf wr g S1 0 ∧ Bu g q w5 wr ∧ Bs wr q { ({ zS 5 with tb := s3 } : Sv) with va := sl } ∧ OwnR 43 7 w5.heap.size wr (slV sl) css ∧ css ≠ [] ∧ css.length + szS S1 ≤ 501 ∧ Hid (LiR (exprP 64) R1 S1 css fun t cs => eExpr.E (fun b => w5.heap.size ≤ b ∧ some b ≠ (slV sl).ownBlock) wr t cs)) (fun wr => szF g wr)
      case atStart => exact ⟨stO (runP (exprP 64) S0), css0, sl0, hr7, hB7, x7, hO7, hne7, hc7, HE7⟩
      case round =>
        clear hr7 hB7 x7 hO7 hne7 hc7 HE7
        obtain ⟨S2, css, ⟨ao, n, c⟩, hr, hB, hx, ho, hne, hcs, HE⟩ := hrel
        have hm := hr.sz
        have HT := fTake_any hr ⟨#[44]⟩
        cases hb : takeB ⟨#[44]⟩ S2 with
        | false =>
          obtain ⟨e1, e2⟩ := HE.out.stop hb
          rw [hb, takeB_false hb, ← e1] at HT
          replace HT : Hid _ := hid HT
          have E2 : Hid _ := hid e2
          clear hb e1 e2 HE hm hr
          go_wp2_with fail
          refine Calls.mono HT.out ?_
          rintro e w9 ⟨rfl, hr9, hb9⟩
          have hB9 := hB.on hb9
          have x9 := hx.but hb9 (by omega)
          have ho9 := ho.but hb9 (by omega)
          have I9 := Jn.fill (P := listP (exprP 64)) (f := up_va) (s' := { ({ zS 5 with tb := s3 } : Sv) with va := (ao, n, c) }) HRf.out hgl hB9 (by rw [hS0, hRR]; exact hr9) x9 (fun m u q' r _ e his hin => ⟨{ his with va := (OwnR.row (e := eExpr) (Q := fun b => w5.heap.size ≤ b) ho9 (E2.out u r (by rw [← hRR, ← hS0]; exact e)).1 hne (fun b hb _ => hb) (fun i a b => eExpr.keep (fun b hb hlt => hb9.block b hlt (by omega)) (eExpr.mono (fun b hb _ => hb.1) ((E2.out u r (by rw [← hRR, ← hS0]; exact e)).2 i a b)))).mono (by decide) (fun b hb _ => ⟨by omega, by omega⟩) }, hin⟩)
          clear HT HRf E2 hb9 hB9 x9 ho9 hB hx ho hne hcs hr9 hS0 hRR hbox hf0
          have H10 : Hid _ := hid (fMust_any I9.rf ⟨#[41]⟩)
          go_wp2_with fail
          refine Calls.mono H10.out ?_
          rintro e w10 ⟨rfl, hr10, hb10⟩
          have I10 := I9.want hgl hr10 hb10
          clear H10 hr10 hb10 I9
          obtain ⟨sv, JJ⟩ : ∃ sv, Jn g q w _ _ sv := ⟨_, I10⟩
          have hjl := JJ.lo
          have hjb := JJ.box.lt
          have TT := TfS.fin HR.out hgl JJ
          obtain ⟨k0, k1, k2, k3, k4, k5, k6, k7, k8, k9, k10, k11, k12⟩ := JJ.box.cells
          obtain ⟨m0, m1, m2, m3, m4, m5, m6, m7, m8, m9, m10, m11, m12⟩ := JJ.zero.cells
          obtain ⟨n0, n1, n2, n3, n4, n5, n6, n7, n8, n9, n10, n11, n12⟩ := JJ.zero.free
          replace TT : Hid _ := hid TT
          clear I10 JJ HR
          go_wp2
          refine bodyPost_ret (v := stV sv) (by simp [results, Tryz.results76, go_sem, stV, m0, m1, m2, m3, m4, m5, m6, m7, m8, m9, m10, m11, m12]) rfl ?_
          exact TT.out
        | true =>
          obtain ⟨t, ts, rfl, ht, hT⟩ := takeB_true hb
          obtain ⟨hle, hgo⟩ := HE.out.go (shr_expr 64) hb
          rw [hb, hT] at HT
          replace HT : Hid _ := hid HT
          have HG : Hid _ := hid hgo
          have HS : Hid _ := hid hle
          have hm' : szF g wr = ts.length + 1 := hm
          have hcs' : css.length + (ts.length + 1) ≤ 501 := hcs
          clear hb hle hgo HE hT hr hm hcs
          go_wp2_with fail
          refine Calls.mono HT.out ?_
          rintro e w3 ⟨rfl, hr3, hb3⟩
          have hB3 := hB.on hb3
          have hx3 := hx.but hb3 (by omega)
          have ho3 := ho.but hb3 (by omega)
          have HC : Hid _ := hid (fExpr_all hr3.drew)
          have hxd : Bs w3.drew q { ({ zS 5 with tb := s3 } : Sv) with va := (ao, n, c) } := hx3.keep rfl
          have hod : OwnR 43 7 w5.heap.size w3.drew (slV (ao, n, c)) css := ⟨ho3.1, ho3.2⟩
          have hblk := ho3.blk
          have hgd3 : w3.drew.heap.size = w3.heap.size := rfl
          have hsw : w5.heap.size ≤ w3.heap.size := hB3.size
          have HE3 : Hid (∀ u ds, eExpr.E (fun b => w5.heap.size ≤ b ∧ some b ≠ (slV (ao, n, c)).ownBlock) wr u ds → eExpr.E (fun b => w5.heap.size ≤ b ∧ some b ≠ (slV (ao, n, c)).ownBlock) w3 u ds) := hid fun u ds hE => eExpr.keep (fun b hq hlt => hb3.block b hlt (by omega)) hE
          have kf : w3.cell? ⟨q, 5, none⟩ = some (.slice ao n c) := hx3.cells.2.2.2.2.2.1
          clear HT hr3 hb3 hB hx hx3 ho ho3
          go_upto_region 9 with fail
          go_region_law (first
            | (go_simp; refine Calls.mono HC.out ?_; rintro e z1 ⟨o1, p1, a1, l1, c1, rfl, hb1, hr1, hx1⟩; have y1 := hxd.but hb1 (by omega); have cy : z1.cell? ⟨q, 5, none⟩ = some (.slice ao n c) := y1.cells.2.2.2.2.2.1; have ho5 := (hod.but hb1 (by omega)).alloc (.cells #[.int .i64 o1, .int .i64 p1.1, .int .i64 p1.2.1, .string p1.2.2.1, .string p1.2.2.2.1, .string p1.2.2.2.2, .slice a1 l1 c1] 43); have hsz1 := hb1.size; have hyl := y1.lt; unfold exV; skip)
            | (refine step_appR (B := w5.heap.size) (by rfl) (.tmp 29) (.tmp 32) (by rfl) Tryz.underlying41 Tryz.infoTExpr rfl (by decide) (by decide) _ css z1.heap.size [.int .i64 o1, .int .i64 p1.1, .int .i64 p1.2.1, .string p1.2.2.1, .string p1.2.2.2.1, .string p1.2.2.2.2, .slice a1 l1 c1] (by rfl) (by rfl) ho5 rfl (one_expr _ _ _ _ _) (new7 z1 _ _ _ _ _ _ _ _) (by omega) (by rw [World.size_alloc]; omega) ?_; intro v' w6 hO6 hg6 hown; obtain ⟨ao', n', c', rfl⟩ := hO6.sl; have hz6 := (y1.later (bal (Below.refl _ z1) (.cells #[.int .i64 o1, .int .i64 p1.1, .int .i64 p1.2.1, .string p1.2.2.1, .string p1.2.2.2.1, .string p1.2.2.2.2, .slice a1 l1 c1] 43))).grown hg6 (fun k e => by have := (hblk k e).1; omega); have cz : w6.cell? ⟨q, 5, none⟩ = some (.slice ao n c) := hz6.cells.2.2.2.2.2.1; have fz := hz6.free.2.2.2.2.2.1; have hzl := hz6.lt))
          all_goals
            have hB6 : Bu g q w5 w6 := Bu.grown (B := 0) (hB3.on (show But g w3 (z1.alloc (.cells #[.int .i64 o1, .int .i64 p1.1, .int .i64 p1.2.1, .string p1.2.2.1, .string p1.2.2.2.1, .string p1.2.2.2.2, .slice a1 l1 c1] 43)) from ⟨(hb1.alloc (.cells #[.int .i64 o1, .int .i64 p1.1, .int .i64 p1.2.1, .string p1.2.2.1, .string p1.2.2.2.1, .string p1.2.2.2.2, .slice a1 l1 c1] 43)).os, (hb1.alloc (.cells #[.int .i64 o1, .int .i64 p1.1, .int .i64 p1.2.1, .string p1.2.2.1, .string p1.2.2.2.1, .string p1.2.2.2.2, .slice a1 l1 c1] 43)).tape, (hb1.alloc (.cells #[.int .i64 o1, .int .i64 p1.1, .int .i64 p1.2.1, .string p1.2.2.1, .string p1.2.2.2.1, .string p1.2.2.2.2, .slice a1 l1 c1] 43)).output, (hb1.alloc (.cells #[.int .i64 o1, .int .i64 p1.1, .int .i64 p1.2.1, .string p1.2.2.1, .string p1.2.2.2.1, .string p1.2.2.2.2, .slice a1 l1 c1] 43)).size, (hb1.alloc (.cells #[.int .i64 o1, .int .i64 p1.1, .int .i64 p1.2.1, .string p1.2.2.1, .string p1.2.2.2.1, .string p1.2.2.2.2, .slice a1 l1 c1] 43)).block⟩)) hg6 (fun k e => (hblk k e).1)
            have hr6 : Rf w6 g (stO (runP (exprP 64) (.inr ts))) 0 := (hr1.alloc (.cells #[.int .i64 o1, .int .i64 p1.1, .int .i64 p1.2.1, .string p1.2.2.1, .string p1.2.2.2.1, .string p1.2.2.2.2, .slice a1 l1 c1] 43)).grown hg6 (fun k e => by have := (hblk k e).1; omega)
            have hB7 := hB6.put 5 (.slice ao' n' c')
            have hr7 := hr6.other hgq 5 (.slice ao' n' c')
            have x7 := hz6.set5 (ao', n', c')
            have hO7 : OwnR 43 7 w5.heap.size (w6.setCell ⟨q, 5, none⟩ (.slice ao' n' c')) (slV (ao', n', c')) (css ++ ([[.int .i64 o1, .int .i64 p1.1, .int .i64 p1.2.1, .string p1.2.2.1, .string p1.2.2.2.1, .string p1.2.2.2.2, .slice a1 l1 c1]] : List (List Value))) := hO6.bu (Bu.set g q 5 w6 (.slice ao' n' c')) (by omega) hql
            have HE7 : Hid (LiR (exprP 64) R1 (stO (runP (exprP 64) (.inr ts))) (css ++ ([[.int .i64 o1, .int .i64 p1.1, .int .i64 p1.2.1, .string p1.2.2.1, .string p1.2.2.2.1, .string p1.2.2.2.2, .slice a1 l1 c1]] : List (List Value))) fun t cs => eExpr.E (fun b => w5.heap.size ≤ b ∧ some b ≠ (slV (ao', n', c')).ownBlock) (w6.setCell ⟨q, 5, none⟩ (.slice ao' n' c')) t cs) := hid (HG.out _ _
              (fun u ds hE => eExpr.keep (w := w6) (fun b hq hlt => Below.heap_setCell _ _ _ _ (by show b ≠ q; omega)) (eExpr.grow (eExpr.keep (w := z1) (fun b hq hlt => (bal (Below.refl _ z1) _).block b hlt) (eExpr.keep (w := w3) (fun b hq hlt => hb1.block b hlt (by omega)) (HE3.out u ds hE))) hg6 (by first | exact hown | simpa using hown)))
              (fun t r e => eExpr.keep (w := w6) (fun b hq hlt => Below.heap_setCell _ _ _ _ (by show b ≠ q; omega)) (eExpr.grow (eExpr.keep (w := z1) (fun b hq hlt => (bal (Below.refl _ z1) _).block b hlt) (eExpr.mono (Q := fun b => w3.heap.size ≤ b) (fun b hq _ => ⟨by omega, fun k => by have := (hblk b k.symm).2; omega⟩) (⟨o1, p1, a1, l1, c1, rfl, hx1 t r e⟩))) hg6 (by first | exact hown | simpa using hown))))
            have hm7 := hr7.sz
            have hs7 : szS (stO (runP (exprP 64) (.inr ts))) ≤ ts.length := HS.out
            have hc7 : (css ++ ([[.int .i64 o1, .int .i64 p1.1, .int .i64 p1.2.1, .string p1.2.2.1, .string p1.2.2.2.1, .string p1.2.2.2.2, .slice a1 l1 c1]] : List (List Value))).length + szS (stO (runP (exprP 64) (.inr ts))) ≤ 501 := by simp only [List.length_append, List.length_singleton]; omega
            clear HC HG HE3 hb1 hr1 hx1 hg6 hown y1 cy ho5 hB6 hr6 hO6 hz6 cz fz hzl hyl hsz1 hxd hod hblk hB3 kf
            generalize w6.setCell ⟨q, 5, none⟩ (.slice ao' n' c') = w7 at *
            go_wp2
            go_roundw
            case rel => exact ⟨stO (runP (exprP 64) (.inr ts)), css ++ ([[.int .i64 o1, .int .i64 p1.1, .int .i64 p1.2.1, .string p1.2.2.1, .string p1.2.2.2.1, .string p1.2.2.2.2, .slice a1 l1 c1]] : List (List Value)), (ao', n', c'), hr7, hB7, x7, hO7, by simp, hc7, HE7⟩
            case measure =>
              rw [hm7]
              omega
  | false =>
    rw [hb, takeB_false hb] at HT
    replace HT : Hid _ := hid HT
    have e1 : runP changeP S = _ := disp_false hb
    have E1 : Hid _ := hid e1
    clear hb e1
    cases hb2 : takeB ⟨#[117, 112, 100, 97, 116, 101]⟩ S with
    | true =>
      have e2 := E1.out.trans (disp_true hb2)
      rw [updateP_run] at e2
      have HR : Hid _ := hid e2
      have HT2 : Hid (∀ w', Rf w' g S 0 → Calls Tryz.prog _ _ w' fun x w'' => x = .returned (.bool true) ∧ Rf w'' g (takeS ⟨#[117, 112, 100, 97, 116, 101]⟩ S) 0 ∧ But g w' w'') := hid fun w' hr => by
        have := fTake_any hr ⟨#[117, 112, 100, 97, 116, 101]⟩
        rw [hb2] at this
        exact this
      clear hb2 e2 E1
      generalize takeS ⟨#[117, 112, 100, 97, 116, 101]⟩ S = S1 at *
      go_enter Tryz.func76, Tryz.ntmps76
      go_wp2_with fail
      refine Calls.mono HT.out ?_
      rintro e w1 ⟨rfl, hr1, hb1⟩
      have W1 := W0.on hgl hr1 hb1
      have H2 : Hid _ := hid (HT2.out w1 hr1)
      clear HT hr1 hb1 W0 HT2
      go_wp2_with fail
      refine Calls.mono H2.out ?_
      rintro e w2 ⟨rfl, hr2, hb2⟩
      have W2 := W1.on hgl hr2 hb2
      have H3 : Hid _ := hid (fName_any hr2)
      clear H2 hr2 hb2 W1
      go_wp2_with fail
      refine Calls.mono H3.out ?_
      rintro e w3 ⟨s3, rfl, hb3, hr3, hu3⟩
      have I3 : Jn g w3.heap.size w (fillR nameP up_tb (startR 7 S1)) (w3.alloc (.cells #[.int .i64 7, .string s3, .string ⟨#[]⟩, .slice none 0 0, .slice none 0 0, .slice none 0 0, .slice none 0 0, .string ⟨#[]⟩, .slice none 0 0, .slice none 0 0, .slice none 0 0, .bool false, .slice none 0 0] 48)) { zS 7 with tb := s3 } := W2.jtb hgl hb3 hr3 hu3 7
      clear H3 hb3 hr3 hu3 W2
      have hqg : w3.heap.size ≠ g := by have := I3.lo; omega
      go_upto_region 14 with fail
      generalize w3.alloc (.cells #[.int .i64 7, .string s3, .string ⟨#[]⟩, .slice none 0 0, .slice none 0 0, .slice none 0 0, .slice none 0 0, .string ⟨#[]⟩, .slice none 0 0, .slice none 0 0, .slice none 0 0, .bool false, .slice none 0 0] 48) = wI at *
      generalize w3.heap.size = q at *
      have H4 : Hid _ := hid (fMust_any I3.rf ⟨#[115, 101, 116]⟩)
      go_wp2_with fail
      refine Calls.mono H4.out ?_
      rintro e w4 ⟨rfl, hr4, hb4⟩
      have I4 := I3.want hgl hr4 hb4
      clear H4 hr4 hb4 I3
      have H5 : Hid _ := hid (fName_any I4.rf)
      go_wp2_with fail
      refine Calls.mono H5.out ?_
      rintro e w5 ⟨s5, rfl, hb5, hr5, hu5⟩
      have y5 := I4.box.but hb5 hqg
      have cy5 := y5.cells.2.2.1
      have fy5 := y5.free.2.2.1
      have yl5 := y5.lt
      have I5 := I4.nm hgl hb5 hr5 hu5
      clear H5 hr5 hb5 hu5 I4 y5
      have H6 : Hid _ := hid (fMust_any I5.rf ⟨#[61]⟩)
      go_wp2_with fail
      refine Calls.mono H6.out ?_
      rintro e w6 ⟨rfl, hr6, hb6⟩
      have I6 := I5.want hgl hr6 hb6
      clear H6 hr6 hb6 I5
      have H7 : Hid _ := hid (fExpr_all I6.rf)
      go_wp2_with fail
      refine Calls.mono H7.out ?_
      rintro e w7 ⟨o7, p7, a7, l7, c7, rfl, hb7, hr7, hx7⟩
      have hu7 := expr_row hb7 hx7
      have hbb7 := hb7.alloc (.cells #[.int .i64 o7, .int .i64 p7.1, .int .i64 p7.2.1, .string p7.2.2.1, .string p7.2.2.2.1, .string p7.2.2.2.2, .slice a7 l7 c7] 43)
      have hrr7 := hr7.alloc (.cells #[.int .i64 o7, .int .i64 p7.1, .int .i64 p7.2.1, .string p7.2.2.1, .string p7.2.2.2.1, .string p7.2.2.2.2, .slice a7 l7 c7] 43)
      rw [← expr1_st] at hrr7
      have y7 := I6.box.but hb7 hqg
      have cy7 := y7.cells.2.2.2.2.2.1
      have fy7 := y7.free.2.2.2.2.2.1
      have yl7 := y7.lt
      have I7 := (I6.va (v := (some ⟨w7.heap.size, 0, none⟩, 1, 1)) hgl hbb7 hrr7 hu7).swap yl7
      clear H7 hr7 hb7 hx7 hu7 hbb7 hrr7 I6 y7
      unfold exV
      have H8 : Hid _ := hid (fWhere_any I7.rf)
      go_wp2_with fail
      refine Calls.mono H8.out ?_
      rintro e w8 ⟨ao8, ln8, cp8, rfl, hb8, hr8, hu8⟩
      have y8 := I7.box.but hb8 hqg
      have cy8 := y8.cells.2.2.2.2.2.2.2.2.2.1
      have fy8 := y8.free.2.2.2.2.2.2.2.2.2.1
      have yl8 := y8.lt
      have I8 := I7.wh (v := (ao8, ln8, cp8)) hgl hb8 hr8 hu8
      clear H8 hr8 hb8 hu8 I7 y8
      obtain ⟨sv, JJ⟩ : ∃ sv, Jn g q w _ _ sv := ⟨_, I8⟩
      go_upto_region 19 with fail
      generalize w8.setCell ⟨q, 9, none⟩ (.slice ao8 ln8 cp8) = W at *
      have hjl := JJ.lo
      have hjb := JJ.box.lt
      have TT := TfS.fin HR.out hgl JJ
      obtain ⟨k0, k1, k2, k3, k4, k5, k6, k7, k8, k9, k10, k11, k12⟩ := JJ.box.cells
      obtain ⟨m0, m1, m2, m3, m4, m5, m6, m7, m8, m9, m10, m11, m12⟩ := JJ.zero.cells
      obtain ⟨n0, n1, n2, n3, n4, n5, n6, n7, n8, n9, n10, n11, n12⟩ := JJ.zero.free
      replace TT : Hid _ := hid TT
      clear I8 JJ HR
      go_wp2
      refine bodyPost_ret (v := stV sv) (by simp [results, Tryz.results76, go_sem, stV, m0, m1, m2, m3, m4, m5, m6, m7, m8, m9, m10, m11, m12]) rfl ?_
      exact TT.out
    | false =>
      have e2 := E1.out.trans (disp_false hb2)
      rw [delete_run, deleteP_run, want_start] at e2
      have HR : Hid _ := hid e2
      have HT2 : Hid (∀ w', Rf w' g S 0 → Calls Tryz.prog _ _ w' fun x w'' => x = .returned (.bool false) ∧ Rf w'' g S 0 ∧ But g w' w'') := hid fun w' hr => by
        have := fTake_any hr ⟨#[117, 112, 100, 97, 116, 101]⟩
        rw [hb2, takeB_false hb2] at this
        exact this
      clear hb2 e2 E1
      go_enter Tryz.func76, Tryz.ntmps76
      go_wp2_with fail
      refine Calls.mono HT.out ?_
      rintro e w1 ⟨rfl, hr1, hb1⟩
      have W1 := W0.on hgl hr1 hb1
      have H2 : Hid _ := hid (HT2.out w1 hr1)
      clear HT hr1 hb1 W0 HT2
      go_wp2_with fail
      refine Calls.mono H2.out ?_
      rintro e w2 ⟨rfl, hr2, hb2⟩
      have W2 := W1.on hgl hr2 hb2
      have H3 : Hid _ := hid (fMust_any hr2 ⟨#[100, 101, 108, 101, 116, 101]⟩)
      clear H2 hr2 hb2 W1
      go_wp2_with fail
      refine Calls.mono H3.out ?_
      rintro e w3 ⟨rfl, hr3, hb3⟩
      have W3 := W2.on hgl hr3 hb3
      have H4 : Hid _ := hid (fMust_any hr3 ⟨#[102, 114, 111, 109]⟩)
      clear H3 hr3 hb3 W2
      go_wp2_with fail
      refine Calls.mono H4.out ?_
      rintro e w4 ⟨rfl, hr4, hb4⟩
      have W4 := W3.on hgl hr4 hb4
      have H5 : Hid _ := hid (fName_any hr4)
      clear H4 hr4 hb4 W3
      generalize wantS ⟨#[102, 114, 111, 109]⟩ (wantS ⟨#[100, 101, 108, 101, 116, 101]⟩ S) = S1 at *
      go_wp2_with fail
      refine Calls.mono H5.out ?_
      rintro e w5 ⟨s5, rfl, hb5, hr5, hu5⟩
      have I5 : Jn g w5.heap.size w (fillR nameP up_tb (startR 8 S1)) (w5.alloc (.cells #[.int .i64 8, .string s5, .string ⟨#[]⟩, .slice none 0 0, .slice none 0 0, .slice none 0 0, .slice none 0 0, .string ⟨#[]⟩, .slice none 0 0, .slice none 0 0, .slice none 0 0, .bool false, .slice none 0 0] 48)) { zS 8 with tb := s5 } := W4.jtb hgl hb5 hr5 hu5 8
      clear H5 hb5 hr5 hu5 W4
      have hqg : w5.heap.size ≠ g := by have := I5.lo; omega
      go_upto_region 23 with fail
      generalize w5.alloc (.cells #[.int .i64 8, .string s5, .string ⟨#[]⟩, .slice none 0 0, .slice none 0 0, .slice none 0 0, .slice none 0 0, .string ⟨#[]⟩, .slice none 0 0, .slice none 0 0, .slice none 0 0, .bool false, .slice none 0 0] 48) = wI at *
      generalize w5.heap.size = q at *
      have H6 : Hid _ := hid (fWhere_any I5.rf)
      go_wp2_with fail
      refine Calls.mono H6.out ?_
      rintro e w6 ⟨ao6, ln6, cp6, rfl, hb6, hr6, hu6⟩
      have y6 := I5.box.but hb6 hqg
      have cy6 := y6.cells.2.2.2.2.2.2.2.2.2.1
      have fy6 := y6.free.2.2.2.2.2.2.2.2.2.1
      have yl6 := y6.lt
      have I6 := I5.wh (v := (ao6, ln6, cp6)) hgl hb6 hr6 hu6
      clear H6 hr6 hb6 hu6 I5 y6
      obtain ⟨sv, JJ⟩ : ∃ sv, Jn g q w _ _ sv := ⟨_, I6⟩
      go_upto_region 24 with fail
      generalize w6.setCell ⟨q, 9, none⟩ (.slice ao6 ln6 cp6) = W at *
      have hjl := JJ.lo
      have hjb := JJ.box.lt
      have TT := TfS.fin HR.out hgl JJ
      obtain ⟨k0, k1, k2, k3, k4, k5, k6, k7, k8, k9, k10, k11, k12⟩ := JJ.box.cells
      obtain ⟨m0, m1, m2, m3, m4, m5, m6, m7, m8, m9, m10, m11, m12⟩ := JJ.zero.cells
      obtain ⟨n0, n1, n2, n3, n4, n5, n6, n7, n8, n9, n10, n11, n12⟩ := JJ.zero.free
      replace TT : Hid _ := hid TT
      clear I6 JJ HR
      go_wp2
      refine bodyPost_ret (v := stV sv) (by simp [results, Tryz.results76, go_sem, stV, m0, m1, m2, m3, m4, m5, m6, m7, m8, m9, m10, m11, m12]) rfl ?_
      exact TT.out

end Go.Proofs.YtnboooaockgoiaaGreatDoor
