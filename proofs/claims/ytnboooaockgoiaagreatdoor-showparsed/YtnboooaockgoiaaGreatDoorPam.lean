import Derived.Test.YtnboooaockgoiaaGreatDoorPal
import Derived.Deep.RegionLaw
namespace Go.Proofs.YtnboooaockgoiaaGreatDoor
open Go.RowKit
set_option linter.unusedVariables false

theorem Jn.swap {g q : Nat} {w : World} {R : Re Sm} {w1 : World} {s : Sv} {o : Obj} {i : Nat} {v : Value} (h : Jn g q w R ((w1.alloc o).setCell ⟨q, i, none⟩ v) s) (hl : q < w1.heap.size) : Jn g q w R ((w1.setCell ⟨q, i, none⟩ v).alloc o) s := by
  rw [World.setCell_alloc_past o _ i v hl] at h
  exact h
theorem column_row {g : Nat} {S : Sa} {w0 w1 w2 : World} {o : Int} {p : Pay} {a : Option Addr} {m c : Nat} (h0 : w0.heap.size ≤ w1.heap.size) (hb : But g w1 w2) (hx : ∀ t r, runP columnP (wantS ⟨#[98, 121]⟩ S) = .inr (t, r) → Ex (fun b => w1.heap.size ≤ b) w2 t (exV o p (.slice a m c))) :
    ∀ u r, runP orderP S = .inr (u, r) → RowIs eExpr (fun b => w0.heap.size ≤ b) (w2.alloc (.cells #[.int .i64 o, .int .i64 p.1, .int .i64 p.2.1, .string p.2.2.1, .string p.2.2.2.1, .string p.2.2.2.2, .slice a m c] 43)) (.slice (some ⟨w2.heap.size, 0, none⟩) 1 1) u := by
  intro u r e
  obtain ⟨t, e2, rfl⟩ := order_inr e
  exact (row_one w2 t o p a m c (fun b => w1.heap.size ≤ b) hb.size (hx t r e2)).mono (by decide) fun b hb _ => by omega

set_option maxRecDepth 100000 in
set_option maxHeartbeats 8000000 in
theorem fSelectedE_any {g : Nat} {S : Sa} {w : World} (h : Rf w g S 0) : Calls Tryz.prog 73 #[.pointer (some ⟨g, 0, none⟩)] w (TfS g w (runP queryP S)) := by
  have hgl := h.lt
  have I0 : Jn g (w.heap.size + 1) w (startR 6 S) ((w.alloc (.cells #[.int .i64 0, .string ⟨#[]⟩, .string ⟨#[]⟩, .slice none 0 0, .slice none 0 0, .slice none 0 0, .slice none 0 0, .string ⟨#[]⟩, .slice none 0 0, .slice none 0 0, .slice none 0 0, .bool false, .slice none 0 0] 48)).alloc (.cells #[.int .i64 6, .string ⟨#[]⟩, .string ⟨#[]⟩, .slice none 0 0, .slice none 0 0, .slice none 0 0, .slice none 0 0, .string ⟨#[]⟩, .slice none 0 0, .slice none 0 0, .slice none 0 0, .bool false, .slice none 0 0] 48)) (zS 6) := by
    have := (Wf.start h).jn 6
    rw [World.size_alloc] at this
    exact this
  have HR : Hid (runP queryP S = _) := hid (queryP_run S)
  have hqg : w.heap.size + 1 ≠ g := by omega
  generalize hq : w.heap.size + 1 = q at *
  clear h
  go_enter Tryz.func73, Tryz.ntmps73
  have H1 : Hid _ := hid (fMust_any I0.rf ⟨#[115, 101, 108, 101, 99, 116]⟩)
  go_wp2_with fail
  refine Calls.mono H1.out ?_
  rintro e w1 ⟨rfl, hr1, hb1⟩
  have I1 := I0.want hgl hr1 hb1
  clear H1 hr1 hb1 I0 hq
  have HT : Hid _ := hid (fTake_any I1.rf ⟨#[42]⟩)
  go_wp2_with fail
  refine Calls.mono HT.out ?_
  rintro e w2 ⟨rfl, hr2, hb2⟩
  clear HT
  go_upto_if 10 with fail
  go_cut [] (fun w' => ∃ sv, Jn g q w (fillR starP up_it (wantR ⟨#[115, 101, 108, 101, 99, 116]⟩ (startR 6 S))) w' sv ∧ sv.jn = ⟨#[]⟩ ∧ sv.on = (none, 0, 0) ∧ sv.od = (none, 0, 0) ∧ sv.ds = false)
  case first =>
    cases hbs : takeB ⟨#[42]⟩ (stO (wantR ⟨#[115, 101, 108, 101, 99, 116]⟩ (startR 6 S))) with
    | true =>
      have I2 := ((I1.take hgl hr2 hb2).it0 rfl).conv (star_true hbs)
      clear hbs hr2 hb2 I1
      go_wp2_with fail
      go_meet
      exact ⟨_, I2, rfl, rfl, rfl, rfl⟩
    | false =>
      rw [takeB_false hbs] at hr2
      have I2 := I1.same hgl hr2 hb2
      have E1 : Hid _ := hid (star_false hbs)
      clear hbs hr2 hb2 I1
      have hf0 := I2.rf.few
      have hbox := I2.box
      have hlo := I2.lo
      have hql : q < w2.heap.size := hbox.lt
      have hgq : g < q := by omega
      have HC : Hid _ := hid (fItem_any (I2.rf.drew))
      have HLs : Hid (∀ (cs : List Value) (E : _ → List Value → Prop), (∀ t r, runP itemP (stO (wantR ⟨#[115, 101, 108, 101, 99, 116]⟩ (startR 6 S))) = .inr (t, r) → E t cs) → LiR itemP (runP (listP itemP) (stO (wantR ⟨#[115, 101, 108, 101, 99, 116]⟩ (startR 6 S)))) (stO (runP itemP (stO (wantR ⟨#[115, 101, 108, 101, 99, 116]⟩ (startR 6 S))))) [cs] E) := hid fun cs E k => LiR.start k
      have HRf : Hid _ := hid I2
      have hxd : Bs w2.drew q (zS 6) := hbox.keep rfl
      have hgd : w2.drew.heap.size = w2.heap.size := rfl
      have kf : w2.cell? ⟨q, 6, none⟩ = some (.slice none 0 0) := hbox.cells.2.2.2.2.2.2.1
      clear I2
      generalize hS0 : stO (wantR ⟨#[115, 101, 108, 101, 99, 116]⟩ (startR 6 S)) = S0 at HC HLs hf0
      generalize hRR : runP (listP itemP) S0 = R1 at *
      go_upto_region 4 with fail
      go_cut [] (fun w' => ∃ (css : List (List Value)) (sl : Sl), Rf w' g (stO (runP itemP S0)) 0 ∧ Bu g q w2 w' ∧ Bs w' q { (zS 6) with it := sl } ∧ OwnR 64 3 w2.heap.size w' (slV sl) css ∧ css ≠ [] ∧ css.length + szS (stO (runP itemP S0)) ≤ 501 ∧ Hid (LiR itemP R1 (stO (runP itemP S0)) css fun t cs => eItem.E (fun b => w2.heap.size ≤ b ∧ some b ≠ (slV sl).ownBlock) w' t cs))
      case first =>
       go_region_law (first
         | (go_simp; refine Calls.mono HC.out ?_; rintro e z1 ⟨k1, x1, f1, rfl, hb1, hr1, hx1⟩; have y1 := hxd.but hb1 (by omega); have cy : z1.cell? ⟨q, 6, none⟩ = some (.slice none 0 0) := y1.cells.2.2.2.2.2.2.1; have hsz1 := hb1.size; have hyl := y1.lt; skip)
         | (refine step_appR (B := w2.heap.size) (by rfl) (.tmp 12) (.tmp 15) (by rfl) Tryz.underlying26 Tryz.infoTItem rfl (by decide) (by decide) _ [] z1.heap.size [.int .i64 k1, .string x1, .string f1] (by rfl) (by rfl) (OwnR.nil _ _ _ _) rfl (one_item _ _ _) (new3 z1 _ _ _ _) (by simp) (by rw [World.size_alloc]; omega) ?_; intro v' w6 hO6 hg6 hown; obtain ⟨ao, n, c, rfl⟩ := hO6.sl; have hz6 := (y1.later (bal (Below.refl _ z1) (.cells #[.int .i64 k1, .string x1, .string f1] 64))).grown hg6 (fun k e => by cases e); have cz : w6.cell? ⟨q, 6, none⟩ = some (.slice none 0 0) := hz6.cells.2.2.2.2.2.2.1; have fz := hz6.free.2.2.2.2.2.2.1; have hzl := hz6.lt))
       all_goals
         have hB6 : Bu g q w2 w6 := Bu.grown (B := 0) (Bu.of (show But g w2 (z1.alloc (.cells #[.int .i64 k1, .string x1, .string f1] 64)) from ⟨(hb1.alloc (.cells #[.int .i64 k1, .string x1, .string f1] 64)).os, (hb1.alloc (.cells #[.int .i64 k1, .string x1, .string f1] 64)).tape, (hb1.alloc (.cells #[.int .i64 k1, .string x1, .string f1] 64)).output, (hb1.alloc (.cells #[.int .i64 k1, .string x1, .string f1] 64)).size, (hb1.alloc (.cells #[.int .i64 k1, .string x1, .string f1] 64)).block⟩)) hg6 (fun k e => by cases e)
         have hr6 : Rf w6 g (stO (runP itemP S0)) 0 := (hr1.alloc (.cells #[.int .i64 k1, .string x1, .string f1] 64)).grown hg6 (fun k e => by cases e)
         have hB7 := hB6.put 6 (.slice ao n c)
         have hr7 := hr6.other hgq 6 (.slice ao n c)
         have x7 := hz6.set6 (ao, n, c)
         have hO7 : OwnR 64 3 w2.heap.size (w6.setCell ⟨q, 6, none⟩ (.slice ao n c)) (slV (ao, n, c)) [[.int .i64 k1, .string x1, .string f1]] := hO6.bu (Bu.set g q 6 w6 (.slice ao n c)) (by omega) hql
         have HE7 : Hid (LiR itemP R1 (stO (runP itemP S0)) [[.int .i64 k1, .string x1, .string f1]] fun t cs => eItem.E (fun b => w2.heap.size ≤ b ∧ some b ≠ (slV (ao, n, c)).ownBlock) (w6.setCell ⟨q, 6, none⟩ (.slice ao n c)) t cs) := hid (HLs.out _ _ fun t r e =>
           eItem.keep (w := w6) (fun b hq hlt => Below.heap_setCell _ _ _ _ (by show b ≠ q; omega)) (eItem.grow (row := none) (eItem.keep (w := z1) (fun b hq hlt => (bal (Below.refl _ z1) _).block b hlt) (eItem.mono (Q := fun b => w2.heap.size ≤ b) (fun b hq _ => ⟨hq, by simp⟩) (by rw [← hx1 t r e]; rfl))) hg6 (by first | exact hown | simpa using hown)))
         have hc7 : ([[.int .i64 k1, .string x1, .string f1]] : List (List Value)).length + szS (stO (runP itemP S0)) ≤ 501 := by
           have := hr7.few
           simp only [List.length_singleton]
           omega
         have hne7 : ([[.int .i64 k1, .string x1, .string f1]] : List (List Value)) ≠ [] := by simp
         clear HC HLs hb1 hr1 hx1 hg6 hown y1 cy hB6 hr6 hO6 hz6 cz fz hzl hyl hsz1 hxd kf
         go_wp2_with fail
         go_meet
         exact ⟨_, (ao, n, c), hr7, hB7, x7, hO7, hne7, hc7, HE7⟩
      case rest =>
        obtain ⟨css0, sl0, hr7, hB7, x7, hO7, hne7, hc7, HE7⟩ := hcut
        clear HC HLs hxd kf
        go_wp2
        go_loopw [] (fun wr => ∃ (S1 : Sa) (css : List (List Value)) (sl : Sl), Rf wr g S1 0 ∧ Bu g q w2 wr ∧ Bs wr q { (zS 6) with it := sl } ∧ OwnR 64 3 w2.heap.size wr (slV sl) css ∧ css ≠ [] ∧ css.length + szS S1 ≤ 501 ∧ Hid (LiR itemP R1 S1 css fun t cs => eItem.E (fun b => w2.heap.size ≤ b ∧ some b ≠ (slV sl).ownBlock) wr t cs)) (fun wr => szF g wr)
        case atStart => exact ⟨stO (runP itemP S0), css0, sl0, hr7, hB7, x7, hO7, hne7, hc7, HE7⟩
        case round =>
          clear hr7 hB7 x7 hO7 hne7 hc7 HE7
          obtain ⟨S2, css, ⟨ao, n, c⟩, hr, hB, hx, ho, hne, hcs, HE⟩ := hrel
          have hm := hr.sz
          have HT := fTake_any hr ⟨#[44]⟩
          cases hb : takeB ⟨#[44]⟩ S2 with
          | false =>
            obtain ⟨e1, e2⟩ := HE.out.stop hb
            rw [hb, takeB_false hb, ← e1] at HT
            replace HT : Hid _ := hid HT
            have E2 : Hid _ := hid e2
            clear hb e1 e2 HE hm hr
            go_wp2_with fail
            refine Calls.mono HT.out ?_
            rintro e w9 ⟨rfl, hr9, hb9⟩
            have hB9 := hB.on hb9
            have x9 := hx.but hb9 (by omega)
            have ho9 := ho.but hb9 (by omega)
            have I9 := Jn.fill (P := listP itemP) (f := up_it) (s' := { (zS 6) with it := (ao, n, c) }) HRf.out hgl hB9 (by rw [hS0, hRR]; exact hr9) x9 (fun m u q' r _ e his hin => ⟨{ his with it := (OwnR.row (e := eItem) (Q := fun b => w2.heap.size ≤ b) ho9 (E2.out u r (by rw [← hRR, ← hS0]; exact e)).1 hne (fun b hb _ => hb) (fun i a b => eItem.keep (fun b hb hlt => hb9.block b hlt (by omega)) (eItem.mono (fun b hb _ => hb.1) ((E2.out u r (by rw [← hRR, ← hS0]; exact e)).2 i a b)))).mono (by decide) (fun b hb _ => ⟨by omega, by omega⟩) }, hin⟩)
            clear HT HRf E2 hb9 hB9 x9 ho9 hB hx ho hne hcs hr9 hS0 hRR hbox hf0
            go_wp2_with fail
            go_meet
            exact ⟨_, I9.conv E1.out, rfl, rfl, rfl, rfl⟩
          | true =>
            obtain ⟨t, ts, rfl, ht, hT⟩ := takeB_true hb
            obtain ⟨hle, hgo⟩ := HE.out.go shr_item hb
            rw [hb, hT] at HT
            replace HT : Hid _ := hid HT
            have HG : Hid _ := hid hgo
            have HS : Hid _ := hid hle
            have hm' : szF g wr = ts.length + 1 := hm
            have hcs' : css.length + (ts.length + 1) ≤ 501 := hcs
            clear hb hle hgo HE hT hr hm hcs
            go_wp2_with fail
            refine Calls.mono HT.out ?_
            rintro e w3 ⟨rfl, hr3, hb3⟩
            have hB3 := hB.on hb3
            have hx3 := hx.but hb3 (by omega)
            have ho3 := ho.but hb3 (by omega)
            have HC : Hid _ := hid (fItem_any hr3.drew)
            have hxd : Bs w3.drew q { (zS 6) with it := (ao, n, c) } := hx3.keep rfl
            have hod : OwnR 64 3 w2.heap.size w3.drew (slV (ao, n, c)) css := ⟨ho3.1, ho3.2⟩
            have hblk := ho3.blk
            have hgd3 : w3.drew.heap.size = w3.heap.size := rfl
            have hsw : w2.heap.size ≤ w3.heap.size := hB3.size
            have HE3 : Hid (∀ u ds, eItem.E (fun b => w2.heap.size ≤ b ∧ some b ≠ (slV (ao, n, c)).ownBlock) wr u ds → eItem.E (fun b => w2.heap.size ≤ b ∧ some b ≠ (slV (ao, n, c)).ownBlock) w3 u ds) := hid fun u ds hE => eItem.keep (fun b hq hlt => hb3.block b hlt (by omega)) hE
            have kf : w3.cell? ⟨q, 6, none⟩ = some (.slice ao n c) := hx3.cells.2.2.2.2.2.2.1
            clear HT hr3 hb3 hB hx hx3 ho ho3
            go_upto_region 6 with fail
            go_region_law (first
              | (go_simp; refine Calls.mono HC.out ?_; rintro e z1 ⟨k1, x1, f1, rfl, hb1, hr1, hx1⟩; have y1 := hxd.but hb1 (by omega); have cy : z1.cell? ⟨q, 6, none⟩ = some (.slice ao n c) := y1.cells.2.2.2.2.2.2.1; have ho5 := (hod.but hb1 (by omega)).alloc (.cells #[.int .i64 k1, .string x1, .string f1] 64); have hsz1 := hb1.size; have hyl := y1.lt; skip)
              | (refine step_appR (B := w2.heap.size) (by rfl) (.tmp 21) (.tmp 24) (by rfl) Tryz.underlying26 Tryz.infoTItem rfl (by decide) (by decide) _ css z1.heap.size [.int .i64 k1, .string x1, .string f1] (by rfl) (by rfl) ho5 rfl (one_item _ _ _) (new3 z1 _ _ _ _) (by omega) (by rw [World.size_alloc]; omega) ?_; intro v' w6 hO6 hg6 hown; obtain ⟨ao', n', c', rfl⟩ := hO6.sl; have hz6 := (y1.later (bal (Below.refl _ z1) (.cells #[.int .i64 k1, .string x1, .string f1] 64))).grown hg6 (fun k e => by have := (hblk k e).1; omega); have cz : w6.cell? ⟨q, 6, none⟩ = some (.slice ao n c) := hz6.cells.2.2.2.2.2.2.1; have fz := hz6.free.2.2.2.2.2.2.1; have hzl := hz6.lt))
            all_goals
              have hB6 : Bu g q w2 w6 := Bu.grown (B := 0) (hB3.on (show But g w3 (z1.alloc (.cells #[.int .i64 k1, .string x1, .string f1] 64)) from ⟨(hb1.alloc (.cells #[.int .i64 k1, .string x1, .string f1] 64)).os, (hb1.alloc (.cells #[.int .i64 k1, .string x1, .string f1] 64)).tape, (hb1.alloc (.cells #[.int .i64 k1, .string x1, .string f1] 64)).output, (hb1.alloc (.cells #[.int .i64 k1, .string x1, .string f1] 64)).size, (hb1.alloc (.cells #[.int .i64 k1, .string x1, .string f1] 64)).block⟩)) hg6 (fun k e => (hblk k e).1)
              have hr6 : Rf w6 g (stO (runP itemP (.inr ts))) 0 := (hr1.alloc (.cells #[.int .i64 k1, .string x1, .string f1] 64)).grown hg6 (fun k e => by have := (hblk k e).1; omega)
              have hB7 := hB6.put 6 (.slice ao' n' c')
              have hr7 := hr6.other hgq 6 (.slice ao' n' c')
              have x7 := hz6.set6 (ao', n', c')
              have hO7 : OwnR 64 3 w2.heap.size (w6.setCell ⟨q, 6, none⟩ (.slice ao' n' c')) (slV (ao', n', c')) (css ++ ([[.int .i64 k1, .string x1, .string f1]] : List (List Value))) := hO6.bu (Bu.set g q 6 w6 (.slice ao' n' c')) (by omega) hql
              have HE7 : Hid (LiR itemP R1 (stO (runP itemP (.inr ts))) (css ++ ([[.int .i64 k1, .string x1, .string f1]] : List (List Value))) fun t cs => eItem.E (fun b => w2.heap.size ≤ b ∧ some b ≠ (slV (ao', n', c')).ownBlock) (w6.setCell ⟨q, 6, none⟩ (.slice ao' n' c')) t cs) := hid (HG.out _ _
                (fun u ds hE => eItem.keep (w := w6) (fun b hq hlt => Below.heap_setCell _ _ _ _ (by show b ≠ q; omega)) (eItem.grow (eItem.keep (w := z1) (fun b hq hlt => (bal (Below.refl _ z1) _).block b hlt) (eItem.keep (w := w3) (fun b hq hlt => hb1.block b hlt (by omega)) (HE3.out u ds hE))) hg6 (by first | exact hown | simpa using hown)))
                (fun t r e => eItem.keep (w := w6) (fun b hq hlt => Below.heap_setCell _ _ _ _ (by show b ≠ q; omega)) (eItem.grow (eItem.keep (w := z1) (fun b hq hlt => (bal (Below.refl _ z1) _).block b hlt) (eItem.mono (Q := fun b => w3.heap.size ≤ b) (fun b hq _ => ⟨by omega, fun k => by have := (hblk b k.symm).2; omega⟩) (by rw [← hx1 t r e]; rfl))) hg6 (by first | exact hown | simpa using hown))))
              have hm7 := hr7.sz
              have hs7 : szS (stO (runP itemP (.inr ts))) ≤ ts.length := HS.out
              have hc7 : (css ++ ([[.int .i64 k1, .string x1, .string f1]] : List (List Value))).length + szS (stO (runP itemP (.inr ts))) ≤ 501 := by simp only [List.length_append, List.length_singleton]; omega
              clear HC HG HE3 hb1 hr1 hx1 hg6 hown y1 cy ho5 hB6 hr6 hO6 hz6 cz fz hzl hyl hsz1 hxd hod hblk hB3 kf
              generalize w6.setCell ⟨q, 6, none⟩ (.slice ao' n' c') = w7 at *
              go_wp2
              go_roundw
              case rel => exact ⟨stO (runP itemP (.inr ts)), css ++ ([[.int .i64 k1, .string x1, .string f1]] : List (List Value)), (ao', n', c'), hr7, hB7, x7, hO7, by simp, hc7, HE7⟩
              case measure =>
                rw [hm7]
                omega
  case rest =>
    obtain ⟨sv2, I2, hj2, ho2, hd2, hs2⟩ := hcut
    clear I1 hr2 hb2
    have H3 : Hid _ := hid (fMust_any I2.rf ⟨#[102, 114, 111, 109]⟩)
    go_wp2_with fail
    refine Calls.mono H3.out ?_
    rintro e w3 ⟨rfl, hr3, hb3⟩
    have I3 := I2.want hgl hr3 hb3
    clear H3 hr3 hb3 I2
    have H4 : Hid _ := hid (fName_any I3.rf)
    go_wp2_with fail
    refine Calls.mono H4.out ?_
    rintro e w4 ⟨s4, rfl, hb4, hr4, hu4⟩
    have y4 := I3.box.but hb4 hqg
    have cy4 := y4.cells.2.1
    have fy4 := y4.free.2.1
    have yl4 := y4.lt
    have I4 := I3.tb hgl hb4 hr4 hu4
    clear H4 hr4 hb4 hu4 I3 y4
    have HT : Hid _ := hid (fTake_any I4.rf ⟨#[106, 111, 105, 110]⟩)
    go_wp2_with fail
    refine Calls.mono HT.out ?_
    rintro e w5 ⟨rfl, hr5, hb5⟩
    clear HT
    go_upto_if 33 with fail
    go_cut [] (fun w' => ∃ sv, Jn g q w (fillR joinP up_jo (fillR nameP up_tb (wantR ⟨#[102, 114, 111, 109]⟩ (fillR starP up_it (wantR ⟨#[115, 101, 108, 101, 99, 116]⟩ (startR 6 S)))))) w' sv ∧ sv.od = (none, 0, 0) ∧ sv.ds = false)
    case first =>
      generalize hRR : (fillR nameP up_tb (wantR ⟨#[102, 114, 111, 109]⟩ (fillR starP up_it (wantR ⟨#[115, 101, 108, 101, 99, 116]⟩ (startR 6 S))))) = RR at *
      cases hb : takeB ⟨#[106, 111, 105, 110]⟩ (stO RR) with
      | false =>
        rw [takeB_false hb] at hr5
        have I5 := (I4.same hgl hr5 hb5).jo0 hb hj2 ho2
        clear hb hr5 hb5 I4 hRR
        go_wp2_with fail
        go_meet
        exact ⟨_, I5, hd2, hs2⟩
      | true =>
        have I5 := I4.take hgl hr5 hb5
        have E1 : Hid _ := hid (join_true hb)
        clear hb hr5 hb5 I4 hRR
        have H6 : Hid _ := hid (fName_any I5.rf)
        go_wp2_with fail
        refine Calls.mono H6.out ?_
        rintro e w6 ⟨s6, rfl, hb6, hr6, hu6⟩
        have y6 := I5.box.but hb6 hqg
        have cy6 := y6.cells.2.2.2.2.2.2.2.1
        have fy6 := y6.free.2.2.2.2.2.2.2.1
        have yl6 := y6.lt
        have I6 := I5.jn hgl hb6 hr6 hu6
        clear H6 hr6 hb6 hu6 I5 y6
        have hIr := I6.rf
        have ES : Hid _ := hid (on_st (stO (fillR nameP up_jn (takeR ⟨#[106, 111, 105, 110]⟩ RR))))
        have EI : Hid _ := hid fun l r (e : runP onP (stO (fillR nameP up_jn (takeR ⟨#[106, 111, 105, 110]⟩ RR))) = .inr (l, r)) => on_inr e
        generalize hSS : stO (fillR nameP up_jn (takeR ⟨#[106, 111, 105, 110]⟩ RR)) = S6 at ES EI hIr
        have HI6 : Hid _ := hid I6
        have hb6x := I6.box
        have hq6 := I6.box.lt
        have hg6 := I6.rf.lt
        have hlo6 := I6.lo
        clear I6
        generalize hW6 : w6.setCell ⟨q, 7, none⟩ (.string s6) = W6 at *
        go_upto_region 11 with fail
        have H7 : Hid _ := hid (fMust_any hIr ⟨#[111, 110]⟩)
        go_wp2_with fail
        refine Calls.mono H7.out ?_
        rintro e w7 ⟨rfl, hr7, hb7⟩
        have hsz7 := hb7.size
        have H8 : Hid _ := hid (fColumn_any hr7)
        clear H7 hr7 hIr
        go_wp2_with fail
        refine Calls.mono H8.out ?_
        rintro e w8 ⟨o2, p2, a2, l2, c2, rfl, hb8, hr8, hx8⟩
        have hB8 := hb7.trans hb8
        have hsz8 := hb8.size
        have hr9 := hr8.alloc (.cells #[.int .i64 o2, .int .i64 p2.1, .int .i64 p2.2.1, .string p2.2.2.1, .string p2.2.2.2.1, .string p2.2.2.2.2, .slice a2 l2 c2] 43)
        have hB9 := hB8.alloc (.cells #[.int .i64 o2, .int .i64 p2.1, .int .i64 p2.2.1, .string p2.2.2.1, .string p2.2.2.2.1, .string p2.2.2.2.2, .slice a2 l2 c2] 43)
        have x9 := Be.new w8 o2 p2 (.slice a2 l2 c2)
        have HX9 : Hid (∀ t r, runP columnP (wantS ⟨#[111, 110]⟩ S6) = .inr (t, r) → Ex (fun b => W6.heap.size ≤ b) (w8.alloc (.cells #[.int .i64 o2, .int .i64 p2.1, .int .i64 p2.2.1, .string p2.2.2.1, .string p2.2.2.2.1, .string p2.2.2.2.2, .slice a2 l2 c2] 43)) t (exV o2 p2 (.slice a2 l2 c2))) :=
          hid fun t r e => ((hx8 t r e).mono fun k hk _ => by omega).later (bal (Below.refl _ w8) _)
        have H10 : Hid _ := hid (fMust_any hr9 ⟨#[61]⟩)
        have hqa : W6.heap.size ≤ w8.heap.size := by omega
        clear H8 hr8 hx8 hb7 hb8 hB8 hr9
        unfold exV
        go_wp2_with fail
        refine Calls.mono H10.out ?_
        rintro e w10 ⟨rfl, hr10, hb10⟩
        have hB10 := hB9.trans hb10
        have x10 := x9.but hb10 (by omega)
        have hsz10 : w8.heap.size < w10.heap.size := by have := hb10.size; simp at this; omega
        have HX10 : Hid _ := hid fun t r e => (HX9.out t r e).but hb10 (by omega)
        obtain ⟨k0, k1, k2, k3, k4, k5, k6⟩ := x10.cells
        rw [Nat.zero_add] at k1 k2 k3 k4 k5 k6
        generalize w8.heap.size = qa at *
        have HC : Hid _ := hid (fColumn_any hr10.drew)
        have hxd : Be w10.drew qa o2 p2 (.slice a2 l2 c2) := x10.keep rfl
        have hBd : But g W6 w10.drew := hB10.dr
        have hgd : w10.drew.heap.size = w10.heap.size := rfl
        clear H10 hb10 HX9 x9 hB9 hB10
        go_upto_region 14 with fail
        go_region_with (first
          | (refine Calls.mono HC.out ?_; rintro e z1 ⟨o5, p5, a5, l5, c5, rfl, hb1, hr1, hx1⟩; have y1 := hxd.but hb1 (by omega); obtain ⟨j0, j1, j2, j3, j4, j5, j6⟩ := y1.cells; rw [Nat.zero_add] at j1 j2 j3 j4 j5 j6; have hyl := y1.lt; have u1 := hb6x.but (hBd.trans hb1) hqg; have cu := u1.cells.2.2.2.2.2.2.2.2.1; have fu := u1.free.2.2.2.2.2.2.2.2.1; have hul := u1.lt; unfold exV))
        all_goals
          have hB5 := hBd.trans hb1
          have hz1 := hb1.size
          have hrN : Rf (z1.alloc (.cells #[.int .i64 o2, .int .i64 p2.1, .int .i64 p2.2.1, .string p2.2.2.1, .string p2.2.2.2.1, .string p2.2.2.2.2, .slice a2 l2 c2, .int .i64 o5, .int .i64 p5.1, .int .i64 p5.2.1, .string p5.2.2.1, .string p5.2.2.2.1, .string p5.2.2.2.2, .slice a5 l5 c5] 43)) g (stO (runP onP (stO (fillR nameP up_jn (takeR ⟨#[106, 111, 105, 110]⟩ RR))))) 0 := by rw [hSS, ES.out]; exact hr1.alloc _
          have huN : ∀ l r, runP onP (stO (fillR nameP up_jn (takeR ⟨#[106, 111, 105, 110]⟩ RR))) = .inr (l, r) → RowIs eExpr (fun b => W6.heap.size ≤ b) (z1.alloc (.cells #[.int .i64 o2, .int .i64 p2.1, .int .i64 p2.2.1, .string p2.2.2.1, .string p2.2.2.2.1, .string p2.2.2.2.2, .slice a2 l2 c2, .int .i64 o5, .int .i64 p5.1, .int .i64 p5.2.1, .string p5.2.2.1, .string p5.2.2.2.1, .string p5.2.2.2.2, .slice a5 l5 c5] 43)) (.slice (some ⟨z1.heap.size, 0, none⟩) 2 2) l := fun l r e => by
            obtain ⟨t, u, q', e1, e2, rfl⟩ := EI.out l r (by rw [← hSS]; exact e)
            exact row_two z1 t u o2 p2 a2 l2 c2 o5 p5 a5 l5 c5 _ (by omega) ((Ex.keep (w := w10) (w' := w10.drew) (fun _ _ _ => rfl) (HX10.out t q' e1)).but hb1 (by omega)) ((hx1 u r e2).mono fun k hk _ => by omega)
          have I7 := ((HI6.out.on (v := (some ⟨z1.heap.size, 0, none⟩, 2, 2)) hgl (hB5.alloc (.cells #[.int .i64 o2, .int .i64 p2.1, .int .i64 p2.2.1, .string p2.2.2.1, .string p2.2.2.2.1, .string p2.2.2.2.2, .slice a2 l2 c2, .int .i64 o5, .int .i64 p5.1, .int .i64 p5.2.1, .string p5.2.2.1, .string p5.2.2.2.1, .string p5.2.2.2.2, .slice a5 l5 c5] 43)) hrN huN).swap hul).conv E1.out
          clear HC HX10 hxd hBd y1 hb1 hx1 x10 hB5 hrN huN HI6 u1 cu fu
          go_wp2_with fail
          go_meet
          exact ⟨_, I7, hd2, hs2⟩
    case rest =>
      obtain ⟨sv6, I6, hd6, hs6⟩ := hcut
      clear I4 hr5 hb5 hj2 ho2 hd2 hs2
      have H7 : Hid _ := hid (fWhere_any I6.rf)
      go_wp2_with fail
      refine Calls.mono H7.out ?_
      rintro e w7 ⟨ao7, ln7, cp7, rfl, hb7, hr7, hu7⟩
      have y7 := I6.box.but hb7 hqg
      have cy7 := y7.cells.2.2.2.2.2.2.2.2.2.1
      have fy7 := y7.free.2.2.2.2.2.2.2.2.2.1
      have yl7 := y7.lt
      have I7 := I6.wh (v := (ao7, ln7, cp7)) hgl hb7 hr7 hu7
      clear H7 hr7 hb7 hu7 I6 y7
      have HT := fTake_any I7.rf ⟨#[111, 114, 100, 101, 114]⟩
      generalize hRR : fillR behindP up_wh (fillR joinP up_jo (fillR nameP up_tb (wantR ⟨#[102, 114, 111, 109]⟩ (fillR starP up_it (wantR ⟨#[115, 101, 108, 101, 99, 116]⟩ (startR 6 S)))))) = RR at *
      have HR2 : Hid (runP queryP S = fillR ordP up_oo RR) := hid HR.out
      clear HR hRR
      cases hb : takeB ⟨#[111, 114, 100, 101, 114]⟩ (stO RR) with
      | false =>
        rw [hb, takeB_false hb] at HT
        replace HT : Hid _ := hid HT
        have HB : Hid _ := hid hb
        clear hb
        go_wp2_with fail
        refine Calls.mono HT.out ?_
        rintro e w8 ⟨rfl, hr8, hb8⟩
        have I8 := (I7.same hgl hr8 hb8).oo0 HB.out hs6 hd6
        clear HT hr8 hb8 I7
        have HR : Hid _ := HR2
        obtain ⟨sv, JJ⟩ : ∃ sv, Jn g q w _ _ sv := ⟨_, I8⟩
        have hjl := JJ.lo
        have hjb := JJ.box.lt
        have TT := TfS.fin HR.out hgl JJ
        obtain ⟨k0, k1, k2, k3, k4, k5, k6, k7, k8, k9, k10, k11, k12⟩ := JJ.box.cells
        obtain ⟨m0, m1, m2, m3, m4, m5, m6, m7, m8, m9, m10, m11, m12⟩ := JJ.zero.cells
        obtain ⟨n0, n1, n2, n3, n4, n5, n6, n7, n8, n9, n10, n11, n12⟩ := JJ.zero.free
        replace TT : Hid _ := hid TT
        clear I8 JJ HR
        go_wp2
        refine bodyPost_ret (v := stV sv) (by simp [results, Tryz.results73, go_sem, stV, m0, m1, m2, m3, m4, m5, m6, m7, m8, m9, m10, m11, m12]) rfl ?_
        exact TT.out
      | true =>
        rw [hb] at HT
        replace HT : Hid _ := hid HT
        have E1 : Hid _ := hid (ord_true hb)
        clear hb
        go_wp2_with fail
        refine Calls.mono HT.out ?_
        rintro e w8 ⟨rfl, hr8, hb8⟩
        have I8 := I7.take hgl hr8 hb8
        clear HT hr8 hb8 I7
        have hI8 := I8.rf
        have H9 : Hid _ := hid (fMust_any hI8 ⟨#[98, 121]⟩)
        go_wp2_with fail
        refine Calls.mono H9.out ?_
        rintro e w9 ⟨rfl, hr9, hb9⟩
        have H10 : Hid _ := hid (fColumn_any hr9)
        clear H9 hr9 hI8
        go_wp2_with fail
        refine Calls.mono H10.out ?_
        rintro e w10 ⟨o10, p10, a10, l10, c10, rfl, hb10, hr10, hx10⟩
        have hu10 := column_row hb9.size hb10 hx10
        have hB10 := hb9.trans hb10
        have hbb10 := hB10.alloc (.cells #[.int .i64 o10, .int .i64 p10.1, .int .i64 p10.2.1, .string p10.2.2.1, .string p10.2.2.2.1, .string p10.2.2.2.2, .slice a10 l10 c10] 43)
        have hrr10 := hr10.alloc (.cells #[.int .i64 o10, .int .i64 p10.1, .int .i64 p10.2.1, .string p10.2.2.1, .string p10.2.2.2.1, .string p10.2.2.2.2, .slice a10 l10 c10] 43)
        rw [← order_st] at hrr10
        have y10 := I8.box.but hB10 hqg
        have cy10 := y10.cells.2.2.2.2.2.2.2.2.2.2.1
        have fy10 := y10.free.2.2.2.2.2.2.2.2.2.2.1
        have yl10 := y10.lt
        have I10 := (I8.od (v := (some ⟨w10.heap.size, 0, none⟩, 1, 1)) hgl hbb10 hrr10 hu10).swap yl10
        clear H10 hr10 hb9 hb10 hx10 hu10 hB10 hbb10 hrr10 I8 y10
        unfold exV
        have HT : Hid _ := hid (fTake_any I10.rf ⟨#[100, 101, 115, 99]⟩)
        go_wp2_with fail
        refine Calls.mono HT.out ?_
        rintro e w11 ⟨rfl, hr11, hb11⟩
        have y11 := I10.box.but hb11 hqg
        have cy11 := y11.cells.2.2.2.2.2.2.2.2.2.2.2.1
        have fy11 := y11.free.2.2.2.2.2.2.2.2.2.2.2.1
        have yl11 := y11.lt
        rw [← desc_st] at hr11
        have I11 := I10.ds (P := descP) hgl hb11 hr11 fun u r e => desc_inr e
        have HR : Hid _ := hid (HR2.out.trans E1.out)
        clear HT hr11 hb11 y11 I10
        obtain ⟨sv, JJ⟩ : ∃ sv, Jn g q w _ _ sv := ⟨_, I11⟩
        go_upto_region 20 with fail
        generalize w11.setCell ⟨q, 11, none⟩ (.bool (takeB ⟨#[100, 101, 115, 99]⟩ (stO (fillR orderP up_od (takeR ⟨#[111, 114, 100, 101, 114]⟩ RR))))) = W at *
        have hjl := JJ.lo
        have hjb := JJ.box.lt
        have TT := TfS.fin HR.out hgl JJ
        obtain ⟨k0, k1, k2, k3, k4, k5, k6, k7, k8, k9, k10, k11, k12⟩ := JJ.box.cells
        obtain ⟨m0, m1, m2, m3, m4, m5, m6, m7, m8, m9, m10, m11, m12⟩ := JJ.zero.cells
        obtain ⟨n0, n1, n2, n3, n4, n5, n6, n7, n8, n9, n10, n11, n12⟩ := JJ.zero.free
        replace TT : Hid _ := hid TT
        clear I11 JJ HR
        go_wp2
        refine bodyPost_ret (v := stV sv) (by simp [results, Tryz.results73, go_sem, stV, m0, m1, m2, m3, m4, m5, m6, m7, m8, m9, m10, m11, m12]) rfl ?_
        exact TT.out

end Go.Proofs.YtnboooaockgoiaaGreatDoor
