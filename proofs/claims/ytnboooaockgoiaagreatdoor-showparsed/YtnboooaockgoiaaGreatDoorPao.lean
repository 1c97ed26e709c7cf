import Derived.Test.YtnboooaockgoiaaGreatDoorPan
namespace Go.Proofs.YtnboooaockgoiaaGreatDoor
open Go.RowKit
set_option linter.unusedVariables false

theorem take_start (t : ByteArray) (k : Int) (S : Sa) : takeR t (startR k S) = startR k (takeS t S) := by
  match S with
  | .inl x => rfl
  | .inr ts =>
    show (.inr (sm k, if isTk t ts then ts.tail else ts) : Re Sm) = startR k (if isTk t ts then .inr ts.tail else .inr ts)
    split <;> rfl
def up_kn (k : Int) (m : Sm) (x : ByteArray) : Sm := { m with kind := k, name := x }
def up_kt (k : Int) (m : Sm) (x : ByteArray) : Sm := { m with kind := k, table := x }
theorem kn_eq (k : Int) (S : Sa) : fillR nameP up_nm (startR k S) = fillR nameP (up_kn k) (startR 0 S) := by
  cases S with
  | inl x => rfl
  | inr ts => rfl
theorem kt_eq (k : Int) (S : Sa) : fillR nameP up_tb (startR k S) = fillR nameP (up_kt k) (startR 0 S) := by
  cases S with
  | inl x => rfl
  | inr ts => rfl
theorem Jn.knm {g q : Nat} {w : World} {S : Sa} {w1 w2 : World} (h : Jn g q w (startR 0 S) w1 (zS 0)) (hg : g < w.heap.size) {x : ByteArray} (hb : But g w1 w2) (hr : Rf w2 g (stO (runP nameP S)) 0) (hu : ∀ u r, runP nameP S = .inr (u, r) → x = u) (k : Int) :
    Jn g q w (fillR nameP up_nm (startR k S)) ((w2.setCell ⟨q, 0, none⟩ (.int .i64 k)).setCell ⟨q, 2, none⟩ (.string x)) { zS k with nm := x } := by
  have hl := h.lo
  refine (h.fill (P := nameP) (f := up_kn k) hg (((Bu.of hb).put 0 _).put 2 _) (by rw [start_st]; exact (hr.other (by omega) _ _).other (by omega) _ _) (((h.box.but hb (by omega)).set0 k).set2 x) fun m u q' r e1 e2 his hin => ?_).conv (kn_eq k S)
  rw [start_st] at e2
  exact ⟨⟨rfl, his.tb, hu u r e2, his.co, his.ta, his.va, his.it, his.jn, his.on, his.wh, his.od, his.ds⟩, rfl⟩
theorem Jn.ktb {g q : Nat} {w : World} {S : Sa} {w1 w2 : World} (h : Jn g q w (startR 0 S) w1 (zS 0)) (hg : g < w.heap.size) {x : ByteArray} (hb : But g w1 w2) (hr : Rf w2 g (stO (runP nameP S)) 0) (hu : ∀ u r, runP nameP S = .inr (u, r) → x = u) (k : Int) :
    Jn g q w (fillR nameP up_tb (startR k S)) ((w2.setCell ⟨q, 0, none⟩ (.int .i64 k)).setCell ⟨q, 1, none⟩ (.string x)) { zS k with tb := x } := by
  have hl := h.lo
  refine (h.fill (P := nameP) (f := up_kt k) hg (((Bu.of hb).put 0 _).put 1 _) (by rw [start_st]; exact (hr.other (by omega) _ _).other (by omega) _ _) (((h.box.but hb (by omega)).set0 k).set1 x) fun m u q' r e1 e2 his hin => ?_).conv (kt_eq k S)
  rw [start_st] at e2
  exact ⟨⟨rfl, hu u r e2, his.nm, his.co, his.ta, his.va, his.it, his.jn, his.on, his.wh, his.od, his.ds⟩, rfl⟩
def setK (k : Int) (R : Re Sm) : Re Sm := mapR (fun m => { m with kind := k }) R
theorem Jn.setk {g q : Nat} {w : World} {R : Re Sm} {w1 : World} {s : Sv} (h : Jn g q w R w1 s) (hg : g < w.heap.size) (k : Int) : Jn g q w (setK k R) (w1.setCell ⟨q, 0, none⟩ (.int .i64 k)) { s with k := k } := by
  have hl := h.lo
  refine ⟨h.but.new (by omega) _ _, by rw [setK, stO_mapR]; exact h.rf.other (by omega) _ _, h.lo, h.box.set0 k, h.zero.other (by omega) _ _, fun m r e => ?_⟩
  obtain ⟨u, e2, rfl⟩ := mapR_inr e
  obtain ⟨h1, h2⟩ := h.is u r e2
  exact ⟨{ h1.keep (fun b hq hlt => Below.heap_setCell _ _ _ _ (by show b ≠ q; omega)) with k := rfl }, h2⟩
theorem setK_want (k : Int) (t : ByteArray) (R : Re Sm) : setK k (wantR t R) = wantR t (setK k R) := by
  cases R with
  | inl x => rfl
  | inr x =>
    show setK k (if isTk t x.2 then _ else _) = (if isTk t x.2 then _ else _)
    split <;> rfl
theorem setK_ta (k : Int) (P : List Tk → Re (List Int)) (R : Re Sm) : setK k (fillR P up_ta R) = fillR P up_ta (setK k R) := by
  cases R with
  | inl x => rfl
  | inr x =>
    show setK k (mapR (up_ta x.1) (P x.2)) = mapR (up_ta { x.1 with kind := k }) (P x.2)
    cases P x.2 <;> rfl
theorem setK_nm (k : Int) (P : List Tk → Re ByteArray) (R : Re Sm) : setK k (fillR P up_nm R) = fillR P up_nm (setK k R) := by
  cases R with
  | inl x => rfl
  | inr x =>
    show setK k (mapR (up_nm x.1) (P x.2)) = mapR (up_nm { x.1 with kind := k }) (P x.2)
    cases P x.2 <;> rfl
theorem setK_start (k k' : Int) (S : Sa) : setK k (startR k' S) = startR k S := by cases S <;> rfl
theorem setK_door (S : Sa) : wantR ⟨#[97, 115]⟩ (fillR tagsP up_ta (wantR ⟨#[115, 116, 114, 105, 112]⟩ (fillR nameP up_nm (startR 3 S)))) = setK 3 (wantR ⟨#[97, 115]⟩ (fillR tagsP up_ta (wantR ⟨#[115, 116, 114, 105, 112]⟩ (fillR nameP up_nm (startR 4 S))))) := by
  rw [setK_want, setK_ta, setK_want, setK_nm, setK_start]
/-- The document reads tags unless 'as' stands there. -/
def asP (ts : List Tk) : Re (List Int) := if isTk ⟨#[97, 115]⟩ ts then .inr ([], ts) else listP tagP ts
theorem isTk_3 {s : ByteArray} {ts : List Tk} (h : isTk s ts = true) : kdOf ts ≠ 3 := by
  match ts with
  | [] => cases h
  | t :: _ =>
    have h' : ((decide (t.1 = 2) || decide (t.1 = 5)) && decide (t.2.1 = s)) = true := h
    simp only [Bool.and_eq_true, Bool.or_eq_true, decide_eq_true_eq] at h'
    show t.1 ≠ 3
    rcases h'.1 with e | e <;> rw [e] <;> decide
theorem tag_none {ts : List Tk} (h : kdOf ts ≠ 3) : listP tagP ts = .inl (atOf ts, 5) := by
  have e : tagP ts = .inl (atOf ts, 5) := by
    match ts with
    | [] => rfl
    | t :: r =>
      have h' : t.1 ≠ 3 := h
      rw [tagP, if_neg h']
      rfl
  rw [listP, e]
  rfl
theorem as_eq (R : Re Sm) : wantR ⟨#[97, 115]⟩ (fillR tagsP up_ta R) = wantR ⟨#[97, 115]⟩ (fillR asP up_ta R) := by
  match R with
  | .inl x => rfl
  | .inr (m, ts) =>
    have e1 : fillR tagsP up_ta (.inr (m, ts)) = mapR (up_ta m) (tagsP ts) := rfl
    have e2 : fillR asP up_ta (.inr (m, ts)) = mapR (up_ta m) (asP ts) := rfl
    rw [e1, e2, tagsP, asP]
    by_cases ha : isTk ⟨#[97, 115]⟩ ts = true
    · rw [if_pos ha, if_neg (isTk_3 ha)]
    · rw [if_neg ha]
      by_cases h3 : kdOf ts = 3
      · rw [if_pos h3]
      · rw [if_neg h3, tag_none h3]
        show (if isTk ⟨#[97, 115]⟩ ts then _ else _) = _
        rw [if_neg ha]
        rfl
theorem as_list {R : Re Sm} (h : okSe (stO R) = true → takeB ⟨#[97, 115]⟩ (stO R) = false) : fillR asP up_ta R = fillR (listP tagP) up_ta R := by
  match R, h with
  | .inl x, h => rfl
  | .inr (m, ts), h =>
    have h' : isTk ⟨#[97, 115]⟩ ts = false := h rfl
    show mapR (up_ta m) (asP ts) = mapR (up_ta m) (listP tagP ts)
    rw [asP, if_neg (by rw [h']; simp)]
theorem Jn.as0 {g q : Nat} {w : World} {R : Re Sm} {w1 : World} {s : Sv} (h : Jn g q w R w1 s) (hb : okSe (stO R) = true → takeB ⟨#[97, 115]⟩ (stO R) = true) (hs : s.ta = (none, 0, 0)) : Jn g q w (fillR asP up_ta R) w1 s := by
  match R, h, hb with
  | .inl x, h, hb => exact ⟨h.but, h.rf, h.lo, h.box, h.zero, fun m r e => by cases e⟩
  | .inr (m, ts), h, hb =>
    have h' : isTk ⟨#[97, 115]⟩ ts = true := hb rfl
    have e1 : fillR asP up_ta (.inr (m, ts)) = .inr (up_ta m [], ts) := by
      show mapR (up_ta m) (asP ts) = _
      rw [asP, if_pos h']
      rfl
    rw [e1]
    refine ⟨h.but, h.rf, h.lo, h.box, h.zero, fun m' r e => ?_⟩
    cases e
    obtain ⟨h1, h2⟩ := h.is m ts rfl
    exact ⟨{ h1 with ta := by rw [hs]; exact RowIs.nil _ _ _ }, h2⟩
theorem closure_run (S : Sa) : runP (dispP ⟨#[99, 108, 111, 115, 117, 114, 101]⟩ (doorP 4 changeP) failP) S = runP (doorP 4 changeP) (wantS ⟨#[99, 108, 111, 115, 117, 114, 101]⟩ S) := by
  match S with
  | .inl x => rfl
  | .inr ts =>
    show dispP ⟨#[99, 108, 111, 115, 117, 114, 101]⟩ (doorP 4 changeP) failP ts = runP (doorP 4 changeP) (if isTk ⟨#[99, 108, 111, 115, 117, 114, 101]⟩ ts then .inr ts.tail else .inl (atOf ts, 5))
    rw [dispP]
    split <;> rfl

set_option maxRecDepth 100000 in
set_option maxHeartbeats 8000000 in
theorem fCreateT {g : Nat} {S : Sa} {w : World} (h : Rf w g S 0) (h1 : takeB ⟨#[116, 97, 98, 108, 101]⟩ S = true) : Calls Tryz.prog 71 #[.pointer (some ⟨g, 0, none⟩)] w (TfF g w (runP createP S)) := by
  have hgl := h.lt
  have I0 : Jn g (w.heap.size + 1) w (startR 0 S) ((w.alloc (.cells #[.int .i64 0, .string ⟨#[]⟩, .string ⟨#[]⟩, .slice none 0 0, .slice none 0 0, .slice none 0 0, .slice none 0 0, .string ⟨#[]⟩, .slice none 0 0, .slice none 0 0, .slice none 0 0, .bool false, .slice none 0 0] 48)).alloc (.cells #[.int .i64 0, .string ⟨#[]⟩, .string ⟨#[]⟩, .slice none 0 0, .slice none 0 0, .slice none 0 0, .slice none 0 0, .string ⟨#[]⟩, .slice none 0 0, .slice none 0 0, .slice none 0 0, .bool false, .slice none 0 0] 48)) (zS 0) := by
    have := (Wf.start h).jn 0
    rw [World.size_alloc] at this
    exact this
  have hqg : w.heap.size + 1 ≠ g := by omega
  have HR : Hid (runP createP S = runP (plain tableP) (takeS ⟨#[116, 97, 98, 108, 101]⟩ S)) := hid (disp_true h1)
  have HP : Hid _ := hid ((tableP_run (takeS ⟨#[116, 97, 98, 108, 101]⟩ S)).trans (br_fill _ _ _))
  generalize hq : w.heap.size + 1 = q at *
  clear h
  go_enter Tryz.func71, Tryz.ntmps71
  have HT1 := fTake_any I0.rf ⟨#[116, 97, 98, 108, 101]⟩
  rw [start_st, h1] at HT1
  replace HT1 : Hid _ := hid HT1
  go_wp2_with fail
  refine Calls.mono HT1.out ?_
  rintro e w1 ⟨rfl, hr1, hb1⟩
  have I1 := (I0.take (t := ⟨#[116, 97, 98, 108, 101]⟩) hgl (by rw [start_st]; exact hr1) hb1).conv (take_start ⟨#[116, 97, 98, 108, 101]⟩ 0 S).symm
  clear HT1 hr1 hb1 I0
  clear hq
  generalize takeS ⟨#[116, 97, 98, 108, 101]⟩ S = S1 at *
  have H2 : Hid _ := hid (fName_any I1.rf)
  rw [start_st] at H2
  go_wp2_with fail
  refine Calls.mono H2.out ?_
  rintro e w2 ⟨s2, rfl, hb2, hr2, hu2⟩
  have y2 := I1.box.but hb2 hqg
  have cy2 := y2.cells.2.2.1
  have fy2 := y2.free.2.2.1
  have cz2 := y2.cells.1
  have fz2 := y2.free.1
  have yl2 := y2.lt
  have I2 := I1.knm hgl hb2 hr2 hu2 1
  clear H2 hr2 hb2 hu2 I1 y2
  have H3 : Hid _ := hid (fMust_any I2.rf ⟨#[40]⟩)
  go_wp2_with fail
  refine Calls.mono H3.out ?_
  rintro e w3 ⟨rfl, hr3, hb3⟩
  have I3 := I2.want hgl hr3 hb3
  clear H3 hr3 hb3 I2
  have hf0 := I3.rf.few
  have hbox := I3.box
  have hlo := I3.lo
  have hql : q < w3.heap.size := hbox.lt
  have hgq : g < q := by omega
  have HC : Hid _ := hid (fCol_any (I3.rf.drew))
  have HLs : Hid (∀ (cs : List Value) (E : _ → List Value → Prop), (∀ t r, runP colP (stO (wantR ⟨#[40]⟩ (fillR nameP up_nm (startR 1 S1)))) = .inr (t, r) → E t cs) → LiR colP (runP (listP colP) (stO (wantR ⟨#[40]⟩ (fillR nameP up_nm (startR 1 S1))))) (stO (runP colP (stO (wantR ⟨#[40]⟩ (fillR nameP up_nm (startR 1 S1)))))) [cs] E) := hid fun cs E k => LiR.start k
  have HRf : Hid _ := hid I3
  have hxd : Bs w3.drew q ({ zS 1 with nm := s2 } : Sv) := hbox.keep rfl
  have hgd : w3.drew.heap.size = w3.heap.size := rfl
  have kf : w3.cell? ⟨q, 3, none⟩ = some (.slice none 0 0) := hbox.cells.2.2.2.1
  clear I3
  generalize hS0 : stO (wantR ⟨#[40]⟩ (fillR nameP up_nm (startR 1 S1))) = S0 at HC HLs hf0
  generalize hRR : runP (listP colP) S0 = R1 at *
  go_upto_region 5 with fail
  go_cut [] (fun w' => ∃ (css : List (List Value)) (sl : Sl), Rf w' g (stO (runP colP S0)) 0 ∧ Bu g q w3 w' ∧ Bs w' q { ({ zS 1 with nm := s2 } : Sv) with co := sl } ∧ OwnR 62 3 w3.heap.size w' (slV sl) css ∧ css ≠ [] ∧ css.length + szS (stO (runP colP S0)) ≤ 501 ∧ Hid (LiR colP R1 (stO (runP colP S0)) css fun t cs => eCol.E (fun b => w3.heap.size ≤ b ∧ some b ≠ (slV sl).ownBlock) w' t cs))
  case first =>
   go_region_law (first
     | (go_simp; refine Calls.mono HC.out ?_; rintro e z1 ⟨x1, k1, f1, rfl, hb1, hr1, hx1⟩; have y1 := hxd.but hb1 (by omega); have cy : z1.cell? ⟨q, 3, none⟩ = some (.slice none 0 0) := y1.cells.2.2.2.1; have hsz1 := hb1.size; have hyl := y1.lt; skip)
     | (refine step_appR (B := w3.heap.size) (by rfl) (.tmp 15) (.tmp 18) (by rfl) Tryz.underlying30 Tryz.infoTCol rfl (by decide) (by decide) _ [] z1.heap.size [.string x1, .int .i64 k1, .string f1] (by rfl) (by rfl) (OwnR.nil _ _ _ _) rfl (one_col _ _ _) (new3 z1 _ _ _ _) (by simp) (by rw [World.size_alloc]; omega) ?_; intro v' w6 hO6 hg6 hown; obtain ⟨ao, n, c, rfl⟩ := hO6.sl; have hz6 := (y1.later (bal (Below.refl _ z1) (.cells #[.string x1, .int .i64 k1, .string f1] 62))).grown hg6 (fun k e => by cases e); have cz : w6.cell? ⟨q, 3, none⟩ = some (.slice none 0 0) := hz6.cells.2.2.2.1; have fz := hz6.free.2.2.2.1; have hzl := hz6.lt))
   all_goals
     have hB6 : Bu g q w3 w6 := Bu.grown (B := 0) (Bu.of (show But g w3 (z1.alloc (.cells #[.string x1, .int .i64 k1, .string f1] 62)) from ⟨(hb1.alloc (.cells #[.string x1, .int .i64 k1, .string f1] 62)).os, (hb1.alloc (.cells #[.string x1, .int .i64 k1, .string f1] 62)).tape, (hb1.alloc (.cells #[.string x1, .int .i64 k1, .string f1] 62)).output, (hb1.alloc (.cells #[.string x1, .int .i64 k1, .string f1] 62)).size, (hb1.alloc (.cells #[.string x1, .int .i64 k1, .string f1] 62)).block⟩)) hg6 (fun k e => by cases e)
     have hr6 : Rf w6 g (stO (runP colP S0)) 0 := (hr1.alloc (.cells #[.string x1, .int .i64 k1, .string f1] 62)).grown hg6 (fun k e => by cases e)
     have hB7 := hB6.put 3 (.slice ao n c)
     have hr7 := hr6.other hgq 3 (.slice ao n c)
     have x7 := hz6.set3 (ao, n, c)
     have hO7 : OwnR 62 3 w3.heap.size (w6.setCell ⟨q, 3, none⟩ (.slice ao n c)) (slV (ao, n, c)) [[.string x1, .int .i64 k1, .string f1]] := hO6.bu (Bu.set g q 3 w6 (.slice ao n c)) (by omega) hql
     have HE7 : Hid (LiR colP R1 (stO (runP colP S0)) [[.string x1, .int .i64 k1, .string f1]] fun t cs => eCol.E (fun b => w3.heap.size ≤ b ∧ some b ≠ (slV (ao, n, c)).ownBlock) (w6.setCell ⟨q, 3, none⟩ (.slice ao n c)) t cs) := hid (HLs.out _ _ fun t r e =>
       eCol.keep (w := w6) (fun b hq hlt => Below.heap_setCell _ _ _ _ (by show b ≠ q; omega)) (eCol.grow (row := none) (eCol.keep (w := z1) (fun b hq hlt => (bal (Below.refl _ z1) _).block b hlt) (eCol.mono (Q := fun b => w3.heap.size ≤ b) (fun b hq _ => ⟨hq, by simp⟩) (by rw [← hx1 t r e]; rfl))) hg6 (by first | exact hown | simpa using hown)))
     have hc7 : ([[.string x1, .int .i64 k1, .string f1]] : List (List Value)).length + szS (stO (runP colP S0)) ≤ 501 := by
       have := hr7.few
       simp only [List.length_singleton]
       omega
     have hne7 : ([[.string x1, .int .i64 k1, .string f1]] : List (List Value)) ≠ [] := by simp
     clear HC HLs hb1 hr1 hx1 hg6 hown y1 cy hB6 hr6 hO6 hz6 cz fz hzl hyl hsz1 hxd kf
     go_wp2_with fail
     go_meet
     exact ⟨_, (ao, n, c), hr7, hB7, x7, hO7, hne7, hc7, HE7⟩
  case rest =>
    obtain ⟨css0, sl0, hr7, hB7, x7, hO7, hne7, hc7, HE7⟩ := hcut
    clear HC HLs hxd kf
    go_wp2
    go_loopw [] (fun wr => ∃ (S1 : Sa) (css : List (List Value)) (sl : Sl), Rf wr g S1 0 ∧ Bu g q w3 wr ∧ Bs wr q { ({ zS 1 with nm := s2 } : Sv) with co := sl } ∧ OwnR 62 3 w3.heap.size wr (slV sl) css ∧ css ≠ [] ∧ css.length + szS S1 ≤ 501 ∧ Hid (LiR colP R1 S1 css fun t cs => eCol.E (fun b => w3.heap.size ≤ b ∧ some b ≠ (slV sl).ownBlock) wr t cs)) (fun wr => szF g wr)
    case atStart => exact ⟨stO (runP colP S0), css0, sl0, hr7, hB7, x7, hO7, hne7, hc7, HE7⟩
    case round =>
      clear hr7 hB7 x7 hO7 hne7 hc7 HE7
      obtain ⟨S2, css, ⟨ao, n, c⟩, hr, hB, hx, ho, hne, hcs, HE⟩ := hrel
      have hm := hr.sz
      have HT := fTake_any hr ⟨#[44]⟩
      cases hb : takeB ⟨#[44]⟩ S2 with
      | false =>
        obtain ⟨e1, e2⟩ := HE.out.stop hb
        rw [hb, takeB_false hb, ← e1] at HT
        replace HT : Hid _ := hid HT
        have E2 : Hid _ := hid e2
        clear hb e1 e2 HE hm hr
        go_wp2_with fail
        refine Calls.mono HT.out ?_
        rintro e w9 ⟨rfl, hr9, hb9⟩
        have hB9 := hB.on hb9
        have x9 := hx.but hb9 (by omega)
        have ho9 := ho.but hb9 (by omega)
        have I9 := Jn.fill (P := listP colP) (f := up_co) (s' := { ({ zS 1 with nm := s2 } : Sv) with co := (ao, n, c) }) HRf.out hgl hB9 (by rw [hS0, hRR]; exact hr9) x9 (fun m u q' r _ e his hin => ⟨{ his with co := (OwnR.row (e := eCol) (Q := fun b => w3.heap.size ≤ b) ho9 (E2.out u r (by rw [← hRR, ← hS0]; exact e)).1 hne (fun b hb _ => hb) (fun i a b => eCol.keep (fun b hb hlt => hb9.block b hlt (by omega)) (eCol.mono (fun b hb _ => hb.1) ((E2.out u r (by rw [← hRR, ← hS0]; exact e)).2 i a b)))).mono (by decide) (fun b hb _ => ⟨by omega, by omega⟩) }, hin⟩)
        clear HT HRf E2 hb9 hB9 x9 ho9 hB hx ho hne hcs hr9 hS0 hRR hbox hf0
        have H10 : Hid _ := hid (fMust_any I9.rf ⟨#[41]⟩)
        go_wp2_with fail
        refine Calls.mono H10.out ?_
        rintro e w10 ⟨rfl, hr10, hb10⟩
        have I10 := I9.want hgl hr10 hb10
        clear H10 hr10 hb10 I9
        obtain ⟨sv, JJ⟩ : ∃ sv, Jn g q w _ _ sv := ⟨_, I10⟩
        have hjl := JJ.lo
        have hjb := JJ.box.lt
        have TT := TfF.plain HR.out HP.out hgl JJ
        obtain ⟨k0, k1, k2, k3, k4, k5, k6, k7, k8, k9, k10, k11, k12⟩ := JJ.box.cells
        obtain ⟨m0, m1, m2, m3, m4, m5, m6, m7, m8, m9, m10, m11, m12⟩ := JJ.zero.cells
        obtain ⟨n0, n1, n2, n3, n4, n5, n6, n7, n8, n9, n10, n11, n12⟩ := JJ.zero.free
        replace TT : Hid _ := hid TT
        clear I10 JJ HR HP
        go_wp2
        refine bodyPost_ret (v := stV sv) (by simp [results, Tryz.results71, go_sem, stV, m0, m1, m2, m3, m4, m5, m6, m7, m8, m9, m10, m11, m12]) rfl ?_
        exact TT.out
      | true =>
        obtain ⟨t, ts, rfl, ht, hT⟩ := takeB_true hb
        obtain ⟨hle, hgo⟩ := HE.out.go shr_col hb
        rw [hb, hT] at HT
        replace HT : Hid _ := hid HT
        have HG : Hid _ := hid hgo
        have HS : Hid _ := hid hle
        have hm' : szF g wr = ts.length + 1 := hm
        have hcs' : css.length + (ts.length + 1) ≤ 501 := hcs
        clear hb hle hgo HE hT hr hm hcs
        go_wp2_with fail
        refine Calls.mono HT.out ?_
        rintro e wt3 ⟨rfl, hr3, hb3⟩
        have hB3 := hB.on hb3
        have hx3 := hx.but hb3 (by omega)
        have ho3 := ho.but hb3 (by omega)
        have HC : Hid _ := hid (fCol_any hr3.drew)
        have hxd : Bs wt3.drew q { ({ zS 1 with nm := s2 } : Sv) with co := (ao, n, c) } := hx3.keep rfl
        have hod : OwnR 62 3 w3.heap.size wt3.drew (slV (ao, n, c)) css := ⟨ho3.1, ho3.2⟩
        have hblk := ho3.blk
        have hgd3 : wt3.drew.heap.size = wt3.heap.size := rfl
        have hsw : w3.heap.size ≤ wt3.heap.size := hB3.size
        have HE3 : Hid (∀ u ds, eCol.E (fun b => w3.heap.size ≤ b ∧ some b ≠ (slV (ao, n, c)).ownBlock) wr u ds → eCol.E (fun b => w3.heap.size ≤ b ∧ some b ≠ (slV (ao, n, c)).ownBlock) wt3 u ds) := hid fun u ds hE => eCol.keep (fun b hq hlt => hb3.block b hlt (by omega)) hE
        have kf : wt3.cell? ⟨q, 3, none⟩ = some (.slice ao n c) := hx3.cells.2.2.2.1
        clear HT hr3 hb3 hB hx hx3 ho ho3
        go_upto_region 7 with fail
        go_region_law (first
          | (go_simp; refine Calls.mono HC.out ?_; rintro e z1 ⟨x1, k1, f1, rfl, hb1, hr1, hx1⟩; have y1 := hxd.but hb1 (by omega); have cy : z1.cell? ⟨q, 3, none⟩ = some (.slice ao n c) := y1.cells.2.2.2.1; have ho5 := (hod.but hb1 (by omega)).alloc (.cells #[.string x1, .int .i64 k1, .string f1] 62); have hsz1 := hb1.size; have hyl := y1.lt; skip)
          | (refine step_appR (B := w3.heap.size) (by rfl) (.tmp 24) (.tmp 27) (by rfl) Tryz.underlying30 Tryz.infoTCol rfl (by decide) (by decide) _ css z1.heap.size [.string x1, .int .i64 k1, .string f1] (by rfl) (by rfl) ho5 rfl (one_col _ _ _) (new3 z1 _ _ _ _) (by omega) (by rw [World.size_alloc]; omega) ?_; intro v' w6 hO6 hg6 hown; obtain ⟨ao', n', c', rfl⟩ := hO6.sl; have hz6 := (y1.later (bal (Below.refl _ z1) (.cells #[.string x1, .int .i64 k1, .string f1] 62))).grown hg6 (fun k e => by have := (hblk k e).1; omega); have cz : w6.cell? ⟨q, 3, none⟩ = some (.slice ao n c) := hz6.cells.2.2.2.1; have fz := hz6.free.2.2.2.1; have hzl := hz6.lt))
        all_goals
          have hB6 : Bu g q w3 w6 := Bu.grown (B := 0) (hB3.on (show But g wt3 (z1.alloc (.cells #[.string x1, .int .i64 k1, .string f1] 62)) from ⟨(hb1.alloc (.cells #[.string x1, .int .i64 k1, .string f1] 62)).os, (hb1.alloc (.cells #[.string x1, .int .i64 k1, .string f1] 62)).tape, (hb1.alloc (.cells #[.string x1, .int .i64 k1, .string f1] 62)).output, (hb1.alloc (.cells #[.string x1, .int .i64 k1, .string f1] 62)).size, (hb1.alloc (.cells #[.string x1, .int .i64 k1, .string f1] 62)).block⟩)) hg6 (fun k e => (hblk k e).1)
          have hr6 : Rf w6 g (stO (runP colP (.inr ts))) 0 := (hr1.alloc (.cells #[.string x1, .int .i64 k1, .string f1] 62)).grown hg6 (fun k e => by have := (hblk k e).1; omega)
          have hB7 := hB6.put 3 (.slice ao' n' c')
          have hr7 := hr6.other hgq 3 (.slice ao' n' c')
          have x7 := hz6.set3 (ao', n', c')
          have hO7 : OwnR 62 3 w3.heap.size (w6.setCell ⟨q, 3, none⟩ (.slice ao' n' c')) (slV (ao', n', c')) (css ++ ([[.string x1, .int .i64 k1, .string f1]] : List (List Value))) := hO6.bu (Bu.set g q 3 w6 (.slice ao' n' c')) (by omega) hql
          have HE7 : Hid (LiR colP R1 (stO (runP colP (.inr ts))) (css ++ ([[.string x1, .int .i64 k1, .string f1]] : List (List Value))) fun t cs => eCol.E (fun b => w3.heap.size ≤ b ∧ some b ≠ (slV (ao', n', c')).ownBlock) (w6.setCell ⟨q, 3, none⟩ (.slice ao' n' c')) t cs) := hid (HG.out _ _
            (fun u ds hE => eCol.keep (w := w6) (fun b hq hlt => Below.heap_setCell _ _ _ _ (by show b ≠ q; omega)) (eCol.grow (eCol.keep (w := z1) (fun b hq hlt => (bal (Below.refl _ z1) _).block b hlt) (eCol.keep (w := wt3) (fun b hq hlt => hb1.block b hlt (by omega)) (HE3.out u ds hE))) hg6 (by first | exact hown | simpa using hown)))
            (fun t r e => eCol.keep (w := w6) (fun b hq hlt => Below.heap_setCell _ _ _ _ (by show b ≠ q; omega)) (eCol.grow (eCol.keep (w := z1) (fun b hq hlt => (bal (Below.refl _ z1) _).block b hlt) (eCol.mono (Q := fun b => wt3.heap.size ≤ b) (fun b hq _ => ⟨by omega, fun k => by have := (hblk b k.symm).2; omega⟩) (by rw [← hx1 t r e]; rfl))) hg6 (by first | exact hown | simpa using hown))))
          have hm7 := hr7.sz
          have hs7 : szS (stO (runP colP (.inr ts))) ≤ ts.length := HS.out
          have hc7 : (css ++ ([[.string x1, .int .i64 k1, .string f1]] : List (List Value))).length + szS (stO (runP colP (.inr ts))) ≤ 501 := by simp only [List.length_append, List.length_singleton]; omega
          clear HC HG HE3 hb1 hr1 hx1 hg6 hown y1 cy ho5 hB6 hr6 hO6 hz6 cz fz hzl hyl hsz1 hxd hod hblk hB3 kf
          generalize w6.setCell ⟨q, 3, none⟩ (.slice ao' n' c') = w7 at *
          go_wp2
          go_roundw
          case rel => exact ⟨stO (runP colP (.inr ts)), css ++ ([[.string x1, .int .i64 k1, .string f1]] : List (List Value)), (ao', n', c'), hr7, hB7, x7, hO7, by simp, hc7, HE7⟩
          case measure =>
            rw [hm7]
            omega

set_option maxRecDepth 100000 in
set_option maxHeartbeats 8000000 in
theorem fCreateI {g : Nat} {S : Sa} {w : World} (h : Rf w g S 0) (h1 : takeB ⟨#[116, 97, 98, 108, 101]⟩ S = false) (h2 : takeB ⟨#[105, 110, 100, 101, 120]⟩ S = true) : Calls Tryz.prog 71 #[.pointer (some ⟨g, 0, none⟩)] w (TfF g w (runP createP S)) := by
  have hgl := h.lt
  have I0 : Jn g (w.heap.size + 1) w (startR 0 S) ((w.alloc (.cells #[.int .i64 0, .string ⟨#[]⟩, .string ⟨#[]⟩, .slice none 0 0, .slice none 0 0, .slice none 0 0, .slice none 0 0, .string ⟨#[]⟩, .slice none 0 0, .slice none 0 0, .slice none 0 0, .bool false, .slice none 0 0] 48)).alloc (.cells #[.int .i64 0, .string ⟨#[]⟩, .string ⟨#[]⟩, .slice none 0 0, .slice none 0 0, .slice none 0 0, .slice none 0 0, .string ⟨#[]⟩, .slice none 0 0, .slice none 0 0, .slice none 0 0, .bool false, .slice none 0 0] 48)) (zS 0) := by
    have := (Wf.start h).jn 0
    rw [World.size_alloc] at this
    exact this
  have hqg : w.heap.size + 1 ≠ g := by omega
  have HR : Hid (runP createP S = runP (plain indexP) (takeS ⟨#[105, 110, 100, 101, 120]⟩ S)) := hid ((disp_false h1).trans (disp_true h2))
  have HP : Hid _ := hid (indexP_run (takeS ⟨#[105, 110, 100, 101, 120]⟩ S))
  generalize hq : w.heap.size + 1 = q at *
  clear h
  go_enter Tryz.func71, Tryz.ntmps71
  have HT1 := fTake_any I0.rf ⟨#[116, 97, 98, 108, 101]⟩
  rw [start_st, h1, takeB_false h1] at HT1
  replace HT1 : Hid _ := hid HT1
  go_wp2_with fail
  refine Calls.mono HT1.out ?_
  rintro e w1 ⟨rfl, hr1, hb1⟩
  have I1 := I0.same hgl (by rw [start_st]; exact hr1) hb1
  clear HT1 hr1 hb1 I0
  clear hq
  have HT2 := fTake_any I1.rf ⟨#[105, 110, 100, 101, 120]⟩
  rw [start_st, h2] at HT2
  replace HT2 : Hid _ := hid HT2
  go_wp2_with fail
  refine Calls.mono HT2.out ?_
  rintro e w2 ⟨rfl, hr2, hb2⟩
  have I2 := (I1.take (t := ⟨#[105, 110, 100, 101, 120]⟩) hgl (by rw [start_st]; exact hr2) hb2).conv (take_start ⟨#[105, 110, 100, 101, 120]⟩ 0 S).symm
  clear HT2 hr2 hb2 I1
  generalize takeS ⟨#[105, 110, 100, 101, 120]⟩ S = S1 at *
  have H3 : Hid _ := hid (fMust_any I2.rf ⟨#[111, 110]⟩)
  go_wp2_with fail
  refine Calls.mono H3.out ?_
  rintro e w3 ⟨rfl, hr3, hb3⟩
  have I3 := (I2.want hgl hr3 hb3).conv (want_start ⟨#[111, 110]⟩ 0 S1).symm
  clear H3 hr3 hb3 I2
  rw [want_start] at HP
  generalize wantS ⟨#[111, 110]⟩ S1 = S3 at *
  have H4 : Hid _ := hid (fName_any I3.rf)
  rw [start_st] at H4
  go_wp2_with fail
  refine Calls.mono H4.out ?_
  rintro e w4 ⟨s4, rfl, hb4, hr4, hu4⟩
  have y4 := I3.box.but hb4 hqg
  have cy4 := y4.cells.2.1
  have fy4 := y4.free.2.1
  have cz4 := y4.cells.1
  have fz4 := y4.free.1
  have yl4 := y4.lt
  have I4 := I3.ktb hgl hb4 hr4 hu4 2
  clear H4 hr4 hb4 hu4 I3 y4
  have H5 : Hid _ := hid (fMust_any I4.rf ⟨#[40]⟩)
  go_wp2_with fail
  refine Calls.mono H5.out ?_
  rintro e w5 ⟨rfl, hr5, hb5⟩
  have I5 := I4.want hgl hr5 hb5
  clear H5 hr5 hb5 I4
  have H6 : Hid _ := hid (fName_any I5.rf)
  go_wp2_with fail
  refine Calls.mono H6.out ?_
  rintro e w6 ⟨s6, rfl, hb6, hr6, hu6⟩
  have y6 := I5.box.but hb6 hqg
  have cy6 := y6.cells.2.2.1
  have fy6 := y6.free.2.2.1
  have yl6 := y6.lt
  have I6 := I5.nm hgl hb6 hr6 hu6
  clear H6 hr6 hb6 hu6 I5 y6
  have H7 : Hid _ := hid (fMust_any I6.rf ⟨#[41]⟩)
  go_wp2_with fail
  refine Calls.mono H7.out ?_
  rintro e w7 ⟨rfl, hr7, hb7⟩
  have I7 := I6.want hgl hr7 hb7
  clear H7 hr7 hb7 I6
  obtain ⟨sv, JJ⟩ : ∃ sv, Jn g q w _ _ sv := ⟨_, I7⟩
  have hjl := JJ.lo
  have hjb := JJ.box.lt
  have TT := TfF.plain HR.out HP.out hgl JJ
  obtain ⟨k0, k1, k2, k3, k4, k5, k6, k7, k8, k9, k10, k11, k12⟩ := JJ.box.cells
  obtain ⟨m0, m1, m2, m3, m4, m5, m6, m7, m8, m9, m10, m11, m12⟩ := JJ.zero.cells
  obtain ⟨n0, n1, n2, n3, n4, n5, n6, n7, n8, n9, n10, n11, n12⟩ := JJ.zero.free
  replace TT : Hid _ := hid TT
  clear I7 JJ HR HP
  go_wp2
  refine bodyPost_ret (v := stV sv) (by simp [results, Tryz.results71, go_sem, stV, m0, m1, m2, m3, m4, m5, m6, m7, m8, m9, m10, m11, m12]) rfl ?_
  exact TT.out

set_option maxRecDepth 100000 in
set_option maxHeartbeats 8000000 in
theorem fCreateV {g : Nat} {S : Sa} {w : World} (h : Rf w g S 0) (h1 : takeB ⟨#[116, 97, 98, 108, 101]⟩ S = false) (h2 : takeB ⟨#[105, 110, 100, 101, 120]⟩ S = false) (h3 : takeB ⟨#[118, 105, 101, 119]⟩ S = true) : Calls Tryz.prog 71 #[.pointer (some ⟨g, 0, none⟩)] w (TfF g w (runP createP S)) := by
  have hgl := h.lt
  have I0 : Jn g (w.heap.size + 1) w (startR 0 S) ((w.alloc (.cells #[.int .i64 0, .string ⟨#[]⟩, .string ⟨#[]⟩, .slice none 0 0, .slice none 0 0, .slice none 0 0, .slice none 0 0, .string ⟨#[]⟩, .slice none 0 0, .slice none 0 0, .slice none 0 0, .bool false, .slice none 0 0] 48)).alloc (.cells #[.int .i64 0, .string ⟨#[]⟩, .string ⟨#[]⟩, .slice none 0 0, .slice none 0 0, .slice none 0 0, .slice none 0 0, .string ⟨#[]⟩, .slice none 0 0, .slice none 0 0, .slice none 0 0, .bool false, .slice none 0 0] 48)) (zS 0) := by
    have := (Wf.start h).jn 0
    rw [World.size_alloc] at this
    exact this
  have hqg : w.heap.size + 1 ≠ g := by omega
  have HR : Hid (runP createP S = _) := hid (((disp_false h1).trans ((disp_false h2).trans (disp_true h3))).trans (doorP_run 3 queryP (takeS ⟨#[118, 105, 101, 119]⟩ S)))
  generalize hq : w.heap.size + 1 = q at *
  clear h
  go_enter Tryz.func71, Tryz.ntmps71
  have HT1 := fTake_any I0.rf ⟨#[116, 97, 98, 108, 101]⟩
  rw [start_st, h1, takeB_false h1] at HT1
  replace HT1 : Hid _ := hid HT1
  go_wp2_with fail
  refine Calls.mono HT1.out ?_
  rintro e w1 ⟨rfl, hr1, hb1⟩
  have I1 := I0.same hgl (by rw [start_st]; exact hr1) hb1
  clear HT1 hr1 hb1 I0
  clear hq
  have HT2 := fTake_any I1.rf ⟨#[105, 110, 100, 101, 120]⟩
  rw [start_st, h2, takeB_false h2] at HT2
  replace HT2 : Hid _ := hid HT2
  go_wp2_with fail
  refine Calls.mono HT2.out ?_
  rintro e w2 ⟨rfl, hr2, hb2⟩
  have I2 := I1.same hgl (by rw [start_st]; exact hr2) hb2
  clear HT2 hr2 hb2 I1
  have HT3 := fTake_any I2.rf ⟨#[118, 105, 101, 119]⟩
  rw [start_st, h3] at HT3
  replace HT3 : Hid _ := hid HT3
  go_wp2_with fail
  refine Calls.mono HT3.out ?_
  rintro e w3 ⟨rfl, hr3, hb3⟩
  have I3 := (I2.take (t := ⟨#[118, 105, 101, 119]⟩) hgl (by rw [start_st]; exact hr3) hb3).conv (take_start ⟨#[118, 105, 101, 119]⟩ 0 S).symm
  clear HT3 hr3 hb3 I2
  generalize takeS ⟨#[118, 105, 101, 119]⟩ S = S1 at *
  have H4 : Hid _ := hid (fName_any I3.rf)
  rw [start_st] at H4
  go_wp2_with fail
  refine Calls.mono H4.out ?_
  rintro e w4 ⟨s4, rfl, hb4, hr4, hu4⟩
  have y4 := I3.box.but hb4 hqg
  have cy4 := y4.cells.2.2.1
  have fy4 := y4.free.2.2.1
  have cz4 := y4.cells.1
  have fz4 := y4.free.1
  have yl4 := y4.lt
  have I4 := I3.knm hgl hb4 hr4 hu4 4
  clear H4 hr4 hb4 hu4 I3 y4
  have H5 : Hid _ := hid (fMust_any I4.rf ⟨#[115, 116, 114, 105, 112]⟩)
  go_wp2_with fail
  refine Calls.mono H5.out ?_
  rintro e w5 ⟨rfl, hr5, hb5⟩
  have I5 := I4.want hgl hr5 hb5
  clear H5 hr5 hb5 I4
  have HI : Hid _ := hid (fIs_any I5.rf ⟨#[97, 115]⟩)
  go_wp2_with fail
  refine Calls.mono HI.out ?_
  rintro e w6 ⟨B, rfl, hb6, hB⟩
  have I6 := I5.same hgl (I5.rf.later hb6) (But.of hb6)
  clear HI I5 hb6
  go_upto_if 64 with fail
  go_cut [] (fun w' => ∃ sv, Jn g q w (fillR asP up_ta (wantR ⟨#[115, 116, 114, 105, 112]⟩ (fillR nameP up_nm (startR 4 S1)))) w' sv)
  case first =>
    cases B with
    | true =>
      have I7 := I6.as0 (fun k => (hB k).symm) rfl
      clear hB I6
      go_wp2_with fail
      go_meet
      exact ⟨_, I7⟩
    | false =>
      have E1 : Hid _ := hid (as_list (R := (wantR ⟨#[115, 116, 114, 105, 112]⟩ (fillR nameP up_nm (startR 4 S1)))) fun k => (hB k).symm)
      have HL : Hid _ := hid (fTags_any I6.rf)
      clear hB
      go_wp2_with fail
      refine Calls.mono HL.out ?_
      rintro e w7 ⟨ao, ln, cp, rfl, hb7, hr7, hu7⟩
      have y7 := I6.box.but hb7 hqg
      have cy7 := y7.cells.2.2.2.2.1
      have fy7 := y7.free.2.2.2.2.1
      have yl7 := y7.lt
      have I7 := (I6.ta (v := (ao, ln, cp)) hgl hb7 hr7 hu7).conv E1.out
      clear HL hb7 hr7 hu7 y7 I6 E1
      go_wp2_with fail
      go_meet
      exact ⟨_, I7⟩
  case rest =>
    obtain ⟨sv4, I7⟩ := hcut
    clear I6 hB
    have H8 : Hid _ := hid (fMust_any I7.rf ⟨#[97, 115]⟩)
    go_wp2_with fail
    refine Calls.mono H8.out ?_
    rintro e w8 ⟨rfl, hr8, hb8⟩
    have I8 := (I7.want hgl hr8 hb8).conv (as_eq _)
    clear H8 hr8 hb8 I7
    have cz8 := I8.box.cells.1
    have fz8 := I8.box.free.1
    have zl8 := I8.box.lt
    have I10 := (I8.setk hgl 3).conv (setK_door S1)
    clear I8
    go_upto_region 27 with fail
    generalize w8.setCell ⟨q, 0, none⟩ (.int .i64 3) = W10 at *
    generalize hR5 : wantR ⟨#[97, 115]⟩ (fillR tagsP up_ta (wantR ⟨#[115, 116, 114, 105, 112]⟩ (fillR nameP up_nm (startR 3 S1)))) = R5 at *
    obtain ⟨sv5, I5⟩ : ∃ sv, Jn g q w R5 W10 sv := ⟨_, I10⟩
    clear I10
    have HI : Hid _ := hid (fSelectedE_any I5.rf)
    have HR5 : Hid (runP createP S = thenR R5 fun m r => mapR (fun x => (m, [x])) (queryP r)) := hid (by rw [← hR5]; exact HR.out)
    clear HR hR5
    go_wp2_with fail
    refine Calls.mono HI.out ?_
    rintro e w6 ⟨s6, rfl, hb6, hr6, hx6⟩
    have y6 := I5.box.but hb6 hqg
    have z6 := I5.zero.but hb6 (by omega)
    have hB6 := I5.but.trans hb6
    have hlo := I5.lo
    have hlt5 := I5.box.lt
    have hsz6 := hb6.size
    have cy6 := y6.cells.2.2.2.2.2.2.2.2.2.2.2.2
    have fy6 := y6.free.2.2.2.2.2.2.2.2.2.2.2.2
    have y7 := (y6.set12 (some ⟨w6.heap.size, 0, none⟩, 1, 1)).later (bal (Below.refl _ _) (.cells #[.int .i64 s6.k, .string s6.tb, .string s6.nm, .slice s6.co.1 s6.co.2.1 s6.co.2.2, .slice s6.ta.1 s6.ta.2.1 s6.ta.2.2, .slice s6.va.1 s6.va.2.1 s6.va.2.2, .slice s6.it.1 s6.it.2.1 s6.it.2.2, .string s6.jn, .slice s6.on.1 s6.on.2.1 s6.on.2.2, .slice s6.wh.1 s6.wh.2.1 s6.wh.2.2, .slice s6.od.1 s6.od.2.1 s6.od.2.2, .bool s6.ds, .slice s6.inn.1 s6.inn.2.1 s6.inn.2.2] 48))
    have z7 := (z6.other (r := q) (by omega) 12 (.slice (some ⟨w6.heap.size, 0, none⟩) 1 1)).later (bal (Below.refl _ _) (.cells #[.int .i64 s6.k, .string s6.tb, .string s6.nm, .slice s6.co.1 s6.co.2.1 s6.co.2.2, .slice s6.ta.1 s6.ta.2.1 s6.ta.2.2, .slice s6.va.1 s6.va.2.1 s6.va.2.2, .slice s6.it.1 s6.it.2.1 s6.it.2.2, .string s6.jn, .slice s6.on.1 s6.on.2.1 s6.on.2.2, .slice s6.wh.1 s6.wh.2.1 s6.wh.2.2, .slice s6.od.1 s6.od.2.1 s6.od.2.2, .bool s6.ds, .slice s6.inn.1 s6.inn.2.1 s6.inn.2.2] 48))
    have hB7 := (hB6.new (r := q) (by omega) 12 (.slice (some ⟨w6.heap.size, 0, none⟩) 1 1)).alloc (.cells #[.int .i64 s6.k, .string s6.tb, .string s6.nm, .slice s6.co.1 s6.co.2.1 s6.co.2.2, .slice s6.ta.1 s6.ta.2.1 s6.ta.2.2, .slice s6.va.1 s6.va.2.1 s6.va.2.2, .slice s6.it.1 s6.it.2.1 s6.it.2.2, .string s6.jn, .slice s6.on.1 s6.on.2.1 s6.on.2.2, .slice s6.wh.1 s6.wh.2.1 s6.wh.2.2, .slice s6.od.1 s6.od.2.1 s6.od.2.2, .bool s6.ds, .slice s6.inn.1 s6.inn.2.1 s6.inn.2.2] 48)
    have hr7 := (hr6.other (r := q) (by omega) 12 (.slice (some ⟨w6.heap.size, 0, none⟩) 1 1)).alloc (.cells #[.int .i64 s6.k, .string s6.tb, .string s6.nm, .slice s6.co.1 s6.co.2.1 s6.co.2.2, .slice s6.ta.1 s6.ta.2.1 s6.ta.2.2, .slice s6.va.1 s6.va.2.1 s6.va.2.2, .slice s6.it.1 s6.it.2.1 s6.it.2.2, .string s6.jn, .slice s6.on.1 s6.on.2.1 s6.on.2.2, .slice s6.wh.1 s6.wh.2.1 s6.wh.2.2, .slice s6.od.1 s6.od.2.1 s6.od.2.2, .bool s6.ds, .slice s6.inn.1 s6.inn.2.1 s6.inn.2.2] 48)
    have HX7 : Hid (∀ m r, runP createP S = .inr (m, r) → IsS (fun b => w.heap.size + 1 ≤ b) ((w6.setCell ⟨q, 12, none⟩ (.slice (some ⟨w6.heap.size, 0, none⟩) 1 1)).alloc (.cells #[.int .i64 s6.k, .string s6.tb, .string s6.nm, .slice s6.co.1 s6.co.2.1 s6.co.2.2, .slice s6.ta.1 s6.ta.2.1 s6.ta.2.2, .slice s6.va.1 s6.va.2.1 s6.va.2.2, .slice s6.it.1 s6.it.2.1 s6.it.2.2, .string s6.jn, .slice s6.on.1 s6.on.2.1 s6.on.2.2, .slice s6.wh.1 s6.wh.2.1 s6.wh.2.2, .slice s6.od.1 s6.od.2.1 s6.od.2.2, .bool s6.ds, .slice s6.inn.1 s6.inn.2.1 s6.inn.2.2] 48)) m.1 { sv5 with inn := (some ⟨w6.heap.size, 0, none⟩, 1, 1) } ∧ RowIs eStmt (fun b => w.heap.size + 1 ≤ b) ((w6.setCell ⟨q, 12, none⟩ (.slice (some ⟨w6.heap.size, 0, none⟩) 1 1)).alloc (.cells #[.int .i64 s6.k, .string s6.tb, .string s6.nm, .slice s6.co.1 s6.co.2.1 s6.co.2.2, .slice s6.ta.1 s6.ta.2.1 s6.ta.2.2, .slice s6.va.1 s6.va.2.1 s6.va.2.2, .slice s6.it.1 s6.it.2.1 s6.it.2.2, .string s6.jn, .slice s6.on.1 s6.on.2.1 s6.on.2.2, .slice s6.wh.1 s6.wh.2.1 s6.wh.2.2, .slice s6.od.1 s6.od.2.1 s6.od.2.2, .bool s6.ds, .slice s6.inn.1 s6.inn.2.1 s6.inn.2.2] 48)) (.slice (some ⟨w6.heap.size, 0, none⟩) 1 1) m.2) := hid fun m r e => by
      rw [HR5.out] at e
      obtain ⟨a, q', x, e1, e2, rfl⟩ := inner_inr e
      have h1 := (I5.is a q' e1).1
      obtain ⟨h2, h3⟩ := hx6 x r e2
      have h4 : IsS (fun b => w.heap.size + 1 ≤ b ∧ b ≠ q) ((w6.setCell ⟨q, 12, none⟩ (.slice (some ⟨w6.heap.size, 0, none⟩) 1 1)).alloc (.cells #[.int .i64 s6.k, .string s6.tb, .string s6.nm, .slice s6.co.1 s6.co.2.1 s6.co.2.2, .slice s6.ta.1 s6.ta.2.1 s6.ta.2.2, .slice s6.va.1 s6.va.2.1 s6.va.2.2, .slice s6.it.1 s6.it.2.1 s6.it.2.2, .string s6.jn, .slice s6.on.1 s6.on.2.1 s6.on.2.2, .slice s6.wh.1 s6.wh.2.1 s6.wh.2.2, .slice s6.od.1 s6.od.2.1 s6.od.2.2, .bool s6.ds, .slice s6.inn.1 s6.inn.2.1 s6.inn.2.2] 48)) a sv5 := ((h1.keep fun b hq hlt => hb6.block b hlt (by omega)).keep fun b hq hlt => Below.heap_setCell _ _ _ _ (by show b ≠ q; omega)).keep fun b hq hlt => (bal (Below.refl _ _) _).block b hlt
      have h5 := h4.mono (Q' := fun b => w.heap.size + 1 ≤ b) fun b hb _ => by omega
      refine ⟨{ h5 with }, ?_⟩
      have h6 : IsS (fun b => q < b) (w6.setCell ⟨q, 12, none⟩ (.slice (some ⟨w6.heap.size, 0, none⟩) 1 1)) x s6 := (h2.mono fun b hb _ => by omega).keep fun b hq hlt => Below.heap_setCell _ _ _ _ (by show b ≠ q; omega)
      exact row_stmt _ x s6 _ (sz_set _ _ _) (by omega) (h6.mono fun b hb _ => by omega) h3
    have HS7 : Hid (stO (runP createP S) = stO (runP queryP (stO R5))) := hid (by rw [HR5.out, inner_st])
    have T : Hid _ := hid (TfF.fin hgl hB7 (by rw [HS7.out]; exact hr7) HX7.out)
    have hltq := y6.lt
    clear HI hb6 hr6 hx6 hB6 hB7 hr7 HX7 HS7 I5 y6 z6 HR5
    unfold stV
    go_upto_region 29 with fail
    generalize (w6.setCell ⟨q, 12, none⟩ (.slice (some ⟨w6.heap.size, 0, none⟩) 1 1)).alloc (.cells #[.int .i64 s6.k, .string s6.tb, .string s6.nm, .slice s6.co.1 s6.co.2.1 s6.co.2.2, .slice s6.ta.1 s6.ta.2.1 s6.ta.2.2, .slice s6.va.1 s6.va.2.1 s6.va.2.2, .slice s6.it.1 s6.it.2.1 s6.it.2.2, .string s6.jn, .slice s6.on.1 s6.on.2.1 s6.on.2.2, .slice s6.wh.1 s6.wh.2.1 s6.wh.2.2, .slice s6.od.1 s6.od.2.1 s6.od.2.2, .bool s6.ds, .slice s6.inn.1 s6.inn.2.1 s6.inn.2.2] 48) = W at *
    generalize ({ sv5 with inn := (some ⟨w6.heap.size, 0, none⟩, 1, 1) } : Sv) = sv at *
    have hjb := y7.lt
    obtain ⟨k0, k1, k2, k3, k4, k5, k6, k7, k8, k9, k10, k11, k12⟩ := y7.cells
    obtain ⟨m0, m1, m2, m3, m4, m5, m6, m7, m8, m9, m10, m11, m12⟩ := z7.cells
    obtain ⟨n0, n1, n2, n3, n4, n5, n6, n7, n8, n9, n10, n11, n12⟩ := z7.free
    clear y7 z7
    go_wp2
    refine bodyPost_ret (v := stV sv) (by simp [results, Tryz.results71, go_sem, stV, m0, m1, m2, m3, m4, m5, m6, m7, m8, m9, m10, m11, m12]) rfl ?_
    exact T.out

set_option maxRecDepth 100000 in
set_option maxHeartbeats 8000000 in
theorem fCreateC {g : Nat} {S : Sa} {w : World} (h : Rf w g S 0) (h1 : takeB ⟨#[116, 97, 98, 108, 101]⟩ S = false) (h2 : takeB ⟨#[105, 110, 100, 101, 120]⟩ S = false) (h3 : takeB ⟨#[118, 105, 101, 119]⟩ S = false) : Calls Tryz.prog 71 #[.pointer (some ⟨g, 0, none⟩)] w (TfF g w (runP createP S)) := by
  have hgl := h.lt
  have I0 : Jn g (w.heap.size + 1) w (startR 0 S) ((w.alloc (.cells #[.int .i64 0, .string ⟨#[]⟩, .string ⟨#[]⟩, .slice none 0 0, .slice none 0 0, .slice none 0 0, .slice none 0 0, .string ⟨#[]⟩, .slice none 0 0, .slice none 0 0, .slice none 0 0, .bool false, .slice none 0 0] 48)).alloc (.cells #[.int .i64 0, .string ⟨#[]⟩, .string ⟨#[]⟩, .slice none 0 0, .slice none 0 0, .slice none 0 0, .slice none 0 0, .string ⟨#[]⟩, .slice none 0 0, .slice none 0 0, .slice none 0 0, .bool false, .slice none 0 0] 48)) (zS 0) := by
    have := (Wf.start h).jn 0
    rw [World.size_alloc] at this
    exact this
  have hqg : w.heap.size + 1 ≠ g := by omega
  have HR : Hid (runP createP S = _) := hid (((disp_false h1).trans ((disp_false h2).trans ((disp_false h3).trans (closure_run S)))).trans (doorP_run 4 changeP (wantS ⟨#[99, 108, 111, 115, 117, 114, 101]⟩ S)))
  generalize hq : w.heap.size + 1 = q at *
  clear h
  go_enter Tryz.func71, Tryz.ntmps71
  have HT1 := fTake_any I0.rf ⟨#[116, 97, 98, 108, 101]⟩
  rw [start_st, h1, takeB_false h1] at HT1
  replace HT1 : Hid _ := hid HT1
  go_wp2_with fail
  refine Calls.mono HT1.out ?_
  rintro e w1 ⟨rfl, hr1, hb1⟩
  have I1 := I0.same hgl (by rw [start_st]; exact hr1) hb1
  clear HT1 hr1 hb1 I0
  clear hq
  have HT2 := fTake_any I1.rf ⟨#[105, 110, 100, 101, 120]⟩
  rw [start_st, h2, takeB_false h2] at HT2
  replace HT2 : Hid _ := hid HT2
  go_wp2_with fail
  refine Calls.mono HT2.out ?_
  rintro e w2 ⟨rfl, hr2, hb2⟩
  have I2 := I1.same hgl (by rw [start_st]; exact hr2) hb2
  clear HT2 hr2 hb2 I1
  have HT3 := fTake_any I2.rf ⟨#[118, 105, 101, 119]⟩
  rw [start_st, h3, takeB_false h3] at HT3
  replace HT3 : Hid _ := hid HT3
  go_wp2_with fail
  refine Calls.mono HT3.out ?_
  rintro e w3 ⟨rfl, hr3, hb3⟩
  have I3 := I2.same hgl (by rw [start_st]; exact hr3) hb3
  clear HT3 hr3 hb3 I2
  have H4 : Hid _ := hid (fMust_any I3.rf ⟨#[99, 108, 111, 115, 117, 114, 101]⟩)
  go_wp2_with fail
  refine Calls.mono H4.out ?_
  rintro e w4 ⟨rfl, hr4, hb4⟩
  have I4 := (I3.want hgl hr4 hb4).conv (want_start ⟨#[99, 108, 111, 115, 117, 114, 101]⟩ 0 S).symm
  clear H4 hr4 hb4 I3
  generalize wantS ⟨#[99, 108, 111, 115, 117, 114, 101]⟩ S = S1 at *
  have H5 : Hid _ := hid (fName_any I4.rf)
  rw [start_st] at H5
  go_wp2_with fail
  refine Calls.mono H5.out ?_
  rintro e w5 ⟨s5, rfl, hb5, hr5, hu5⟩
  have y5 := I4.box.but hb5 hqg
  have cy5 := y5.cells.2.2.1
  have fy5 := y5.free.2.2.1
  have cz5 := y5.cells.1
  have fz5 := y5.free.1
  have yl5 := y5.lt
  have I5 := I4.knm hgl hb5 hr5 hu5 4
  clear H5 hr5 hb5 hu5 I4 y5
  have H6 : Hid _ := hid (fMust_any I5.rf ⟨#[115, 116, 114, 105, 112]⟩)
  go_wp2_with fail
  refine Calls.mono H6.out ?_
  rintro e w6 ⟨rfl, hr6, hb6⟩
  have I6 := I5.want hgl hr6 hb6
  clear H6 hr6 hb6 I5
  have HI : Hid _ := hid (fIs_any I6.rf ⟨#[97, 115]⟩)
  go_wp2_with fail
  refine Calls.mono HI.out ?_
  rintro e w7 ⟨B, rfl, hb7, hB⟩
  have I7 := I6.same hgl (I6.rf.later hb7) (But.of hb7)
  clear HI I6 hb7
  go_upto_if 64 with fail
  go_cut [] (fun w' => ∃ sv, Jn g q w (fillR asP up_ta (wantR ⟨#[115, 116, 114, 105, 112]⟩ (fillR nameP up_nm (startR 4 S1)))) w' sv)
  case first =>
    cases B with
    | true =>
      have I8 := I7.as0 (fun k => (hB k).symm) rfl
      clear hB I7
      go_wp2_with fail
      go_meet
      exact ⟨_, I8⟩
    | false =>
      have E1 : Hid _ := hid (as_list (R := (wantR ⟨#[115, 116, 114, 105, 112]⟩ (fillR nameP up_nm (startR 4 S1)))) fun k => (hB k).symm)
      have HL : Hid _ := hid (fTags_any I7.rf)
      clear hB
      go_wp2_with fail
      refine Calls.mono HL.out ?_
      rintro e w8 ⟨ao, ln, cp, rfl, hb8, hr8, hu8⟩
      have y8 := I7.box.but hb8 hqg
      have cy8 := y8.cells.2.2.2.2.1
      have fy8 := y8.free.2.2.2.2.1
      have yl8 := y8.lt
      have I8 := (I7.ta (v := (ao, ln, cp)) hgl hb8 hr8 hu8).conv E1.out
      clear HL hb8 hr8 hu8 y8 I7 E1
      go_wp2_with fail
      go_meet
      exact ⟨_, I8⟩
  case rest =>
    obtain ⟨sv4, I8⟩ := hcut
    clear I7 hB
    have H9 : Hid _ := hid (fMust_any I8.rf ⟨#[97, 115]⟩)
    go_wp2_with fail
    refine Calls.mono H9.out ?_
    rintro e w9 ⟨rfl, hr9, hb9⟩
    have I9 := (I8.want hgl hr9 hb9).conv (as_eq _)
    clear H9 hr9 hb9 I8
    have I10 := I9
    clear I9
    have hW10 : w9 = w9 := rfl
    go_upto_region 28 with fail
    generalize w9 = W10 at *
    generalize hR5 : wantR ⟨#[97, 115]⟩ (fillR tagsP up_ta (wantR ⟨#[115, 116, 114, 105, 112]⟩ (fillR nameP up_nm (startR 4 S1)))) = R5 at *
    obtain ⟨sv5, I5⟩ : ∃ sv, Jn g q w R5 W10 sv := ⟨_, I10⟩
    clear I10
    have HI : Hid _ := hid (fWrites_any I5.rf)
    have HR5 : Hid (runP createP S = thenR R5 fun m r => mapR (fun x => (m, [x])) (changeP r)) := hid (by rw [← hR5]; exact HR.out)
    clear HR hR5
    go_wp2_with fail
    refine Calls.mono HI.out ?_
    rintro e w6 ⟨s6, rfl, hb6, hr6, hx6⟩
    have y6 := I5.box.but hb6 hqg
    have z6 := I5.zero.but hb6 (by omega)
    have hB6 := I5.but.trans hb6
    have hlo := I5.lo
    have hlt5 := I5.box.lt
    have hsz6 := hb6.size
    have cy6 := y6.cells.2.2.2.2.2.2.2.2.2.2.2.2
    have fy6 := y6.free.2.2.2.2.2.2.2.2.2.2.2.2
    have y7 := (y6.set12 (some ⟨w6.heap.size, 0, none⟩, 1, 1)).later (bal (Below.refl _ _) (.cells #[.int .i64 s6.k, .string s6.tb, .string s6.nm, .slice s6.co.1 s6.co.2.1 s6.co.2.2, .slice s6.ta.1 s6.ta.2.1 s6.ta.2.2, .slice s6.va.1 s6.va.2.1 s6.va.2.2, .slice s6.it.1 s6.it.2.1 s6.it.2.2, .string s6.jn, .slice s6.on.1 s6.on.2.1 s6.on.2.2, .slice s6.wh.1 s6.wh.2.1 s6.wh.2.2, .slice s6.od.1 s6.od.2.1 s6.od.2.2, .bool s6.ds, .slice s6.inn.1 s6.inn.2.1 s6.inn.2.2] 48))
    have z7 := (z6.other (r := q) (by omega) 12 (.slice (some ⟨w6.heap.size, 0, none⟩) 1 1)).later (bal (Below.refl _ _) (.cells #[.int .i64 s6.k, .string s6.tb, .string s6.nm, .slice s6.co.1 s6.co.2.1 s6.co.2.2, .slice s6.ta.1 s6.ta.2.1 s6.ta.2.2, .slice s6.va.1 s6.va.2.1 s6.va.2.2, .slice s6.it.1 s6.it.2.1 s6.it.2.2, .string s6.jn, .slice s6.on.1 s6.on.2.1 s6.on.2.2, .slice s6.wh.1 s6.wh.2.1 s6.wh.2.2, .slice s6.od.1 s6.od.2.1 s6.od.2.2, .bool s6.ds, .slice s6.inn.1 s6.inn.2.1 s6.inn.2.2] 48))
    have hB7 := (hB6.new (r := q) (by omega) 12 (.slice (some ⟨w6.heap.size, 0, none⟩) 1 1)).alloc (.cells #[.int .i64 s6.k, .string s6.tb, .string s6.nm, .slice s6.co.1 s6.co.2.1 s6.co.2.2, .slice s6.ta.1 s6.ta.2.1 s6.ta.2.2, .slice s6.va.1 s6.va.2.1 s6.va.2.2, .slice s6.it.1 s6.it.2.1 s6.it.2.2, .string s6.jn, .slice s6.on.1 s6.on.2.1 s6.on.2.2, .slice s6.wh.1 s6.wh.2.1 s6.wh.2.2, .slice s6.od.1 s6.od.2.1 s6.od.2.2, .bool s6.ds, .slice s6.inn.1 s6.inn.2.1 s6.inn.2.2] 48)
    have hr7 := (hr6.other (r := q) (by omega) 12 (.slice (some ⟨w6.heap.size, 0, none⟩) 1 1)).alloc (.cells #[.int .i64 s6.k, .string s6.tb, .string s6.nm, .slice s6.co.1 s6.co.2.1 s6.co.2.2, .slice s6.ta.1 s6.ta.2.1 s6.ta.2.2, .slice s6.va.1 s6.va.2.1 s6.va.2.2, .slice s6.it.1 s6.it.2.1 s6.it.2.2, .string s6.jn, .slice s6.on.1 s6.on.2.1 s6.on.2.2, .slice s6.wh.1 s6.wh.2.1 s6.wh.2.2, .slice s6.od.1 s6.od.2.1 s6.od.2.2, .bool s6.ds, .slice s6.inn.1 s6.inn.2.1 s6.inn.2.2] 48)
    have HX7 : Hid (∀ m r, runP createP S = .inr (m, r) → IsS (fun b => w.heap.size + 1 ≤ b) ((w6.setCell ⟨q, 12, none⟩ (.slice (some ⟨w6.heap.size, 0, none⟩) 1 1)).alloc (.cells #[.int .i64 s6.k, .string s6.tb, .string s6.nm, .slice s6.co.1 s6.co.2.1 s6.co.2.2, .slice s6.ta.1 s6.ta.2.1 s6.ta.2.2, .slice s6.va.1 s6.va.2.1 s6.va.2.2, .slice s6.it.1 s6.it.2.1 s6.it.2.2, .string s6.jn, .slice s6.on.1 s6.on.2.1 s6.on.2.2, .slice s6.wh.1 s6.wh.2.1 s6.wh.2.2, .slice s6.od.1 s6.od.2.1 s6.od.2.2, .bool s6.ds, .slice s6.inn.1 s6.inn.2.1 s6.inn.2.2] 48)) m.1 { sv5 with inn := (some ⟨w6.heap.size, 0, none⟩, 1, 1) } ∧ RowIs eStmt (fun b => w.heap.size + 1 ≤ b) ((w6.setCell ⟨q, 12, none⟩ (.slice (some ⟨w6.heap.size, 0, none⟩) 1 1)).alloc (.cells #[.int .i64 s6.k, .string s6.tb, .string s6.nm, .slice s6.co.1 s6.co.2.1 s6.co.2.2, .slice s6.ta.1 s6.ta.2.1 s6.ta.2.2, .slice s6.va.1 s6.va.2.1 s6.va.2.2, .slice s6.it.1 s6.it.2.1 s6.it.2.2, .string s6.jn, .slice s6.on.1 s6.on.2.1 s6.on.2.2, .slice s6.wh.1 s6.wh.2.1 s6.wh.2.2, .slice s6.od.1 s6.od.2.1 s6.od.2.2, .bool s6.ds, .slice s6.inn.1 s6.inn.2.1 s6.inn.2.2] 48)) (.slice (some ⟨w6.heap.size, 0, none⟩) 1 1) m.2) := hid fun m r e => by
      rw [HR5.out] at e
      obtain ⟨a, q', x, e1, e2, rfl⟩ := inner_inr e
      have h1 := (I5.is a q' e1).1
      obtain ⟨h2, h3⟩ := hx6 x r e2
      have h4 : IsS (fun b => w.heap.size + 1 ≤ b ∧ b ≠ q) ((w6.setCell ⟨q, 12, none⟩ (.slice (some ⟨w6.heap.size, 0, none⟩) 1 1)).alloc (.cells #[.int .i64 s6.k, .string s6.tb, .string s6.nm, .slice s6.co.1 s6.co.2.1 s6.co.2.2, .slice s6.ta.1 s6.ta.2.1 s6.ta.2.2, .slice s6.va.1 s6.va.2.1 s6.va.2.2, .slice s6.it.1 s6.it.2.1 s6.it.2.2, .string s6.jn, .slice s6.on.1 s6.on.2.1 s6.on.2.2, .slice s6.wh.1 s6.wh.2.1 s6.wh.2.2, .slice s6.od.1 s6.od.2.1 s6.od.2.2, .bool s6.ds, .slice s6.inn.1 s6.inn.2.1 s6.inn.2.2] 48)) a sv5 := ((h1.keep fun b hq hlt => hb6.block b hlt (by omega)).keep fun b hq hlt => Below.heap_setCell _ _ _ _ (by show b ≠ q; omega)).keep fun b hq hlt => (bal (Below.refl _ _) _).block b hlt
      have h5 := h4.mono (Q' := fun b => w.heap.size + 1 ≤ b) fun b hb _ => by omega
      refine ⟨{ h5 with }, ?_⟩
      have h6 : IsS (fun b => q < b) (w6.setCell ⟨q, 12, none⟩ (.slice (some ⟨w6.heap.size, 0, none⟩) 1 1)) x s6 := (h2.mono fun b hb _ => by omega).keep fun b hq hlt => Below.heap_setCell _ _ _ _ (by show b ≠ q; omega)
      exact row_stmt _ x s6 _ (sz_set _ _ _) (by omega) (h6.mono fun b hb _ => by omega) h3
    have HS7 : Hid (stO (runP createP S) = stO (runP changeP (stO R5))) := hid (by rw [HR5.out, inner_st])
    have T : Hid _ := hid (TfF.fin hgl hB7 (by rw [HS7.out]; exact hr7) HX7.out)
    have hltq := y6.lt
    clear HI hb6 hr6 hx6 hB6 hB7 hr7 HX7 HS7 I5 y6 z6 HR5
    unfold stV
    go_upto_region 29 with fail
    generalize (w6.setCell ⟨q, 12, none⟩ (.slice (some ⟨w6.heap.size, 0, none⟩) 1 1)).alloc (.cells #[.int .i64 s6.k, .string s6.tb, .string s6.nm, .slice s6.co.1 s6.co.2.1 s6.co.2.2, .slice s6.ta.1 s6.ta.2.1 s6.ta.2.2, .slice s6.va.1 s6.va.2.1 s6.va.2.2, .slice s6.it.1 s6.it.2.1 s6.it.2.2, .string s6.jn, .slice s6.on.1 s6.on.2.1 s6.on.2.2, .slice s6.wh.1 s6.wh.2.1 s6.wh.2.2, .slice s6.od.1 s6.od.2.1 s6.od.2.2, .bool s6.ds, .slice s6.inn.1 s6.inn.2.1 s6.inn.2.2] 48) = W at *
    generalize ({ sv5 with inn := (some ⟨w6.heap.size, 0, none⟩, 1, 1) } : Sv) = sv at *
    have hjb := y7.lt
    obtain ⟨k0, k1, k2, k3, k4, k5, k6, k7, k8, k9, k10, k11, k12⟩ := y7.cells
    obtain ⟨m0, m1, m2, m3, m4, m5, m6, m7, m8, m9, m10, m11, m12⟩ := z7.cells
    obtain ⟨n0, n1, n2, n3, n4, n5, n6, n7, n8, n9, n10, n11, n12⟩ := z7.free
    clear y7 z7
    go_wp2
    refine bodyPost_ret (v := stV sv) (by simp [results, Tryz.results71, go_sem, stV, m0, m1, m2, m3, m4, m5, m6, m7, m8, m9, m10, m11, m12]) rfl ?_
    exact T.out

theorem fCreate_any {g : Nat} {S : Sa} {w : World} (h : Rf w g S 0) : Calls Tryz.prog 71 #[.pointer (some ⟨g, 0, none⟩)] w (TfF g w (runP createP S)) := by
  cases h1 : takeB ⟨#[116, 97, 98, 108, 101]⟩ S with
  | true => exact fCreateT h h1
  | false =>
    cases h2 : takeB ⟨#[105, 110, 100, 101, 120]⟩ S with
    | true => exact fCreateI h h1 h2
    | false =>
      cases h3 : takeB ⟨#[118, 105, 101, 119]⟩ S with
      | true => exact fCreateV h h1 h2 h3
      | false => exact fCreateC h h1 h2 h3

end Go.Proofs.YtnboooaockgoiaaGreatDoor
