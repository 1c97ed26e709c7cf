import Derived.Test.YtnboooaockgoiaaGreatDoorPaj
import Derived.Deep.RegionLaw
namespace Go.Proofs.YtnboooaockgoiaaGreatDoor
open Go.RowKit
set_option linter.unusedVariables false

/-- A thing is to be read, behind those that were. -/
def PeR {α : Type} (P : List Tk → Re α) (R : Re (List α)) (S : Sa) (css : List (List Value)) (E : α → List Value → Prop) : Prop :=
  ∀ (cs : List Value) (E' : α → List Value → Prop), (∀ u ds, E u ds → E' u ds) → (∀ u r, runP P S = .inr (u, r) → E' u cs) → LiR P R (stO (runP P S)) (css ++ [cs]) E'
theorem PeR.start {α : Type} {P : List Tk → Re α} {S : Sa} {E : α → List Value → Prop} : PeR P (runP (listP P) S) S [] E := fun cs E' _ h => LiR.start h
theorem PeR.bad {α : Type} {P : List Tk → Re α} {R : Re (List α)} {S : Sa} {css : List (List Value)} {E : α → List Value → Prop} (h : PeR P R S css E) {x : Int × Int} (hx : stO (runP P S) = .inl x) : R = .inl x := by
  have := h [] (fun _ _ => True) (fun _ _ _ => trivial) (fun _ _ _ => trivial)
  rw [hx] at this
  rcases this with ⟨e, he, hR⟩ | ⟨ts, _, _, he, _⟩
  · cases he; exact hR
  · cases he
theorem LiR.next {α : Type} {P : List Tk → Re α} {R : Re (List α)} {t : Tk} {ts : List Tk} {css : List (List Value)} {E : α → List Value → Prop} (hP : Shr P) (h : LiR P R (.inr (t :: ts)) css E) (hz : takeB ⟨#[44]⟩ (.inr (t :: ts)) = true) : PeR P R (.inr ts) css E :=
  (h.go hP hz).2
theorem tagA {w : World} {g : Nat} {S : Sa} {t : Tk} (hr : Rf w g S 0) (h : okSe S = true → t = nxT S) (h3 : t.1 ≠ 3) : ∃ y, failS 5 S = .inl y ∧ stO (runP tagP S) = .inl y := by
  match S, hr, h with
  | .inl x, hr, h => exact ⟨x, rfl, rfl⟩
  | .inr [], hr, h => obtain ⟨b, o, N, c, n, all, h1, h2, hg, hw⟩ := hr.ok; exact h2.1.elim
  | .inr (u :: us), hr, h =>
    have e : t = u := h rfl
    subst e
    refine ⟨(t.2.2.2, 5), rfl, ?_⟩
    show stO (tagP (t :: us)) = _
    rw [tagP, if_neg h3]
    rfl
theorem tagB {w : World} {g : Nat} {S : Sa} {t : Tk} (hr : Rf w g S 0) (h : okSe S = true → t = nxT S) (h3 : t.1 = 3) (hb : 65535 < t.2.2.1) : ∃ y, failS 3 S = .inl y ∧ stO (runP tagP S) = .inl y := by
  match S, hr, h with
  | .inl x, hr, h => exact ⟨x, rfl, rfl⟩
  | .inr [], hr, h => obtain ⟨b, o, N, c, n, all, h1, h2, hg, hw⟩ := hr.ok; exact h2.1.elim
  | .inr (u :: us), hr, h =>
    have e : t = u := h rfl
    subst e
    refine ⟨(t.2.2.2, 3), rfl, ?_⟩
    show stO (tagP (t :: us)) = _
    rw [tagP, if_pos h3, if_pos hb]
    rfl
theorem tagC {t : Tk} {us : List Tk} (h3 : t.1 = 3) (hb : ¬ 65535 < t.2.2.1) : runP tagP (.inr (t :: us)) = .inr (IntKind.u16.wrap t.2.2.1, us) := by
  show tagP (t :: us) = _
  rw [tagP, if_pos h3, if_neg hb]
theorem Rf.grown {g d : Nat} {S : Sa} {w3 w4 : World} {row : Option Nat} (h : Rf w3 g S d) (hg : w3.grownBy w4 row) (hrow : ∀ k, row = some k → g < k) : Rf w4 g S d :=
  h.keep fun k hk => hg.block k (Nat.lt_of_le_of_lt hk h.lt) (fun e => by have := hrow k e.symm; omega)

set_option maxRecDepth 100000 in
set_option maxHeartbeats 4000000 in
theorem fTags_any {g : Nat} {S : Sa} {w : World} (h : Rf w g S 0) :
    Calls Tryz.prog 74 #[.pointer (some ⟨g, 0, none⟩)] w (TfL eTag g w (runP (listP tagP) S)) := by
  have hgl := h.lt
  have hf := h.few
  have HP0 : Hid _ := hid (PeR.start (P := tagP) (S := S) (E := fun t cs => cs = [.int .u16 t]))
  generalize runP (listP tagP) S = R at *
  go_enter Tryz.func74, Tryz.ntmps74
  go_wp2
  go_loopw [3] (fun v3 wr => ∃ (S1 : Sa) (css : List (List Value)), Rf wr g S1 0 ∧ But g w wr ∧ OwnR 74 1 w.heap.size wr v3 css ∧ css.length + szS S1 ≤ 501 ∧ Hid (PeR tagP R S1 css fun t cs => cs = [.int .u16 t])) (fun _ wr => szF g wr)
  case atStart => exact ⟨S, [], h, But.refl _ _, OwnR.nil _ _ _ _, by simp; omega, HP0⟩
  case round =>
    clear h hf HP0
    obtain ⟨S2, css, hr, hB, ho, hcs, HE⟩ := hrel
    obtain ⟨ao, n0, c0, rfl⟩ := ho.sl
    have hm := hr.sz
    have H : Hid _ := hid (fNow_any hr)
    have hcl : css.length ≤ 501 := by omega
    unfold TfNow tkA at H
    go_wp2_with fail
    refine Calls.mono H.out ?_
    rintro e w1 ⟨⟨t0, t1, t2, t3⟩, rfl, hb1, ht⟩
    have hb2 := bal hb1 (.cells #[.int .i64 t0, .string t1, .int .i64 t2, .int .i64 t3] 91)
    have hr2 := hr.later hb2
    have hB2 : But g w (w1.alloc (.cells #[.int .i64 t0, .string t1, .int .i64 t2, .int .i64 t3] 91)) := hB.later hb2
    have ho2 : OwnR 74 1 w.heap.size (w1.alloc (.cells #[.int .i64 t0, .string t1, .int .i64 t2, .int .i64 t3] 91)) (.slice ao n0 c0) css := ho.but (But.of (g := g) hb2) hgl
    obtain ⟨y0, y1, y2, y3⟩ := Ct.new w1 (t0, t1, t2, t3) 91
    rw [Nat.zero_add] at y1 y2 y3
    have hqg : g < w1.heap.size := Nat.lt_of_lt_of_le hr.lt hb1.size
    have hql : w1.heap.size < (w1.alloc (.cells #[.int .i64 t0, .string t1, .int .i64 t2, .int .i64 t3] 91)).heap.size := by simp
    clear H hb1 hb2 hr hB ho
    go_upto_region 3 with fail
    generalize w1.alloc (.cells #[.int .i64 t0, .string t1, .int .i64 t2, .int .i64 t3] 91) = w2 at *
    generalize w1.heap.size = q at *
    by_cases h3 : t0 = 3
    · subst h3
      by_cases hbig : 65535 < t2
      · have gb : decide ((65535 : Int) < t2) = true := by simpa using hbig
        obtain ⟨y, e1, e2⟩ := tagB hr2 ht rfl hbig
        have HR : Hid _ := hid (HE.out.bad e2)
        have HF : Hid _ := hid (fFail_any hr2 3 (by decide))
        rw [e1] at HF
        clear HE hr2 ht e1 e2 hbig
        go_wp2_with fail
        refine Calls.mono HF.out ?_
        rintro e w3 ⟨rfl, hr3, hb3⟩
        have hB3 := hB2.trans hb3
        obtain ⟨b', o', N', c', n', all', d', hx, -, -, hg3, -⟩ := hr3.bad
        obtain ⟨k0, k1, k2, k3, k4⟩ := hg3.cells
        have g4 : (y.2 != 0) = true := by simpa using hx
        have hgl3 := hr3.lt
        clear HF hb3 hB2 hg3
        go_wp2
        go_ret
        exact ⟨ao, n0, c0, rfl, hB3, by rw [HR.out]; exact hr3, fun l r e => by rw [HR.out] at e; cases e⟩
      · have gb : decide ((65535 : Int) < t2) = false := by simpa using hbig
        match S2, hr2, ht, HE, hm, hcs with
        | .inl x, hr2, ht, HE, hm, hcs =>
          have HR : Hid _ := hid (HE.out.bad (x := x) rfl)
          obtain ⟨b', o', N', c', n', all', d', hx, -, -, hg3, -⟩ := hr2.bad
          obtain ⟨k0, k1, k2, k3, k4⟩ := hg3.cells
          have g4 : (x.2 != 0) = true := by simpa using hx
          have hgl3 := hr2.lt
          clear HE hg3 ht
          go_wp2
          go_ret
          exact ⟨ao, n0, c0, rfl, hB2, by rw [HR.out]; exact hr2, fun l r e => by rw [HR.out] at e; cases e⟩
        | .inr [], hr2, ht, HE, hm, hcs => obtain ⟨b, o, N, c, n, all, h1, h2, hg, hw⟩ := hr2.ok; exact h2.1.elim
        | .inr (u :: us), hr2, ht, HE, hm, hcs =>
          have hu : (3, t1, t2, t3) = u := ht rfl
          subst hu
          have e1 := tagC (t := (3, t1, t2, t3)) (us := us) rfl hbig
          have HL := HE.out [.int .u16 (IntKind.u16.wrap t2)] (fun t cs => cs = [.int .u16 t]) (fun _ _ k => k) (fun v r k => by rw [e1] at k; cases k; rfl)
          rw [e1] at HL
          replace HL : Hid _ := hid HL
          obtain ⟨b', o', N', c', n', all', -, -, hg3, -⟩ := hr2.ok
          obtain ⟨k0, k1, k2, k3, k4⟩ := hg3.cells
          have hgl3 := hr2.lt
          have hr4 := hr2.alloc (.cells #[.int .u16 (IntKind.u16.wrap t2)] 74)
          have hB4 := hB2.alloc (.cells #[.int .u16 (IntKind.u16.wrap t2)] 74)
          have ho4 := ho2.alloc (.cells #[.int .u16 (IntKind.u16.wrap t2)] 74)
          have hblk := ho2.blk
          have hszw := hB4.size
          have hm' : szF g wr = us.length + 1 := hm
          have hcs' : css.length + (us.length + 1) ≤ 501 := hcs
          have hw2g : (w2.alloc (.cells #[.int .u16 (IntKind.u16.wrap t2)] 74)).heap.size = w2.heap.size + 1 := by simp
          clear HE hg3 ht e1 hbig hm hcs ho2 hr2
          go_wp2_with (first | (at_builtin; refine wpList_appR Tryz.underlying45 Tryz.infoTTag rfl (by decide) (by decide) rfl (.tmp 23) (.tmp 27) rfl _ css w2.heap.size [.int .u16 (IntKind.u16.wrap t2)] rfl rfl ho4 rfl (by simp [Value.oneCell']) ?_ (by omega) hB4.size ?_) | fail)
          · intro v' w6 hO6 hg6 hown
            have hB6 := hB4.grown hg6 fun k e => (hblk k e).1
            have hr6 := hr4.grown hg6 fun k e => by have := (hblk k e).1; omega
            have HN : Hid _ := hid (fNext_any hr6 (by show (3 : Int) ≠ 6; decide))
            obtain ⟨ao', n', c', rfl⟩ := hO6.sl
            clear hg6 hown hB4 ho4 hr4 hblk k0 k1 k2 k3 k4
            go_wp2_with fail
            refine Calls.mono HN.out ?_
            rintro e w7 ⟨rfl, hr7, hb7⟩
            have hB7 := hB6.trans hb7
            have hO7 := hO6.but hb7 hgl
            have HT := fTake_any hr7 ⟨#[44]⟩
            clear HN hb7 hB6 hr6
            cases hc : takeB ⟨#[44]⟩ (.inr us) with
            | false =>
              obtain ⟨e1, e2⟩ := HL.out.stop hc
              rw [hc, takeB_false hc] at HT
              replace HT : Hid _ := hid HT
              have E1 : Hid _ := hid e1
              have E2 : Hid _ := hid e2
              clear e1 e2 HL hc hr7
              go_wp2_with fail
              refine Calls.mono HT.out ?_
              rintro e w8 ⟨rfl, hr8, hb8⟩
              have hB8 := hB7.trans hb8
              have hO8 := hO7.but hb8 hgl
              clear HT hb8 hB7
              go_wp2
              go_ret
              refine ⟨ao', n', c', rfl, hB8, by rw [E1.out]; exact hr8, fun l r e => ?_⟩
              obtain ⟨h1, h2⟩ := E2.out l r e
              exact OwnR.row (e := eTag) hO8 h1 (by simp) (fun b hb _ => hb) fun i a b => h2 i a b
            | true =>
              obtain ⟨tt, ts, hS, -, hT⟩ := takeB_true hc
              cases hS
              have HE' : Hid _ := hid (HL.out.next shr_tag hc)
              rw [hc, hT] at HT
              replace HT : Hid _ := hid HT
              clear HL hc hr7 hT
              go_wp2_with fail
              refine Calls.mono HT.out ?_
              rintro e w8 ⟨rfl, hr8, hb8⟩
              have hB8 := hB7.trans hb8
              have hO8 := hO7.but hb8 hgl
              have hm8 := hr8.sz
              clear HT hb8 hB7
              go_wp2
              go_roundw
              case rel => exact ⟨.inr ts, css ++ [[.int .u16 (IntKind.u16.wrap t2)]], hr8, hB8, hO8, by simp only [List.length_append, List.length_singleton, szS] at *; simp only [List.length_cons] at hcs'; omega, HE'⟩
              case measure =>
                have hm9 : szF g w8 = ts.length := hm8
                simp only [List.length_cons] at hm'
                omega
    · have g3 : (t0 != 3) = true := by simpa using h3
      obtain ⟨y, e1, e2⟩ := tagA hr2 ht h3
      have HR : Hid _ := hid (HE.out.bad e2)
      have HF : Hid _ := hid (fFail_any hr2 5 (by decide))
      rw [e1] at HF
      clear HE hr2 ht e1 e2 h3
      go_wp2_with fail
      refine Calls.mono HF.out ?_
      rintro e w3 ⟨rfl, hr3, hb3⟩
      have hB3 := hB2.trans hb3
      obtain ⟨b', o', N', c', n', all', d', hx, -, -, hg3, -⟩ := hr3.bad
      obtain ⟨k0, k1, k2, k3, k4⟩ := hg3.cells
      have g4 : (y.2 != 0) = true := by simpa using hx
      have hgl3 := hr3.lt
      clear HF hb3 hB2 hg3
      go_wp2
      go_ret
      exact ⟨ao, n0, c0, rfl, hB3, by rw [HR.out]; exact hr3, fun l r e => by rw [HR.out] at e; cases e⟩

end Go.Proofs.YtnboooaockgoiaaGreatDoor
namespace Go.Proofs.YtnboooaockgoiaaGreatDoor
open Go.RowKit
set_option linter.unusedVariables false

def expr1P (r : List Tk) : Re (List Tr) := mapR (fun x => [x]) (exprP 64 r)
theorem expr1_st (S : Sa) : stO (runP expr1P S) = stO (runP (exprP 64) S) := by
  rw [show runP expr1P S = mapR (fun x => [x]) (runP (exprP 64) S) from map_run _ _ S, stO_mapR]
theorem expr_row {g : Nat} {S : Sa} {w1 w2 : World} {o : Int} {p : Pay} {a : Option Addr} {m c : Nat} (hb : But g w1 w2) (hx : ∀ t r, runP (exprP 64) S = .inr (t, r) → Ex (fun b => w1.heap.size ≤ b) w2 t (exV o p (.slice a m c))) :
    ∀ u r, runP expr1P S = .inr (u, r) → RowIs eExpr (fun b => w1.heap.size ≤ b) (w2.alloc (.cells #[.int .i64 o, .int .i64 p.1, .int .i64 p.2.1, .string p.2.2.1, .string p.2.2.2.1, .string p.2.2.2.2, .slice a m c] 43)) (.slice (some ⟨w2.heap.size, 0, none⟩) 1 1) u := by
  intro u r e
  rw [show runP expr1P S = mapR (fun x => [x]) (runP (exprP 64) S) from map_run _ _ S] at e
  obtain ⟨t, e2, rfl⟩ := mapR_inr e
  exact row_one w2 t o p a m c _ hb.size (hx t r e2)
def updateP (ts : List Tk) : Re Sm := fillR behindP up_wh (fillR expr1P up_va (wantR ⟨#[61]⟩ (fillR nameP up_nm (wantR ⟨#[115, 101, 116]⟩ (fillR nameP up_tb (startR 7 (.inr ts)))))))
theorem updateP_run (S : Sa) : runP updateP S = fillR behindP up_wh (fillR expr1P up_va (wantR ⟨#[61]⟩ (fillR nameP up_nm (wantR ⟨#[115, 101, 116]⟩ (fillR nameP up_tb (startR 7 S)))))) := by cases S <;> rfl

/-- A word is read if it stands there. -/
def takeR (s : ByteArray) (R : Re Sm) : Re Sm := thenR R fun m r => .inr (m, if isTk s r then r.tail else r)
theorem take_st (s : ByteArray) (R : Re Sm) : stO (takeR s R) = takeS s (stO R) := by
  cases R with
  | inl x => rfl
  | inr x =>
    show (Sum.inr (if isTk s x.2 then x.2.tail else x.2) : Sa) = (if isTk s x.2 then .inr x.2.tail else .inr x.2)
    split <;> rfl
theorem takeB_inr {s : ByteArray} {R : Re Sm} (h : takeB s (stO R) = true) : ∃ m t ts, R = .inr (m, t :: ts) ∧ isTk s (t :: ts) = true := by
  obtain ⟨t, ts, hS, _, _⟩ := takeB_true h
  obtain ⟨m, hm⟩ := stO_inr hS
  rw [hS] at h
  exact ⟨m, t, ts, hm, h⟩
def starP (ts : List Tk) : Re (List It) := if isTk ⟨#[42]⟩ ts then .inr ([], ts.tail) else listP itemP ts
theorem star_true {R : Re Sm} (h : takeB ⟨#[42]⟩ (stO R) = true) : fillR starP up_it R = fillR (fun ts => .inr ([], ts)) up_it (takeR ⟨#[42]⟩ R) := by
  obtain ⟨m, t, ts, rfl, hb⟩ := takeB_inr h
  show mapR (up_it m) (starP (t :: ts)) = mapR (up_it m) (Sum.inr ([], if isTk ⟨#[42]⟩ (t :: ts) then ts else t :: ts))
  rw [starP, if_pos hb, if_pos hb]
  rfl
theorem star_false {R : Re Sm} (h : takeB ⟨#[42]⟩ (stO R) = false) : fillR starP up_it R = fillR (listP itemP) up_it R := by
  match R with
  | .inl x => rfl
  | .inr (m, ts) =>
    have h' : isTk ⟨#[42]⟩ ts = false := h
    show mapR (up_it m) (starP ts) = mapR (up_it m) (listP itemP ts)
    rw [starP, if_neg (by rw [h']; simp)]
def up_jo (m : Sm) (x : ByteArray × List Tr) : Sm := { m with join := x.1, on := x.2 }
def joinP : List Tk → Re (ByteArray × List Tr) := optP ⟨#[106, 111, 105, 110]⟩ (⟨#[]⟩, []) (seqP Prod.mk nameP onP)
theorem join_true {R : Re Sm} (h : takeB ⟨#[106, 111, 105, 110]⟩ (stO R) = true) : fillR joinP up_jo R = fillR onP up_on (fillR nameP up_jn (takeR ⟨#[106, 111, 105, 110]⟩ R)) := by
  obtain ⟨m, t, ts, rfl, hb⟩ := takeB_inr h
  show mapR (up_jo m) (joinP (t :: ts)) = fillR onP up_on (mapR (up_jn m) (nameP (if isTk ⟨#[106, 111, 105, 110]⟩ (t :: ts) then ts else t :: ts)))
  rw [joinP, optP, if_pos hb, if_pos hb]
  show mapR (up_jo m) (thenR (nameP ts) fun a r => mapR (Prod.mk a) (onP r)) = _
  cases nameP ts with
  | inl x => rfl
  | inr x =>
    show mapR (up_jo m) (mapR (Prod.mk x.1) (onP x.2)) = mapR (up_on (up_jn m x.1)) (onP x.2)
    cases onP x.2 <;> rfl
def up_oo (m : Sm) (x : List Tr × Bool) : Sm := { m with order := x.1, desc := x.2 }
def descP (ts : List Tk) : Re Bool := .inr (isTk ⟨#[100, 101, 115, 99]⟩ ts, if isTk ⟨#[100, 101, 115, 99]⟩ ts then ts.tail else ts)
def ordP : List Tk → Re (List Tr × Bool) := optP ⟨#[111, 114, 100, 101, 114]⟩ ([], false) (seqP Prod.mk orderP descP)
theorem desc_st (S : Sa) : stO (runP descP S) = takeS ⟨#[100, 101, 115, 99]⟩ S := by
  match S with
  | .inl x => rfl
  | .inr ts =>
    show (Sum.inr (if isTk ⟨#[100, 101, 115, 99]⟩ ts then ts.tail else ts) : Sa) = (if isTk ⟨#[100, 101, 115, 99]⟩ ts then .inr ts.tail else .inr ts)
    split <;> rfl
theorem desc_inr {S : Sa} {x : Bool} {r : List Tk} (h : runP descP S = .inr (x, r)) : takeB ⟨#[100, 101, 115, 99]⟩ S = x := by
  match S with
  | .inl y => cases h
  | .inr ts => cases h; rfl
theorem ord_true {R : Re Sm} (h : takeB ⟨#[111, 114, 100, 101, 114]⟩ (stO R) = true) : fillR ordP up_oo R = fillR descP up_ds (fillR orderP up_od (takeR ⟨#[111, 114, 100, 101, 114]⟩ R)) := by
  obtain ⟨m, t, ts, rfl, hb⟩ := takeB_inr h
  show mapR (up_oo m) (ordP (t :: ts)) = fillR descP up_ds (mapR (up_od m) (orderP (if isTk ⟨#[111, 114, 100, 101, 114]⟩ (t :: ts) then ts else t :: ts)))
  rw [ordP, optP, if_pos hb, if_pos hb]
  show mapR (up_oo m) (thenR (orderP ts) fun a r => mapR (Prod.mk a) (descP r)) = _
  cases orderP ts with
  | inl x => rfl
  | inr x => rfl
def queryP (ts : List Tk) : Re Sm := fillR ordP up_oo (fillR behindP up_wh (fillR joinP up_jo (fillR nameP up_tb (wantR ⟨#[102, 114, 111, 109]⟩ (fillR starP up_it (wantR ⟨#[115, 101, 108, 101, 99, 116]⟩ (startR 6 (.inr ts))))))))
theorem queryP_run (S : Sa) : runP queryP S = fillR ordP up_oo (fillR behindP up_wh (fillR joinP up_jo (fillR nameP up_tb (wantR ⟨#[102, 114, 111, 109]⟩ (fillR starP up_it (wantR ⟨#[115, 101, 108, 101, 99, 116]⟩ (startR 6 S))))))) := by cases S <;> rfl

end Go.Proofs.YtnboooaockgoiaaGreatDoor
namespace Go.Proofs.YtnboooaockgoiaaGreatDoor
open Go.RowKit
set_option linter.unusedVariables false

end Go.Proofs.YtnboooaockgoiaaGreatDoor
namespace Go.Proofs.YtnboooaockgoiaaGreatDoor
open Go.RowKit
set_option linter.unusedVariables false

theorem row_stmt (w : World) (m : Sm) (s : Sv) (Q : Nat → Prop) {b : Nat} (hb : w.heap.size = b) (hq : Q b) (h : IsS Q w m s) (hi : s.inn = (none, 0, 0)) :
    RowIs eStmt Q (w.alloc (.cells #[.int .i64 s.k, .string s.tb, .string s.nm, .slice s.co.1 s.co.2.1 s.co.2.2, .slice s.ta.1 s.ta.2.1 s.ta.2.2, .slice s.va.1 s.va.2.1 s.va.2.2, .slice s.it.1 s.it.2.1 s.it.2.2, .string s.jn, .slice s.on.1 s.on.2.1 s.on.2.2, .slice s.wh.1 s.wh.2.1 s.wh.2.2, .slice s.od.1 s.od.2.1 s.od.2.2, .bool s.ds, .slice s.inn.1 s.inn.2.1 s.inn.2.2] 48)) (.slice (some ⟨b, 0, none⟩) 1 1) [m] := by
  subst hb
  refine ⟨_, 1, 1, rfl, rfl, Nat.le_refl _, by omega, fun _ => ⟨w.heap.size, 0, rfl, hq, fun i hi' => ?_⟩⟩
  obtain rfl : i = 0 := by simp at hi'; omega
  refine ⟨svC s, ⟨s, rfl, h.keep fun b _ hlt => (bal (Below.refl _ w) _).block b hlt, hi⟩, rfl, fun j hj => ?_⟩
  have hj' : j < 13 := hj
  match j, hj' with
  | 0, _ => exact cell_new w _ _ _ 0
  | 1, _ => exact cell_new w _ _ _ 1
  | 2, _ => exact cell_new w _ _ _ 2
  | 3, _ => exact cell_new w _ _ _ 3
  | 4, _ => exact cell_new w _ _ _ 4
  | 5, _ => exact cell_new w _ _ _ 5
  | 6, _ => exact cell_new w _ _ _ 6
  | 7, _ => exact cell_new w _ _ _ 7
  | 8, _ => exact cell_new w _ _ _ 8
  | 9, _ => exact cell_new w _ _ _ 9
  | 10, _ => exact cell_new w _ _ _ 10
  | 11, _ => exact cell_new w _ _ _ 11
  | 12, _ => exact cell_new w _ _ _ 12

def tagsP (ts : List Tk) : Re (List Int) := if kdOf ts = 3 then listP tagP ts else .inr ([], ts)
def doorR (k : Int) (P : List Tk → Re Sm) (S : Sa) : Re Sf := thenR (wantR ⟨#[97, 115]⟩ (fillR tagsP up_ta (wantR ⟨#[115, 116, 114, 105, 112]⟩ (fillR nameP up_nm (startR k S))))) fun m r => mapR (fun x => (m, [x])) (P r)
def doorP (k : Int) (P : List Tk → Re Sm) (ts : List Tk) : Re Sf := doorR k P (.inr ts)
theorem doorP_run (k : Int) (P : List Tk → Re Sm) (S : Sa) : runP (doorP k P) S = doorR k P S := by cases S <;> rfl
theorem inner_st {R : Re Sm} {P : List Tk → Re Sm} : stO (thenR R fun m r => mapR (fun x => ((m, [x]) : Sf)) (P r)) = stO (runP P (stO R)) := by
  cases R with
  | inl x => rfl
  | inr x =>
    show stO (mapR (fun y => ((x.1, [y]) : Sf)) (P x.2)) = stO (P x.2)
    exact stO_mapR _ _
theorem inner_inr {R : Re Sm} {P : List Tk → Re Sm} {m : Sf} {r : List Tk} (h : (thenR R fun m r => mapR (fun x => ((m, [x]) : Sf)) (P r)) = .inr (m, r)) : ∃ a q x, R = .inr (a, q) ∧ runP P (stO R) = .inr (x, r) ∧ m = (a, [x]) := by
  obtain ⟨a, q, h1, h2⟩ := thenR_inr h
  obtain ⟨x, h3, h4⟩ := mapR_inr h2
  subst h1
  exact ⟨a, q, x, rfl, h3, h4⟩

end Go.Proofs.YtnboooaockgoiaaGreatDoor
namespace Go.Proofs.YtnboooaockgoiaaGreatDoor
open Go.RowKit
set_option linter.unusedVariables false

/-- If that word stands there, this; else that. -/
def dispP {α : Type} (s : ByteArray) (P Q : List Tk → Re α) (ts : List Tk) : Re α := if isTk s ts then P ts.tail else Q ts
theorem disp_true {α : Type} {s : ByteArray} {P Q : List Tk → Re α} {S : Sa} (h : takeB s S = true) : runP (dispP s P Q) S = runP P (takeS s S) := by
  match S with
  | .inl x => cases h
  | .inr ts =>
    have h' : isTk s ts = true := h
    show dispP s P Q ts = runP P (if isTk s ts then .inr ts.tail else .inr ts)
    rw [dispP, if_pos h', if_pos h']
    rfl
theorem disp_false {α : Type} {s : ByteArray} {P Q : List Tk → Re α} {S : Sa} (h : takeB s S = false) : runP (dispP s P Q) S = runP Q S := by
  match S with
  | .inl x => rfl
  | .inr ts =>
    have h' : isTk s ts = false := h
    show dispP s P Q ts = _
    rw [dispP, if_neg (by rw [h']; simp)]
    rfl
def failP {α : Type} (ts : List Tk) : Re α := .inl (atOf ts, 5)
/-- That word stands there, and is not read. -/
def isP {α : Type} (s : ByteArray) (P Q : List Tk → Re α) (ts : List Tk) : Re α := if isTk s ts then P ts else Q ts
theorem is_true {α : Type} {s : ByteArray} {P Q : List Tk → Re α} {S : Sa} (h : takeB s S = true) : runP (isP s P Q) S = runP P S := by
  match S with
  | .inl x => cases h
  | .inr ts =>
    have h' : isTk s ts = true := h
    show isP s P Q ts = _
    rw [isP, if_pos h']
    rfl
theorem is_false {α : Type} {s : ByteArray} {P Q : List Tk → Re α} {S : Sa} (h : takeB s S = false) : runP (isP s P Q) S = runP Q S := by
  match S with
  | .inl x => rfl
  | .inr ts =>
    have h' : isTk s ts = false := h
    show isP s P Q ts = _
    rw [isP, if_neg (by rw [h']; simp)]
    rfl
def changeP : List Tk → Re Sm := dispP ⟨#[105, 110, 115, 101, 114, 116]⟩ insertP (dispP ⟨#[117, 112, 100, 97, 116, 101]⟩ updateP (dispP ⟨#[100, 101, 108, 101, 116, 101]⟩ deleteP failP))
/-- A statement that has none in it. -/
def plain (P : List Tk → Re Sm) (ts : List Tk) : Re Sf := mapR (fun m => (m, [])) (P ts)
theorem plain_run (P : List Tk → Re Sm) (S : Sa) : runP (plain P) S = mapR (fun m => (m, [])) (runP P S) := by cases S <;> rfl
def createP : List Tk → Re Sf := dispP ⟨#[116, 97, 98, 108, 101]⟩ (plain tableP) (dispP ⟨#[105, 110, 100, 101, 120]⟩ (plain indexP) (dispP ⟨#[118, 105, 101, 119]⟩ (doorP 3 queryP) (dispP ⟨#[99, 108, 111, 115, 117, 114, 101]⟩ (doorP 4 changeP) failP)))
def onlyP (k : Int) (ts : List Tk) : Re Sf := .inr ((sm k, []), ts)
theorem only_run (k : Int) (S : Sa) : stO (runP (onlyP k) S) = S ∧ ∀ m r, runP (onlyP k) S = .inr (m, r) → m = (sm k, []) := by
  cases S with
  | inl x => exact ⟨rfl, fun m r e => by cases e⟩
  | inr ts => exact ⟨rfl, fun m r e => by cases e; rfl⟩
def raiseP (ts : List Tk) : Re Sf := mapR (fun l => (up_ta (sm 12) l, [])) (listP tagP ts)
theorem raise_run (S : Sa) : runP raiseP S = mapR (fun l => (up_ta (sm 12) l, [])) (runP (listP tagP) S) := by cases S <;> rfl
def callP (ts : List Tk) : Re Sf := mapR (fun x => (up_nm (sm 13) x, [])) (nameP ts)
theorem call_run (S : Sa) : runP callP S = mapR (fun x => (up_nm (sm 13) x, [])) (runP nameP S) := by cases S <;> rfl
def stmtP : List Tk → Re Sf := dispP ⟨#[99, 114, 101, 97, 116, 101]⟩ createP (isP ⟨#[115, 101, 108, 101, 99, 116]⟩ (plain queryP) (dispP ⟨#[98, 101, 103, 105, 110]⟩ (onlyP 9) (dispP ⟨#[99, 111, 109, 109, 105, 116]⟩ (onlyP 10) (dispP ⟨#[114, 111, 108, 108, 98, 97, 99, 107]⟩ (onlyP 11) (dispP ⟨#[114, 97, 105, 115, 101]⟩ raiseP (dispP ⟨#[99, 97, 108, 108]⟩ callP (plain changeP)))))))
end Go.Proofs.YtnboooaockgoiaaGreatDoor
