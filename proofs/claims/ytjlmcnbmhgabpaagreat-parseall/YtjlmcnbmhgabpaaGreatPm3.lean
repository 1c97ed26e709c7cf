/- The walks of list at uint16. -/
import Derived.Test.YtjlmcnbmhgabpaaGreatPm
namespace Go.Proofs.YtjlmcnbmhgabpaaGreat
open Go.RowKit
set_option linter.unusedVariables false

theorem Tryz.infoTTag : (Tryz.prog.info? 56).map (fun i => (i.zero, i.size, i.bytes)) = some (some (.int .u16 0), 1, 2) := by kernel_rfl
set_option maxRecDepth 100000 in
set_option maxHeartbeats 2000000 in
theorem pListTag_any {g : Nat} {P : List Tk → Re Int} {v : Value} {S : Sa} {w : World} (h : Rp w g S 0) (hv : PartV g (TeTag g) P v) (hP : Shr P) :
    Calls Tryz.prog 40 #[.pointer (some ⟨g, 0, none⟩), v] w (TeL eTag g w (runP (listP P) S)) := by
  have hgl := h.lt
  obtain ⟨N, rfl, hN, hc⟩ := hv
  have H1 : Hid _ := hid (hc S w h)
  have HP : Hid (∀ S w, Rp w g S 0 → _) := hid hc
  have hf := h.few
  generalize hR : runP (listP P) S = R at *
  have HR : Hid (∀ (cs : List Value) (E : Int → List Value → Prop), (∀ t r, runP P S = .inr (t, r) → E t cs) → LiR P R (stO (runP P S)) [cs] E) := hid fun cs E k => hR ▸ LiR.start k
  clear h hc hR
  go_enter Tryz.func40, Tryz.ntmps40
  go_wp2_with fail
  refine Calls.mono H1.out ?_
  rintro e w1 ⟨z1, rfl, hb1, hr1, hx1⟩
  have hsz1 := hb1.size
  have hr2 := hr1.alloc (.cells #[.int .u16 z1] 56)
  have hB2 := hb1.alloc (.cells #[.int .u16 z1] 56)
  have ho2 := OwnR.lit 56 1 w.heap.size w1 [.int .u16 z1] rfl hsz1
  have HE : Hid (LiR P R (stO (runP P S)) [[.int .u16 z1]] fun t cs => eTag.E (fun b => w.heap.size ≤ b ∧ some b ≠ some w1.heap.size) (w1.alloc (.cells #[.int .u16 z1] 56)) t cs) := hid (HR.out _ _ fun t r e => by rw [hx1 t r e]; rfl)
  have hf1 : ([[.int .u16 z1]] : List (List Value)).length + szS (stO (runP P S)) ≤ 501 := by
    have := hr1.few
    simp only [List.length_singleton]
    omega
  generalize stO (runP P S) = S1 at *
  clear H1 HR hx1 hb1 hr1
  go_wp2
  go_loopw [5] (fun v5 wr => ∃ (S1 : Sa) (css : List (List Value)), Rp wr g S1 0 ∧ But g w wr ∧ OwnR 56 1 w.heap.size wr v5 css ∧ css ≠ [] ∧ css.length + szS S1 ≤ 501 ∧ css.length ≤ 501 ∧ Hid (LiR P R S1 css fun t cs => eTag.E (fun b => w.heap.size ≤ b ∧ some b ≠ v5.ownBlock) wr t cs)) (fun _ wr => szW g wr)
  case atStart => exact ⟨S1, [[.int .u16 z1]], hr2, hB2, ho2, by simp, hf1, by simp, HE⟩
  case round =>
    clear hr2 hB2 ho2 HE hf1
    obtain ⟨S2, css, hr, hB, ho, hne, hcs, hcl, HE⟩ := hrel
    have hm := hr.sz
    have HT := pTake_any hr ⟨#[44]⟩
    cases hb : takeB ⟨#[44]⟩ S2 with
    | false =>
      obtain ⟨e1, e2⟩ := HE.out.stop hb
      rw [hb, takeB_false hb] at HT
      replace HT : Hid _ := hid HT
      have E1 : Hid _ := hid e1
      have E2 : Hid _ := hid e2
      have hblk := ho.blk
      clear hb e1 e2 HE hm hr
      go_wp2_with fail
      refine Calls.mono HT.out ?_
      rintro e w3 ⟨rfl, hr3, hb3⟩
      have hB3 := hB.trans hb3
      have ho3 := ho.but hb3 (by omega)
      rcases ho3.2.2 with ⟨rfl, h0⟩ | ⟨gg, cap, cur, rfl, hrest⟩
      · exact absurd (List.eq_nil_of_length_eq_zero h0) hne
      · clear HT
        go_wp2
        go_ret
        refine ⟨_, _, _, rfl, hB3, by rw [E1.out]; exact hr3, fun l r e => ?_⟩
        obtain ⟨h1, h2⟩ := E2.out l r e
        exact OwnR.row (e := eTag) ho3 h1 hne (fun b hb _ => hb) fun i a b => eTag.keep (fun b hb hlt => hb3.block b hlt (by omega)) (eTag.mono (fun b hb _ => hb.1) (h2 i a b))
    | true =>
      obtain ⟨t, ts, rfl, ht, hT⟩ := takeB_true hb
      obtain ⟨hle, hgo⟩ := HE.out.go hP hb
      rw [hb, hT] at HT
      replace HT : Hid _ := hid HT
      have HG : Hid _ := hid hgo
      have HS : Hid _ := hid hle
      have hm' : szW g wr = ts.length + 1 := hm
      have hcs' : css.length + (ts.length + 1) ≤ 501 := hcs
      clear hb hle hgo HE hT hr hm hcs
      go_wp2_with fail
      refine Calls.mono HT.out ?_
      rintro e w3 ⟨rfl, hr3, hb3⟩
      have hB3 := hB.trans hb3
      have ho3 := ho.but hb3 (by omega)
      have HC : Hid _ := hid (HP.out _ _ hr3)
      clear HT
      go_wp2_with fail
      refine Calls.mono HC.out ?_
      rintro e w4 ⟨z1, rfl, hb4, hr4, hx4⟩
      have hB4 := hB3.trans hb4
      have ho4 := ho3.but hb4 (by omega)
      have hr5 := hr4.alloc (.cells #[.int .u16 z1] 56)
      have hB5 := hB4.alloc (.cells #[.int .u16 z1] 56)
      have ho5 := ho4.alloc (.cells #[.int .u16 z1] 56)
      have hblk := ho3.blk
      have hsz4 := hb4.size
      have hwr := hB.size
      clear hr3 hr4 ho ho3 ho4 hB hB3 hB4
      go_wp2_with (first | (at_builtin; refine wpList_appR Tryz.underlying24 Tryz.infoTTag rfl (by decide) (by decide) rfl (.tmp 11) (.tmp 14) rfl _ css w4.heap.size [.int .u16 z1] rfl rfl ho5 rfl (by simp [Value.oneCell']) ?_ (by omega) hB5.size ?_) | fail)
      · intro j hj
        have hj' : j < 1 := hj
        match j, hj' with
        | 0, _ => exact cell_new w4 _ _ _ 0
      · intro v' w6 hO6 hg6 hown
        have hB6 := hB5.grown hg6 fun k e => (hblk k e).1
        have hr6 := hr5.grown hg6 fun k e => by have := (hblk k e).1; omega
        have HN : Hid _ := hid (HG.out [.int .u16 z1] (fun t cs => eTag.E (fun b => w.heap.size ≤ b ∧ some b ≠ v'.ownBlock) w6 t cs)
          (fun u ds hE => eTag.grow (eTag.keep (w' := w4.alloc (.cells #[.int .u16 z1] 56)) (fun b hq hlt => (bal (Below.refl _ w4) _).block b hlt) (eTag.keep (w' := w4) (fun b hq hlt => hb4.block b hlt (by omega)) (eTag.keep (w' := w3) (fun b hq hlt => hb3.block b hlt (by omega)) hE))) hg6 (by simpa using hown))
          (fun u r e => eTag.grow (eTag.keep (w' := w4.alloc (.cells #[.int .u16 z1] 56)) (fun b hq hlt => (bal (Below.refl _ w4) _).block b hlt) (eTag.mono (Q := fun b => w3.heap.size ≤ b) (fun b hq _ => ⟨by have := hb3.size; have := hwr; omega, fun k => by have := (hblk b k.symm).2; omega⟩) (by rw [hx4 u r e]; rfl))) hg6 (by simpa using hown)))
        have hm6 := hr6.sz
        have hs6 : szS (stO (P ts)) ≤ ts.length := HS.out
        clear HG HC hg6 hown hr5 hB5 ho5 hx4 hb4 hb3 hblk
        go_wp2
        go_roundw
        case rel => exact ⟨stO (P ts), css ++ [[.int .u16 z1]], hr6, hB6, hO6, by simp, by simp only [List.length_append, List.length_singleton]; omega, by simp only [List.length_append, List.length_singleton]; omega, HN⟩
        case measure =>
          have hm7 : szW g w6 = szS (stO (P ts)) := hm6
          omega

end Go.Proofs.YtjlmcnbmhgabpaaGreat

/- The walks of list at api.Col. -/
namespace Go.Proofs.YtjlmcnbmhgabpaaGreat
open Go.RowKit
set_option linter.unusedVariables false

theorem Tryz.infoTCol : (Tryz.prog.info? 55).map (fun i => (i.zero, i.size, i.bytes)) = some (some (.agg #[.string ⟨#[]⟩, .int .i64 0, .string ⟨#[]⟩]), 3, 40) := by kernel_rfl
set_option maxRecDepth 100000 in
set_option maxHeartbeats 2000000 in
theorem pListCol_any {g : Nat} {P : List Tk → Re Co} {v : Value} {S : Sa} {w : World} (h : Rp w g S 0) (hv : PartV g (TeCol g) P v) (hP : Shr P) :
    Calls Tryz.prog 128 #[.pointer (some ⟨g, 0, none⟩), v] w (TeL eCol g w (runP (listP P) S)) := by
  have hgl := h.lt
  obtain ⟨N, rfl, hN, hc⟩ := hv
  have H1 : Hid _ := hid (hc S w h)
  have HP : Hid (∀ S w, Rp w g S 0 → _) := hid hc
  have hf := h.few
  generalize hR : runP (listP P) S = R at *
  have HR : Hid (∀ (cs : List Value) (E : Co → List Value → Prop), (∀ t r, runP P S = .inr (t, r) → E t cs) → LiR P R (stO (runP P S)) [cs] E) := hid fun cs E k => hR ▸ LiR.start k
  clear h hc hR
  go_enter Tryz.func128, Tryz.ntmps128
  go_wp2_with fail
  refine Calls.mono H1.out ?_
  rintro e w1 ⟨x1, k1, f1, rfl, hb1, hr1, hx1⟩
  have hsz1 := hb1.size
  have hr2 := hr1.alloc (.cells #[.string x1, .int .i64 k1, .string f1] 55)
  have hB2 := hb1.alloc (.cells #[.string x1, .int .i64 k1, .string f1] 55)
  have ho2 := OwnR.lit 55 3 w.heap.size w1 [.string x1, .int .i64 k1, .string f1] rfl hsz1
  have HE : Hid (LiR P R (stO (runP P S)) [[.string x1, .int .i64 k1, .string f1]] fun t cs => eCol.E (fun b => w.heap.size ≤ b ∧ some b ≠ some w1.heap.size) (w1.alloc (.cells #[.string x1, .int .i64 k1, .string f1] 55)) t cs) := hid (HR.out _ _ fun t r e => by rw [← hx1 t r e]; rfl)
  have hf1 : ([[.string x1, .int .i64 k1, .string f1]] : List (List Value)).length + szS (stO (runP P S)) ≤ 501 := by
    have := hr1.few
    simp only [List.length_singleton]
    omega
  generalize stO (runP P S) = S1 at *
  clear H1 HR hx1 hb1 hr1
  go_wp2
  go_loopw [5] (fun v5 wr => ∃ (S1 : Sa) (css : List (List Value)), Rp wr g S1 0 ∧ But g w wr ∧ OwnR 55 3 w.heap.size wr v5 css ∧ css ≠ [] ∧ css.length + szS S1 ≤ 501 ∧ css.length ≤ 501 ∧ Hid (LiR P R S1 css fun t cs => eCol.E (fun b => w.heap.size ≤ b ∧ some b ≠ v5.ownBlock) wr t cs)) (fun _ wr => szW g wr)
  case atStart => exact ⟨S1, [[.string x1, .int .i64 k1, .string f1]], hr2, hB2, ho2, by simp, hf1, by simp, HE⟩
  case round =>
    clear hr2 hB2 ho2 HE hf1
    obtain ⟨S2, css, hr, hB, ho, hne, hcs, hcl, HE⟩ := hrel
    have hm := hr.sz
    have HT := pTake_any hr ⟨#[44]⟩
    cases hb : takeB ⟨#[44]⟩ S2 with
    | false =>
      obtain ⟨e1, e2⟩ := HE.out.stop hb
      rw [hb, takeB_false hb] at HT
      replace HT : Hid _ := hid HT
      have E1 : Hid _ := hid e1
      have E2 : Hid _ := hid e2
      have hblk := ho.blk
      clear hb e1 e2 HE hm hr
      go_wp2_with fail
      refine Calls.mono HT.out ?_
      rintro e w3 ⟨rfl, hr3, hb3⟩
      have hB3 := hB.trans hb3
      have ho3 := ho.but hb3 (by omega)
      rcases ho3.2.2 with ⟨rfl, h0⟩ | ⟨gg, cap, cur, rfl, hrest⟩
      · exact absurd (List.eq_nil_of_length_eq_zero h0) hne
      · clear HT
        go_wp2
        go_ret
        refine ⟨_, _, _, rfl, hB3, by rw [E1.out]; exact hr3, fun l r e => ?_⟩
        obtain ⟨h1, h2⟩ := E2.out l r e
        exact OwnR.row (e := eCol) ho3 h1 hne (fun b hb _ => hb) fun i a b => eCol.keep (fun b hb hlt => hb3.block b hlt (by omega)) (eCol.mono (fun b hb _ => hb.1) (h2 i a b))
    | true =>
      obtain ⟨t, ts, rfl, ht, hT⟩ := takeB_true hb
      obtain ⟨hle, hgo⟩ := HE.out.go hP hb
      rw [hb, hT] at HT
      replace HT : Hid _ := hid HT
      have HG : Hid _ := hid hgo
      have HS : Hid _ := hid hle
      have hm' : szW g wr = ts.length + 1 := hm
      have hcs' : css.length + (ts.length + 1) ≤ 501 := hcs
      clear hb hle hgo HE hT hr hm hcs
      go_wp2_with fail
      refine Calls.mono HT.out ?_
      rintro e w3 ⟨rfl, hr3, hb3⟩
      have hB3 := hB.trans hb3
      have ho3 := ho.but hb3 (by omega)
      have HC : Hid _ := hid (HP.out _ _ hr3)
      clear HT
      go_wp2_with fail
      refine Calls.mono HC.out ?_
      rintro e w4 ⟨x1, k1, f1, rfl, hb4, hr4, hx4⟩
      have hB4 := hB3.trans hb4
      have ho4 := ho3.but hb4 (by omega)
      have hr5 := hr4.alloc (.cells #[.string x1, .int .i64 k1, .string f1] 55)
      have hB5 := hB4.alloc (.cells #[.string x1, .int .i64 k1, .string f1] 55)
      have ho5 := ho4.alloc (.cells #[.string x1, .int .i64 k1, .string f1] 55)
      have hblk := ho3.blk
      have hsz4 := hb4.size
      have hwr := hB.size
      clear hr3 hr4 ho ho3 ho4 hB hB3 hB4
      go_wp2_with (first | (at_builtin; refine wpList_appR Tryz.underlying23 Tryz.infoTCol rfl (by decide) (by decide) rfl (.tmp 11) (.tmp 14) rfl _ css w4.heap.size [.string x1, .int .i64 k1, .string f1] rfl rfl ho5 rfl (by simp [Value.oneCell']) ?_ (by omega) hB5.size ?_) | fail)
      · intro j hj
        have hj' : j < 3 := hj
        match j, hj' with
        | 0, _ => exact cell_new w4 _ _ _ 0
        | 1, _ => exact cell_new w4 _ _ _ 1
        | 2, _ => exact cell_new w4 _ _ _ 2
      · intro v' w6 hO6 hg6 hown
        have hB6 := hB5.grown hg6 fun k e => (hblk k e).1
        have hr6 := hr5.grown hg6 fun k e => by have := (hblk k e).1; omega
        have HN : Hid _ := hid (HG.out [.string x1, .int .i64 k1, .string f1] (fun t cs => eCol.E (fun b => w.heap.size ≤ b ∧ some b ≠ v'.ownBlock) w6 t cs)
          (fun u ds hE => eCol.grow (eCol.keep (w' := w4.alloc (.cells #[.string x1, .int .i64 k1, .string f1] 55)) (fun b hq hlt => (bal (Below.refl _ w4) _).block b hlt) (eCol.keep (w' := w4) (fun b hq hlt => hb4.block b hlt (by omega)) (eCol.keep (w' := w3) (fun b hq hlt => hb3.block b hlt (by omega)) hE))) hg6 (by simpa using hown))
          (fun u r e => eCol.grow (eCol.keep (w' := w4.alloc (.cells #[.string x1, .int .i64 k1, .string f1] 55)) (fun b hq hlt => (bal (Below.refl _ w4) _).block b hlt) (eCol.mono (Q := fun b => w3.heap.size ≤ b) (fun b hq _ => ⟨by have := hb3.size; have := hwr; omega, fun k => by have := (hblk b k.symm).2; omega⟩) (by rw [← hx4 u r e]; rfl))) hg6 (by simpa using hown)))
        have hm6 := hr6.sz
        have hs6 : szS (stO (P ts)) ≤ ts.length := HS.out
        clear HG HC hg6 hown hr5 hB5 ho5 hx4 hb4 hb3 hblk
        go_wp2
        go_roundw
        case rel => exact ⟨stO (P ts), css ++ [[.string x1, .int .i64 k1, .string f1]], hr6, hB6, hO6, by simp, by simp only [List.length_append, List.length_singleton]; omega, by simp only [List.length_append, List.length_singleton]; omega, HN⟩
        case measure =>
          have hm7 : szW g w6 = szS (stO (P ts)) := hm6
          omega

end Go.Proofs.YtjlmcnbmhgabpaaGreat

/- The walks of list at api.Item. -/
namespace Go.Proofs.YtjlmcnbmhgabpaaGreat
open Go.RowKit
set_option linter.unusedVariables false

theorem Tryz.infoTItem : (Tryz.prog.info? 58).map (fun i => (i.zero, i.size, i.bytes)) = some (some (.agg #[.int .i64 0, .string ⟨#[]⟩, .string ⟨#[]⟩]), 3, 40) := by kernel_rfl
set_option maxRecDepth 100000 in
set_option maxHeartbeats 2000000 in
theorem pListItem_any {g : Nat} {P : List Tk → Re It} {v : Value} {S : Sa} {w : World} (h : Rp w g S 0) (hv : PartV g (TeItem g) P v) (hP : Shr P) :
    Calls Tryz.prog 82 #[.pointer (some ⟨g, 0, none⟩), v] w (TeL eItem g w (runP (listP P) S)) := by
  have hgl := h.lt
  obtain ⟨N, rfl, hN, hc⟩ := hv
  have H1 : Hid _ := hid (hc S w h)
  have HP : Hid (∀ S w, Rp w g S 0 → _) := hid hc
  have hf := h.few
  generalize hR : runP (listP P) S = R at *
  have HR : Hid (∀ (cs : List Value) (E : It → List Value → Prop), (∀ t r, runP P S = .inr (t, r) → E t cs) → LiR P R (stO (runP P S)) [cs] E) := hid fun cs E k => hR ▸ LiR.start k
  clear h hc hR
  go_enter Tryz.func82, Tryz.ntmps82
  go_wp2_with fail
  refine Calls.mono H1.out ?_
  rintro e w1 ⟨k1, x1, f1, rfl, hb1, hr1, hx1⟩
  have hsz1 := hb1.size
  have hr2 := hr1.alloc (.cells #[.int .i64 k1, .string x1, .string f1] 58)
  have hB2 := hb1.alloc (.cells #[.int .i64 k1, .string x1, .string f1] 58)
  have ho2 := OwnR.lit 58 3 w.heap.size w1 [.int .i64 k1, .string x1, .string f1] rfl hsz1
  have HE : Hid (LiR P R (stO (runP P S)) [[.int .i64 k1, .string x1, .string f1]] fun t cs => eItem.E (fun b => w.heap.size ≤ b ∧ some b ≠ some w1.heap.size) (w1.alloc (.cells #[.int .i64 k1, .string x1, .string f1] 58)) t cs) := hid (HR.out _ _ fun t r e => by rw [← hx1 t r e]; rfl)
  have hf1 : ([[.int .i64 k1, .string x1, .string f1]] : List (List Value)).length + szS (stO (runP P S)) ≤ 501 := by
    have := hr1.few
    simp only [List.length_singleton]
    omega
  generalize stO (runP P S) = S1 at *
  clear H1 HR hx1 hb1 hr1
  go_wp2
  go_loopw [5] (fun v5 wr => ∃ (S1 : Sa) (css : List (List Value)), Rp wr g S1 0 ∧ But g w wr ∧ OwnR 58 3 w.heap.size wr v5 css ∧ css ≠ [] ∧ css.length + szS S1 ≤ 501 ∧ css.length ≤ 501 ∧ Hid (LiR P R S1 css fun t cs => eItem.E (fun b => w.heap.size ≤ b ∧ some b ≠ v5.ownBlock) wr t cs)) (fun _ wr => szW g wr)
  case atStart => exact ⟨S1, [[.int .i64 k1, .string x1, .string f1]], hr2, hB2, ho2, by simp, hf1, by simp, HE⟩
  case round =>
    clear hr2 hB2 ho2 HE hf1
    obtain ⟨S2, css, hr, hB, ho, hne, hcs, hcl, HE⟩ := hrel
    have hm := hr.sz
    have HT := pTake_any hr ⟨#[44]⟩
    cases hb : takeB ⟨#[44]⟩ S2 with
    | false =>
      obtain ⟨e1, e2⟩ := HE.out.stop hb
      rw [hb, takeB_false hb] at HT
      replace HT : Hid _ := hid HT
      have E1 : Hid _ := hid e1
      have E2 : Hid _ := hid e2
      have hblk := ho.blk
      clear hb e1 e2 HE hm hr
      go_wp2_with fail
      refine Calls.mono HT.out ?_
      rintro e w3 ⟨rfl, hr3, hb3⟩
      have hB3 := hB.trans hb3
      have ho3 := ho.but hb3 (by omega)
      rcases ho3.2.2 with ⟨rfl, h0⟩ | ⟨gg, cap, cur, rfl, hrest⟩
      · exact absurd (List.eq_nil_of_length_eq_zero h0) hne
      · clear HT
        go_wp2
        go_ret
        refine ⟨_, _, _, rfl, hB3, by rw [E1.out]; exact hr3, fun l r e => ?_⟩
        obtain ⟨h1, h2⟩ := E2.out l r e
        exact OwnR.row (e := eItem) ho3 h1 hne (fun b hb _ => hb) fun i a b => eItem.keep (fun b hb hlt => hb3.block b hlt (by omega)) (eItem.mono (fun b hb _ => hb.1) (h2 i a b))
    | true =>
      obtain ⟨t, ts, rfl, ht, hT⟩ := takeB_true hb
      obtain ⟨hle, hgo⟩ := HE.out.go hP hb
      rw [hb, hT] at HT
      replace HT : Hid _ := hid HT
      have HG : Hid _ := hid hgo
      have HS : Hid _ := hid hle
      have hm' : szW g wr = ts.length + 1 := hm
      have hcs' : css.length + (ts.length + 1) ≤ 501 := hcs
      clear hb hle hgo HE hT hr hm hcs
      go_wp2_with fail
      refine Calls.mono HT.out ?_
      rintro e w3 ⟨rfl, hr3, hb3⟩
      have hB3 := hB.trans hb3
      have ho3 := ho.but hb3 (by omega)
      have HC : Hid _ := hid (HP.out _ _ hr3)
      clear HT
      go_wp2_with fail
      refine Calls.mono HC.out ?_
      rintro e w4 ⟨k1, x1, f1, rfl, hb4, hr4, hx4⟩
      have hB4 := hB3.trans hb4
      have ho4 := ho3.but hb4 (by omega)
      have hr5 := hr4.alloc (.cells #[.int .i64 k1, .string x1, .string f1] 58)
      have hB5 := hB4.alloc (.cells #[.int .i64 k1, .string x1, .string f1] 58)
      have ho5 := ho4.alloc (.cells #[.int .i64 k1, .string x1, .string f1] 58)
      have hblk := ho3.blk
      have hsz4 := hb4.size
      have hwr := hB.size
      clear hr3 hr4 ho ho3 ho4 hB hB3 hB4
      go_wp2_with (first | (at_builtin; refine wpList_appR Tryz.underlying26 Tryz.infoTItem rfl (by decide) (by decide) rfl (.tmp 11) (.tmp 14) rfl _ css w4.heap.size [.int .i64 k1, .string x1, .string f1] rfl rfl ho5 rfl (by simp [Value.oneCell']) ?_ (by omega) hB5.size ?_) | fail)
      · intro j hj
        have hj' : j < 3 := hj
        match j, hj' with
        | 0, _ => exact cell_new w4 _ _ _ 0
        | 1, _ => exact cell_new w4 _ _ _ 1
        | 2, _ => exact cell_new w4 _ _ _ 2
      · intro v' w6 hO6 hg6 hown
        have hB6 := hB5.grown hg6 fun k e => (hblk k e).1
        have hr6 := hr5.grown hg6 fun k e => by have := (hblk k e).1; omega
        have HN : Hid _ := hid (HG.out [.int .i64 k1, .string x1, .string f1] (fun t cs => eItem.E (fun b => w.heap.size ≤ b ∧ some b ≠ v'.ownBlock) w6 t cs)
          (fun u ds hE => eItem.grow (eItem.keep (w' := w4.alloc (.cells #[.int .i64 k1, .string x1, .string f1] 58)) (fun b hq hlt => (bal (Below.refl _ w4) _).block b hlt) (eItem.keep (w' := w4) (fun b hq hlt => hb4.block b hlt (by omega)) (eItem.keep (w' := w3) (fun b hq hlt => hb3.block b hlt (by omega)) hE))) hg6 (by simpa using hown))
          (fun u r e => eItem.grow (eItem.keep (w' := w4.alloc (.cells #[.int .i64 k1, .string x1, .string f1] 58)) (fun b hq hlt => (bal (Below.refl _ w4) _).block b hlt) (eItem.mono (Q := fun b => w3.heap.size ≤ b) (fun b hq _ => ⟨by have := hb3.size; have := hwr; omega, fun k => by have := (hblk b k.symm).2; omega⟩) (by rw [← hx4 u r e]; rfl))) hg6 (by simpa using hown)))
        have hm6 := hr6.sz
        have hs6 : szS (stO (P ts)) ≤ ts.length := HS.out
        clear HG HC hg6 hown hr5 hB5 ho5 hx4 hb4 hb3 hblk
        go_wp2
        go_roundw
        case rel => exact ⟨stO (P ts), css ++ [[.int .i64 k1, .string x1, .string f1]], hr6, hB6, hO6, by simp, by simp only [List.length_append, List.length_singleton]; omega, by simp only [List.length_append, List.length_singleton]; omega, HN⟩
        case measure =>
          have hm7 : szW g w6 = szS (stO (P ts)) := hm6
          omega

end Go.Proofs.YtjlmcnbmhgabpaaGreat

