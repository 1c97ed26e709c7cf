import Derived.Test.YtfopfhlohihihaaGreatSaj
namespace Go.Proofs.YtfopfhlohihihaaGreat
open Go.RowKit
set_option linter.unusedVariables false
set_option linter.unusedSimpArgs false
theorem Tryz.infoTCol : (Tryz.prog.info? 70).map (fun i => (i.zero,i.size,i.bytes)) = some (some (.agg #[.string ⟨#[]⟩,.int .i64 0,.string ⟨#[]⟩]),3,40) := by kernel_rfl
set_option maxRecDepth 100000 in
set_option maxHeartbeats 2000000 in
theorem pListCol_any {g : Nat} {P : List Tk → Re Co} {v : Value} {S : Sa} {w : World} (h : Rp w g S 0) (hv : PartV g (TeCol g) P v) (hP : Shr P) :
  Calls Tryz.prog 109 #[.pointer (some ⟨g,0,none⟩),v] w (TeL eCol g w (runP (listP P) S)) := by
 have hgl := h.lt
 obtain ⟨N,rfl,hN,hc⟩ := hv
 have H1 : Hid _ := hid (hc S w h)
 have HP : Hid (∀ S w,Rp w g S 0 → _) := hid hc
 have hf := h.few
 generalize hR : runP (listP P) S = R at *
 have HR : Hid (∀ (cs : List Value) (E : Co → List Value → Prop),(∀ t r,runP P S = .inr (t,r) → E t cs) → LiR P R (stO (runP P S)) [cs] E) := hid fun cs E k => hR ▸ LiR.start k
 clear h hc hR
 go_enter Tryz.func109,Tryz.ntmps109
 go_wp2_with fail
 refine Calls.mono H1.out ?_
 rintro e w1 ⟨x1,k1,f1,rfl,hb1,hr1,hx1⟩
 have hsz1 := hb1.size
 have hr2 := hr1.alloc (.cells #[.string x1,.int .i64 k1,.string f1] 70)
 have hB2 := hb1.alloc (.cells #[.string x1,.int .i64 k1,.string f1] 70)
 have ho2 := OwnR.lit 70 3 w.heap.size w1 [.string x1,.int .i64 k1,.string f1] rfl hsz1
 have HE : Hid (LiR P R (stO (runP P S)) [[.string x1,.int .i64 k1,.string f1]] fun t cs => eCol.E (fun b => w.heap.size ≤ b ∧ some b ≠ some w1.heap.size) (w1.alloc (.cells #[.string x1,.int .i64 k1,.string f1] 70)) t cs) := hid (HR.out _ _ fun t r e => by rw [← hx1 t r e]; rfl)
 have hf1 : ([[.string x1,.int .i64 k1,.string f1]] : List (List Value)).length + szS (stO (runP P S)) ≤ 501 := by
  have := hr1.few
  simp only [List.length_singleton]
  omega
 generalize stO (runP P S) = S1 at *
 clear H1 HR hx1 hb1 hr1
 go_wp2
 go_loopw [5] (fun v5 wr => ∃ (S1 : Sa) (css : List (List Value)),Rp wr g S1 0 ∧ But g w wr ∧ OwnR 70 3 w.heap.size wr v5 css ∧ css ≠ [] ∧ css.length + szS S1 ≤ 501 ∧ css.length ≤ 501 ∧ Hid (LiR P R S1 css fun t cs => eCol.E (fun b => w.heap.size ≤ b ∧ some b ≠ v5.ownBlock) wr t cs)) (fun _ wr => szW g wr)
 case atStart => exact ⟨S1,[[.string x1,.int .i64 k1,.string f1]],hr2,hB2,ho2,by simp,hf1,by simp,HE⟩
 case round =>
  clear hr2 hB2 ho2 HE hf1
  obtain ⟨S2,css,hr,hB,ho,hne,hcs,hcl,HE⟩ := hrel
  have hm := hr.sz
  have HT := pTake_any hr ⟨#[44]⟩
  cases hb : takeB ⟨#[44]⟩ S2 with
  | false =>
   obtain ⟨e1,e2⟩ := HE.out.stop hb
   rw [hb,takeB_false hb] at HT
   replace HT : Hid _ := hid HT
   have E1 : Hid _ := hid e1
   have E2 : Hid _ := hid e2
   have hblk := ho.blk
   clear hb e1 e2 HE hm hr
   go_wp2_with fail
   refine Calls.mono HT.out ?_
   rintro e w3 ⟨rfl,hr3,hb3⟩
   have hB3 := hB.trans hb3
   have ho3 := ho.but hb3 (by omega)
   rcases ho3.2.2 with ⟨rfl,h0⟩ | ⟨gg,cap,cur,rfl,hrest⟩
   ·exact absurd (List.eq_nil_of_length_eq_zero h0) hne
   ·clear HT
    go_wp2
    go_ret
    refine ⟨_,_,_,rfl,hB3,by rw [E1.out]; exact hr3,fun l r e => ?_⟩
    obtain ⟨h1,h2⟩ := E2.out l r e
    exact OwnR.row (e := eCol) ho3 h1 hne (fun b hb _ => hb) fun i a b => eCol.keep (fun b hb hlt => hb3.block b hlt (by omega)) (eCol.mono (fun b hb _ => hb.1) (h2 i a b))
  | true =>
   obtain ⟨t,ts,rfl,ht,hT⟩ := takeB_true hb
   obtain ⟨hle,hgo⟩ := HE.out.go hP hb
   rw [hb,hT] at HT
   replace HT : Hid _ := hid HT
   have HG : Hid _ := hid hgo
   have HS : Hid _ := hid hle
   have hm' : szW g wr = ts.length + 1 := hm
   have hcs' : css.length + (ts.length + 1) ≤ 501 := hcs
   clear hb hle hgo HE hT hr hm hcs
   go_wp2_with fail
   refine Calls.mono HT.out ?_
   rintro e w3 ⟨rfl,hr3,hb3⟩
   have hB3 := hB.trans hb3
   have ho3 := ho.but hb3 (by omega)
   have HC : Hid _ := hid (HP.out _ _ hr3)
   clear HT
   go_wp2_with fail
   refine Calls.mono HC.out ?_
   rintro e w4 ⟨x1,k1,f1,rfl,hb4,hr4,hx4⟩
   have hB4 := hB3.trans hb4
   have ho4 := ho3.but hb4 (by omega)
   have hr5 := hr4.alloc (.cells #[.string x1,.int .i64 k1,.string f1] 70)
   have hB5 := hB4.alloc (.cells #[.string x1,.int .i64 k1,.string f1] 70)
   have ho5 := ho4.alloc (.cells #[.string x1,.int .i64 k1,.string f1] 70)
   have hblk := ho3.blk
   have hsz4 := hb4.size
   have hwr := hB.size
   clear hr3 hr4 ho ho3 ho4 hB hB3 hB4
   go_wp2_with (first | (at_builtin; refine wpList_appR Tryz.underlying24 Tryz.infoTCol rfl (by decide) (by decide) rfl (.tmp 11) (.tmp 14) rfl _ css w4.heap.size [.string x1,.int .i64 k1,.string f1] rfl rfl ho5 rfl (by simp [Value.oneCell']) ?_ (by omega) hB5.size ?_) | fail)
   ·intro j hj
    have hj' : j < 3 := hj
    match j,hj' with
    | 0,_ => exact cell_new w4 _ _ _ 0
    | 1,_ => exact cell_new w4 _ _ _ 1
    | 2,_ => exact cell_new w4 _ _ _ 2
   ·intro v' w6 hO6 hg6 hown
    have hB6 := hB5.grown hg6 fun k e => (hblk k e).1
    have hr6 := hr5.grown hg6 fun k e => by have := (hblk k e).1; omega
    have HN : Hid _ := hid (HG.out [.string x1,.int .i64 k1,.string f1] (fun t cs => eCol.E (fun b => w.heap.size ≤ b ∧ some b ≠ v'.ownBlock) w6 t cs)
     (fun u ds hE => eCol.grow (eCol.keep (w' := w4.alloc (.cells #[.string x1,.int .i64 k1,.string f1] 70)) (fun b hq hlt => (bal (Below.refl _ w4) _).block b hlt) (eCol.keep (w' := w4) (fun b hq hlt => hb4.block b hlt (by omega)) (eCol.keep (w' := w3) (fun b hq hlt => hb3.block b hlt (by omega)) hE))) hg6 (by simpa using hown))
     (fun u r e => eCol.grow (eCol.keep (w' := w4.alloc (.cells #[.string x1,.int .i64 k1,.string f1] 70)) (fun b hq hlt => (bal (Below.refl _ w4) _).block b hlt) (eCol.mono (Q := fun b => w3.heap.size ≤ b) (fun b hq _ => ⟨by have := hb3.size; have := hwr; omega,fun k => by have := (hblk b k.symm).2; omega⟩) (by rw [← hx4 u r e]; rfl))) hg6 (by simpa using hown)))
    have hm6 := hr6.sz
    have hs6 : szS (stO (P ts)) ≤ ts.length := HS.out
    clear HG HC hg6 hown hr5 hB5 ho5 hx4 hb4 hb3 hblk
    go_wp2
    go_roundw
    case rel => exact ⟨stO (P ts),css ++ [[.string x1,.int .i64 k1,.string f1]],hr6,hB6,hO6,by simp,by simp only [List.length_append,List.length_singleton]; omega,by simp only [List.length_append,List.length_singleton]; omega,HN⟩
    case measure =>
     have hm7 : szW g w6 = szS (stO (P ts)) := hm6
     omega
theorem Tryz.infoTItem : (Tryz.prog.info? 80).map (fun i => (i.zero,i.size,i.bytes)) = some (some (.agg #[.int .i64 0,.string ⟨#[]⟩,.string ⟨#[]⟩]),3,40) := by kernel_rfl
set_option maxRecDepth 100000 in
set_option maxHeartbeats 2000000 in
theorem pListItem_any {g : Nat} {P : List Tk → Re It} {v : Value} {S : Sa} {w : World} (h : Rp w g S 0) (hv : PartV g (TeItem g) P v) (hP : Shr P) :
  Calls Tryz.prog 76 #[.pointer (some ⟨g,0,none⟩),v] w (TeL eItem g w (runP (listP P) S)) := by
 have hgl := h.lt
 obtain ⟨N,rfl,hN,hc⟩ := hv
 have H1 : Hid _ := hid (hc S w h)
 have HP : Hid (∀ S w,Rp w g S 0 → _) := hid hc
 have hf := h.few
 generalize hR : runP (listP P) S = R at *
 have HR : Hid (∀ (cs : List Value) (E : It → List Value → Prop),(∀ t r,runP P S = .inr (t,r) → E t cs) → LiR P R (stO (runP P S)) [cs] E) := hid fun cs E k => hR ▸ LiR.start k
 clear h hc hR
 go_enter Tryz.func76,Tryz.ntmps76
 go_wp2_with fail
 refine Calls.mono H1.out ?_
 rintro e w1 ⟨k1,x1,f1,rfl,hb1,hr1,hx1⟩
 have hsz1 := hb1.size
 have hr2 := hr1.alloc (.cells #[.int .i64 k1,.string x1,.string f1] 80)
 have hB2 := hb1.alloc (.cells #[.int .i64 k1,.string x1,.string f1] 80)
 have ho2 := OwnR.lit 80 3 w.heap.size w1 [.int .i64 k1,.string x1,.string f1] rfl hsz1
 have HE : Hid (LiR P R (stO (runP P S)) [[.int .i64 k1,.string x1,.string f1]] fun t cs => eItem.E (fun b => w.heap.size ≤ b ∧ some b ≠ some w1.heap.size) (w1.alloc (.cells #[.int .i64 k1,.string x1,.string f1] 80)) t cs) := hid (HR.out _ _ fun t r e => by rw [← hx1 t r e]; rfl)
 have hf1 : ([[.int .i64 k1,.string x1,.string f1]] : List (List Value)).length + szS (stO (runP P S)) ≤ 501 := by
  have := hr1.few
  simp only [List.length_singleton]
  omega
 generalize stO (runP P S) = S1 at *
 clear H1 HR hx1 hb1 hr1
 go_wp2
 go_loopw [5] (fun v5 wr => ∃ (S1 : Sa) (css : List (List Value)),Rp wr g S1 0 ∧ But g w wr ∧ OwnR 80 3 w.heap.size wr v5 css ∧ css ≠ [] ∧ css.length + szS S1 ≤ 501 ∧ css.length ≤ 501 ∧ Hid (LiR P R S1 css fun t cs => eItem.E (fun b => w.heap.size ≤ b ∧ some b ≠ v5.ownBlock) wr t cs)) (fun _ wr => szW g wr)
 case atStart => exact ⟨S1,[[.int .i64 k1,.string x1,.string f1]],hr2,hB2,ho2,by simp,hf1,by simp,HE⟩
 case round =>
  clear hr2 hB2 ho2 HE hf1
  obtain ⟨S2,css,hr,hB,ho,hne,hcs,hcl,HE⟩ := hrel
  have hm := hr.sz
  have HT := pTake_any hr ⟨#[44]⟩
  cases hb : takeB ⟨#[44]⟩ S2 with
  | false =>
   obtain ⟨e1,e2⟩ := HE.out.stop hb
   rw [hb,takeB_false hb] at HT
   replace HT : Hid _ := hid HT
   have E1 : Hid _ := hid e1
   have E2 : Hid _ := hid e2
   have hblk := ho.blk
   clear hb e1 e2 HE hm hr
   go_wp2_with fail
   refine Calls.mono HT.out ?_
   rintro e w3 ⟨rfl,hr3,hb3⟩
   have hB3 := hB.trans hb3
   have ho3 := ho.but hb3 (by omega)
   rcases ho3.2.2 with ⟨rfl,h0⟩ | ⟨gg,cap,cur,rfl,hrest⟩
   ·exact absurd (List.eq_nil_of_length_eq_zero h0) hne
   ·clear HT
    go_wp2
    go_ret
    refine ⟨_,_,_,rfl,hB3,by rw [E1.out]; exact hr3,fun l r e => ?_⟩
    obtain ⟨h1,h2⟩ := E2.out l r e
    exact OwnR.row (e := eItem) ho3 h1 hne (fun b hb _ => hb) fun i a b => eItem.keep (fun b hb hlt => hb3.block b hlt (by omega)) (eItem.mono (fun b hb _ => hb.1) (h2 i a b))
  | true =>
   obtain ⟨t,ts,rfl,ht,hT⟩ := takeB_true hb
   obtain ⟨hle,hgo⟩ := HE.out.go hP hb
   rw [hb,hT] at HT
   replace HT : Hid _ := hid HT
   have HG : Hid _ := hid hgo
   have HS : Hid _ := hid hle
   have hm' : szW g wr = ts.length + 1 := hm
   have hcs' : css.length + (ts.length + 1) ≤ 501 := hcs
   clear hb hle hgo HE hT hr hm hcs
   go_wp2_with fail
   refine Calls.mono HT.out ?_
   rintro e w3 ⟨rfl,hr3,hb3⟩
   have hB3 := hB.trans hb3
   have ho3 := ho.but hb3 (by omega)
   have HC : Hid _ := hid (HP.out _ _ hr3)
   clear HT
   go_wp2_with fail
   refine Calls.mono HC.out ?_
   rintro e w4 ⟨k1,x1,f1,rfl,hb4,hr4,hx4⟩
   have hB4 := hB3.trans hb4
   have ho4 := ho3.but hb4 (by omega)
   have hr5 := hr4.alloc (.cells #[.int .i64 k1,.string x1,.string f1] 80)
   have hB5 := hB4.alloc (.cells #[.int .i64 k1,.string x1,.string f1] 80)
   have ho5 := ho4.alloc (.cells #[.int .i64 k1,.string x1,.string f1] 80)
   have hblk := ho3.blk
   have hsz4 := hb4.size
   have hwr := hB.size
   clear hr3 hr4 ho ho3 ho4 hB hB3 hB4
   go_wp2_with (first | (at_builtin; refine wpList_appR Tryz.underlying27 Tryz.infoTItem rfl (by decide) (by decide) rfl (.tmp 11) (.tmp 14) rfl _ css w4.heap.size [.int .i64 k1,.string x1,.string f1] rfl rfl ho5 rfl (by simp [Value.oneCell']) ?_ (by omega) hB5.size ?_) | fail)
   ·intro j hj
    have hj' : j < 3 := hj
    match j,hj' with
    | 0,_ => exact cell_new w4 _ _ _ 0
    | 1,_ => exact cell_new w4 _ _ _ 1
    | 2,_ => exact cell_new w4 _ _ _ 2
   ·intro v' w6 hO6 hg6 hown
    have hB6 := hB5.grown hg6 fun k e => (hblk k e).1
    have hr6 := hr5.grown hg6 fun k e => by have := (hblk k e).1; omega
    have HN : Hid _ := hid (HG.out [.int .i64 k1,.string x1,.string f1] (fun t cs => eItem.E (fun b => w.heap.size ≤ b ∧ some b ≠ v'.ownBlock) w6 t cs)
     (fun u ds hE => eItem.grow (eItem.keep (w' := w4.alloc (.cells #[.int .i64 k1,.string x1,.string f1] 80)) (fun b hq hlt => (bal (Below.refl _ w4) _).block b hlt) (eItem.keep (w' := w4) (fun b hq hlt => hb4.block b hlt (by omega)) (eItem.keep (w' := w3) (fun b hq hlt => hb3.block b hlt (by omega)) hE))) hg6 (by simpa using hown))
     (fun u r e => eItem.grow (eItem.keep (w' := w4.alloc (.cells #[.int .i64 k1,.string x1,.string f1] 80)) (fun b hq hlt => (bal (Below.refl _ w4) _).block b hlt) (eItem.mono (Q := fun b => w3.heap.size ≤ b) (fun b hq _ => ⟨by have := hb3.size; have := hwr; omega,fun k => by have := (hblk b k.symm).2; omega⟩) (by rw [← hx4 u r e]; rfl))) hg6 (by simpa using hown)))
    have hm6 := hr6.sz
    have hs6 : szS (stO (P ts)) ≤ ts.length := HS.out
    clear HG HC hg6 hown hr5 hB5 ho5 hx4 hb4 hb3 hblk
    go_wp2
    go_roundw
    case rel => exact ⟨stO (P ts),css ++ [[.int .i64 k1,.string x1,.string f1]],hr6,hB6,hO6,by simp,by simp only [List.length_append,List.length_singleton]; omega,by simp only [List.length_append,List.length_singleton]; omega,HN⟩
    case measure =>
     have hm7 : szW g w6 = szS (stO (P ts)) := hm6
     omega
theorem pWant1 {g : Nat} {S : Sa} {d : Nat} {w : World} (h : Rp w g S d) (s : ByteArray) {b : Nat} (hb : w.heap.size = b := by rfl) :
  Calls Tryz.prog 75 #[.pointer (some ⟨g,0,none⟩),.slice (some ⟨b,0,none⟩) 1 1] (w.alloc (.cells #[.string s] 9)) fun x w' => x = .returned (.tuple #[]) ∧ Rp w' g (wantS s S) d ∧ But g w w' := by
 subst hb
 have hgl := h.lt
 refine Calls.mono (pWant_any (b := w.heap.size) (h.alloc (.cells #[.string s] 9)) [s] (by simp) (by omega) (by
  intro i hi
  match i,hi with
  | 0,_ => simp [go_sem])) ?_
 rintro x w' ⟨h1,h2,h3⟩
 exact ⟨h1,h2,h3.behind⟩
theorem wantU_st (s : ByteArray) (S : Sa) : stO (runP (wantU s) S) = wantS s S := by
 match S with
 | .inl x => rfl
 | .inr ts =>
  show stO (wantU s ts) = _
  rw [wantU,wantS]
  split <;> rfl
theorem seq_st {α β γ : Type} (f : α → β → γ) (P : List Tk → Re α) (P' : List Tk → Re β) (S : Sa) : stO (runP (seqP f P P') S) = stO (runP P' (stO (runP P S))) := by
 match S with
 | .inl x => rfl
 | .inr ts =>
  show stO (seqP f P P' ts) = stO (runP P' (stO (P ts)))
  rw [seqP]
  cases P ts with
  | inl x => rfl
  | inr x => exact stO_mapR _ _
theorem seq_inr {α β γ : Type} {f : α → β → γ} {P : List Tk → Re α} {P' : List Tk → Re β} {S : Sa} {t : γ} {r : List Tk} (h : runP (seqP f P P') S = .inr (t,r)) : ∃ a b q,runP P S = .inr (a,q) ∧ runP P' (stO (runP P S)) = .inr (b,r) ∧ t = f a b := by
 match S with
 | .inl x => cases h
 | .inr ts =>
  obtain ⟨a,q,h1,h2⟩ := thenR_inr (x := P ts) (f := fun a r => mapR (f a) (P' r)) h
  obtain ⟨b,h3,h4⟩ := mapR_inr h2
  have e : runP P (.inr ts) = .inr (a,q) := h1
  exact ⟨a,b,q,e,by rw [e]; exact h3,h4⟩
theorem br_st {α : Type} (P : List Tk → Re α) (S : Sa) : stO (runP (brP P) S) = wantS ⟨#[41]⟩ (stO (runP (listP P) (wantS ⟨#[40]⟩ S))) := by rw [brP,seq_st,wantU_st,seq_st,wantU_st]
theorem opt_true {α : Type} {s : ByteArray} {z : α} {P : List Tk → Re α} {S : Sa} (h : takeB s S = true) : runP (optP s z P) S = runP P (takeS s S) := by
 match S with
 | .inl x => cases h
 | .inr ts =>
  have h' : isTk s ts = true := h
  show optP s z P ts = runP P (if isTk s ts then .inr ts.tail else .inr ts)
  rw [optP,if_pos h',if_pos h']
  rfl
theorem opt_false {α : Type} {s : ByteArray} {z : α} {P : List Tk → Re α} {S : Sa} (h : takeB s S = false) : stO (runP (optP s z P) S) = S ∧ ∀ t r,runP (optP s z P) S = .inr (t,r) → t = z := by
 match S with
 | .inl x => exact ⟨rfl,fun t r e => by cases e⟩
 | .inr ts =>
  have h' : isTk s ts = false := h
  have e : runP (optP s z P) (.inr ts) = .inr (z,ts) := by
   show optP s z P ts = _
   rw [optP,if_neg (by rw [h']; simp)]
  rw [e]
  exact ⟨rfl,fun t r e => by cases e; rfl⟩
theorem map_run {α β : Type} (f : α → β) (P : List Tk → Re α) (S : Sa) : runP (fun r => mapR f (P r)) S = mapR f (runP P S) := by cases S <;> rfl
theorem choice_zero {w : World} {g d : Nat} {l : List (ByteArray × Int)} (h0 : ∀ c ∈ l,0 < c.2) {S : Sa} (h : oneB l S = 0) : stO (runP (choiceP l) S) = failS 5 (oneS l S) ∧ ∀ t r,runP (choiceP l) S ≠ .inr (t,r) := by
 match S with
 | .inl x => exact ⟨rfl,fun t r e => by cases e⟩
 | .inr ts =>
  have h' : oneOf l ts = 0 := h
  have e : runP (choiceP l) (.inr ts) = .inl (atOf ts,5) := by
   show choiceP l ts = _
   rw [choiceP,if_pos h']
  rw [e,oneOf_zero h0 h']
  exact ⟨rfl,fun t r e => by cases e⟩
theorem choice_some {l : List (ByteArray × Int)} (h0 : ∀ c ∈ l,0 < c.2) {S : Sa} (h : oneB l S ≠ 0) : stO (runP (choiceP l) S) = oneS l S ∧ ∀ t r,runP (choiceP l) S = .inr (t,r) → t = oneB l S := by
 match S with
 | .inl x => exact absurd rfl h
 | .inr ts =>
  have h' : oneOf l ts ≠ 0 := h
  have e : runP (choiceP l) (.inr ts) = .inr (oneOf l ts,ts.tail) := by
   show choiceP l ts = _
   rw [choiceP,if_neg h']
  rw [e,(oneOf_some h0 h').1]
  exact ⟨rfl,fun t r e => by cases e; rfl⟩
theorem RowIs.later {α : Type} {e : Ek α} (he : 0 < e.k) {Q : Nat → Prop} {w w' : World} {v : Value} {l : List α} (h : RowIs e Q w v l) (hb : Below w.heap.size w w') : RowIs e Q w' v l := h.keep he fun b _ hlt => hb.block b hlt
theorem RowIs.but {α : Type} {e : Ek α} (he : 0 < e.k) {Q : Nat → Prop} {w w' : World} {v : Value} {l : List α} {g : Nat} (h : RowIs e Q w v l) (hb : But g w w') (hg : ¬ Q g) : RowIs e Q w' v l := h.keep he fun b hq hlt => hb.block b hlt (by rintro rfl; exact hg hq)
set_option maxRecDepth 100000 in
set_option maxHeartbeats 1000000 in
theorem pBrExpr_any {g : Nat} {P : List Tk → Re Tr} {v : Value} {S : Sa} {w : World} (h : Rp w g S 0) (hv : PartV g (TeE g 0) P v) (hP : Shr P) :
  Calls Tryz.prog 104 #[.pointer (some ⟨g,0,none⟩),v] w (TeL eExpr g w (runP (brP P) S)) := by
 have hgl := h.lt
 have H1 : Hid _ := hid (pWant1 h ⟨#[40]⟩)
 have HL : Hid (∀ (S : Sa) (w' : World),Rp w' g S 0 → _) := hid fun S w' hr => pListExpr_any hr hv hP
 have E1 : Hid _ := hid (br_st P S)
 have E2 : Hid (∀ l r,runP (brP P) S = .inr (l,r) → ∃ r',runP (listP P) (wantS ⟨#[40]⟩ S) = .inr (l,r')) := hid fun l r e => by
  obtain ⟨a,b,q,_,h2,rfl⟩ := seq_inr e
  obtain ⟨a',b',q',h3,_,rfl⟩ := seq_inr h2
  rw [wantU_st] at h3
  exact ⟨q',h3⟩
 generalize runP (brP P) S = R at *
 obtain ⟨N,rfl,-⟩ := hv
 clear h
 go_enter Tryz.func104,Tryz.ntmps104
 go_wp2_with fail
 refine Calls.mono H1.out ?_
 rintro e w1 ⟨rfl,hr1,hb1⟩
 have H2 : Hid _ := hid (HL.out _ _ hr1)
 have hsz1 := hb1.size
 clear H1 HL hr1
 go_wp2_with fail
 refine Calls.mono H2.out ?_
 rintro e w2 ⟨ao,n,c,rfl,hb2,hr2,hx2⟩
 have H3 : Hid _ := hid (pWant1 hr2 ⟨#[41]⟩)
 have hB2 := hb1.trans hb2
 clear H2 hb1 hb2 hr2
 go_wp2_with fail
 refine Calls.mono H3.out ?_
 rintro e w3 ⟨rfl,hr3,hb3⟩
 have hB3 := hB2.trans hb3
 have HX : Hid (∀ l r,R = .inr (l,r) → RowIs eExpr (fun b => w.heap.size ≤ b) w3 (.slice ao n c) l) := hid fun l r e => by
  obtain ⟨r',e'⟩ := E2.out l r e
  exact ((hx2 l r' e').but (by decide) hb3 (by omega)).mono (by decide) fun b hb _ => by omega
 clear H3 hb3 hB2 hx2
 go_wp2
 go_ret
 exact ⟨ao,n,c,rfl,hB3,by rw [E1.out]; exact hr3,HX.out⟩
set_option maxRecDepth 100000 in
set_option maxHeartbeats 1000000 in
theorem pBrCol_any {g : Nat} {P : List Tk → Re Co} {v : Value} {S : Sa} {w : World} (h : Rp w g S 0) (hv : PartV g (TeCol g) P v) (hP : Shr P) :
  Calls Tryz.prog 97 #[.pointer (some ⟨g,0,none⟩),v] w (TeL eCol g w (runP (brP P) S)) := by
 have hgl := h.lt
 have H1 : Hid _ := hid (pWant1 h ⟨#[40]⟩)
 have HL : Hid (∀ (S : Sa) (w' : World),Rp w' g S 0 → _) := hid fun S w' hr => pListCol_any hr hv hP
 have E1 : Hid _ := hid (br_st P S)
 have E2 : Hid (∀ l r,runP (brP P) S = .inr (l,r) → ∃ r',runP (listP P) (wantS ⟨#[40]⟩ S) = .inr (l,r')) := hid fun l r e => by
  obtain ⟨a,b,q,_,h2,rfl⟩ := seq_inr e
  obtain ⟨a',b',q',h3,_,rfl⟩ := seq_inr h2
  rw [wantU_st] at h3
  exact ⟨q',h3⟩
 generalize runP (brP P) S = R at *
 obtain ⟨N,rfl,-⟩ := hv
 clear h
 go_enter Tryz.func97,Tryz.ntmps97
 go_wp2_with fail
 refine Calls.mono H1.out ?_
 rintro e w1 ⟨rfl,hr1,hb1⟩
 have H2 : Hid _ := hid (HL.out _ _ hr1)
 have hsz1 := hb1.size
 clear H1 HL hr1
 go_wp2_with fail
 refine Calls.mono H2.out ?_
 rintro e w2 ⟨ao,n,c,rfl,hb2,hr2,hx2⟩
 have H3 : Hid _ := hid (pWant1 hr2 ⟨#[41]⟩)
 have hB2 := hb1.trans hb2
 clear H2 hb1 hb2 hr2
 go_wp2_with fail
 refine Calls.mono H3.out ?_
 rintro e w3 ⟨rfl,hr3,hb3⟩
 have hB3 := hB2.trans hb3
 have HX : Hid (∀ l r,R = .inr (l,r) → RowIs eCol (fun b => w.heap.size ≤ b) w3 (.slice ao n c) l) := hid fun l r e => by
  obtain ⟨r',e'⟩ := E2.out l r e
  exact ((hx2 l r' e').but (by decide) hb3 (by omega)).mono (by decide) fun b hb _ => by omega
 clear H3 hb3 hB2 hx2
 go_wp2
 go_ret
 exact ⟨ao,n,c,rfl,hB3,by rw [E1.out]; exact hr3,HX.out⟩
theorem row_one (w : World) (t : Tr) (o : Int) (p : Pay) (a : Option Addr) (m c : Nat) (Q : Nat → Prop) (hq : Q w.heap.size) (h : Ex Q w t (exV o p (.slice a m c))) :
  RowIs eExpr Q (w.alloc (.cells #[.int .i64 o,.int .i64 p.1,.int .i64 p.2.1,.string p.2.2.1,.string p.2.2.2.1,.string p.2.2.2.2,.slice a m c] 60)) (.slice (some ⟨w.heap.size,0,none⟩) 1 1) [t] := by
 refine ⟨_,1,1,rfl,rfl,Nat.le_refl _,by omega,fun _ => ⟨w.heap.size,0,rfl,hq,fun i hi => ?_⟩⟩
 obtain rfl : i = 0 := by simp at hi; omega
 refine ⟨exC o p (.slice a m c),⟨o,p,a,m,c,rfl,h.later (bal (Below.refl _ w) _)⟩,rfl,fun j hj => ?_⟩
 have hj' : j < 7 := hj
 match j,hj' with
 | 0,_ => exact cell_new w _ _ _ 0
 | 1,_ => exact cell_new w _ _ _ 1
 | 2,_ => exact cell_new w _ _ _ 2
 | 3,_ => exact cell_new w _ _ _ 3
 | 4,_ => exact cell_new w _ _ _ 4
 | 5,_ => exact cell_new w _ _ _ 5
 | 6,_ => exact cell_new w _ _ _ 6
set_option maxRecDepth 100000 in
set_option maxHeartbeats 1000000 in
theorem pBehind_any {g : Nat} {P : List Tk → Re Tr} {v : Value} {S : Sa} {w : World} (s : ByteArray) (h : Rp w g S 0) (hv : PartV g (TeE g 0) P v) :
  Calls Tryz.prog 79 #[.pointer (some ⟨g,0,none⟩),.string s,v] w (TeL eExpr g w (runP (optP s [] fun r => mapR (fun x => [x]) (P r)) S)) := by
 have hgl := h.lt
 have HT := pTake_any h s
 obtain ⟨N,rfl,hN,hc⟩ := hv
 cases hb : takeB s S with
 | false =>
  obtain ⟨e1,e2⟩ := opt_false (z := ([] : List Tr)) (P := fun r => mapR (fun x => [x]) (P r)) hb
  rw [hb,takeB_false hb] at HT
  replace HT : Hid _ := hid HT
  have E1 : Hid _ := hid e1
  have E2 : Hid _ := hid e2
  generalize runP (optP s [] fun r => mapR (fun x => [x]) (P r)) S = R at *
  clear hc e1 e2 hb h
  go_enter Tryz.func79,Tryz.ntmps79
  go_wp2_with fail
  refine Calls.mono HT.out ?_
  rintro e w1 ⟨rfl,hr1,hb1⟩
  clear HT
  go_wp2
  go_ret
  exact ⟨none,0,0,rfl,hb1,by rw [E1.out]; exact hr1,fun l r e => by rw [E2.out l r e]; exact RowIs.nil _ _ _⟩
 | true =>
  have e1 := opt_true (z := ([] : List Tr)) (P := fun r => mapR (fun x => [x]) (P r)) hb
  rw [map_run] at e1
  rw [hb] at HT
  replace HT : Hid _ := hid HT
  have E1 : Hid _ := hid e1
  generalize runP (optP s [] fun r => mapR (fun x => [x]) (P r)) S = R at *
  clear e1 hb h
  go_enter Tryz.func79,Tryz.ntmps79
  go_wp2_with fail
  refine Calls.mono HT.out ?_
  rintro e w1 ⟨rfl,hr1,hb1⟩
  have HC : Hid _ := hid (hc _ _ hr1)
  have hsz := hb1.size
  clear HT hc hr1
  go_wp2_with fail
  refine Calls.mono HC.out ?_
  rintro e w2 ⟨o1,p1,a1,l1,c1,rfl,hb2,hr2,hx2⟩
  have hB2 := hb1.trans hb2
  have hsz2 := hb2.size
  clear HC hb1 hb2
  unfold exV
  go_wp2
  go_ret
  refine ⟨_,1,1,rfl,hB2.alloc _,by rw [E1.out,stO_mapR]; exact hr2.alloc _,fun l r e => ?_⟩
  rw [E1.out] at e
  obtain ⟨u,e2,rfl⟩ := mapR_inr e
  exact row_one w2 u o1 p1 a1 l1 c1 _ (by omega) ((hx2 u r e2).mono fun b hb _ => by omega)
end Go.Proofs.YtfopfhlohihihaaGreat
