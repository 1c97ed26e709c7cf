import Derived.Test.YtfopfhlohihihaaGreatSaf
namespace Go.Proofs.YtfopfhlohihihaaGreat
open Go.RowKit
set_option linter.unusedVariables false
set_option linter.unusedSimpArgs false
def Sw (w : World) (b : Nat) (ls : List ByteArray) : Prop := ∀ i (h : i < ls.length),w.cell? ⟨b,i,none⟩ = some (.string ls[i])
def wantsS (ls : List ByteArray) (S : Sa) : Sa := ls.foldl (fun S s => wantS s S) S
theorem wantS_true {s : ByteArray} {S : Sa} (h : takeB s S = true) : wantS s S = takeS s S := by
 match S with
 | .inl x => rfl
 | .inr ts => have h' : isTk s ts = true := h; simp [wantS,takeS,h']
theorem wantS_false {s : ByteArray} {S : Sa} (h : takeB s S = false) : wantS s S = failS 5 S := by
 match S with
 | .inl x => rfl
 | .inr ts => have h' : isTk s ts = false := h; simp [wantS,failS,h']
set_option maxRecDepth 100000 in
set_option maxHeartbeats 1000000 in
theorem pWant_any {g b : Nat} {S : Sa} {d : Nat} {w : World} (h : Rp w g S d) (ls : List ByteArray) (hl : ls.length ≤ 10) (hg : g ≠ b) (hs : Sw w b ls) :
  Calls Tryz.prog 75 #[.pointer (some ⟨g,0,none⟩),.slice (some ⟨b,0,none⟩) ls.length ls.length] w fun x w' => x = .returned (.tuple #[]) ∧ Rp w' g (wantsS ls S) d ∧ But g w w' := by
 generalize hn : ls.length = n at *
 have HS : Hid _ := hid hs
 have HL : Hid _ := hid hn
 clear hn hs
 go_enter Tryz.func75,Tryz.ntmps75
 go_wp2
 go_loopw [8] (fun i wr => ∃ k : Nat,k ≤ n ∧ i = .int .i64 k ∧ Rp wr g (wantsS (ls.take k) S) d ∧ But g w wr) (fun i _ => n - (intOf i).toNat)
 case atStart => exact ⟨0,Nat.zero_le _,rfl,h,But.refl _ _⟩
 case round =>
  obtain ⟨k,hk,rfl,hr,hb⟩ := hrel
  by_cases hlt : k < n
  ·have c0 := hb.cell (HS.out k (by rw [HL.out]; exact hlt)) (Ne.symm hg)
   have HN : Hid (wantsS (ls.take (k + 1)) S = wantS (ls[k]'(by rw [HL.out]; exact hlt)) (wantsS (ls.take k) S)) := hid (by
    rw [wantsS,wantsS,List.take_succ_eq_append_getElem (by rw [HL.out]; exact hlt),List.foldl_append]; rfl)
   generalize ls[k]'(by rw [HL.out]; exact hlt) = s at *
   have HT : Hid _ := hid (pTake_any hr s)
   cases hB : takeB s (wantsS (ls.take k) S) with
   | true =>
    rw [hB,← wantS_true hB,← HN.out] at HT
    clear hr HN hB
    go_wp2_with fail
    refine Calls.mono HT.out ?_
    rintro e w1 ⟨rfl,hr1,hb1⟩
    have hb2 := hb.trans hb1
    clear HT hb hb1 c0
    go_wp2
    go_roundw
    case rel => exact ⟨k + 1,by omega,by go_num,hr1,hb2⟩
    case measure => simp only [intOf]; omega
   | false =>
    rw [hB,takeB_false hB] at HT
    rw [wantS_false hB] at HN
    clear hr hB
    go_wp2_with fail
    refine Calls.mono HT.out ?_
    rintro e w1 ⟨rfl,hr1,hb1⟩
    have hb2 := hb.trans hb1
    have HF : Hid _ := hid (pFail_any hr1 5 (by decide))
    rw [← HN.out] at HF
    clear HT hb hb1 c0 hr1 HN
    go_wp2_with fail
    refine Calls.mono HF.out ?_
    rintro e w2 ⟨rfl,hr3,hb3⟩
    have hb4 := hb2.trans hb3
    clear HF hb2 hb3
    go_wp2
    go_roundw
    case rel => exact ⟨k + 1,by omega,by go_num,hr3,hb4⟩
    case measure => simp only [intOf]; omega
  ·obtain rfl : k = n := by omega
   go_wp2
   refine bodyPost_end (results_none rfl _ _ _) rfl ⟨rfl,?_,hb⟩
   rw [List.take_of_length_le (by rw [HL.out]; exact Nat.le_refl _)] at hr
   exact hr
def Cw (w : World) (b : Nat) (l : List (ByteArray × Int)) : Prop := ∀ i (h : i < l.length),w.cell? ⟨b,i * 2,none⟩ = some (.string l[i].1) ∧ w.cell? ⟨b,i * 2 + 1,none⟩ = some (.int .i64 l[i].2)
theorem Cw.but {g b : Nat} {w w' : World} {l : List (ByteArray × Int)} (h : Cw w b l) (hb : But g w w') (hg : b ≠ g) : Cw w' b l := fun i hi => ⟨hb.cell (h i hi).1 hg,hb.cell (h i hi).2 hg⟩
def NoneOf (l : List (ByteArray × Int)) (S : Sa) : Prop := ∀ c ∈ l,takeB c.1 S = false
theorem oneB_at {l : List (ByteArray × Int)} {S : Sa} {k : Nat} (hk : k < l.length) (hN : NoneOf (l.take k) S) (h : takeB l[k].1 S = true) : oneB l S = l[k].2 ∧ oneS l S = takeS l[k].1 S := by
 match S with
 | .inl x => simp [takeB] at h
 | .inr ts =>
  have h' : isTk l[k].1 ts = true := h
  have hN' : ∀ c ∈ l.take k,isTk c.1 ts = false := hN
  clear hN h
  refine ⟨?_,?_⟩
  ·induction l generalizing k with
   | nil => simp at hk
   | cons c l ih =>
    cases k with
    | zero => simp only [List.getElem_cons_zero] at h'; simp [oneB,oneOf,h']
    | succ k =>
     have hc := hN' c (by simp)
     simp only [List.getElem_cons_succ] at h' ⊢
     have := ih (k := k) (by simpa using hk) h' (fun x hx => hN' x (by simp [hx]))
     simp only [oneB,oneOf,hc] at this ⊢
     simpa using this
  ·have : (l.any fun c => isTk c.1 ts) = true := List.any_eq_true.2 ⟨l[k],List.getElem_mem hk,h'⟩
   simp only [oneS,takeS,this,h',if_true]
theorem oneB_none {l : List (ByteArray × Int)} {S : Sa} (hN : NoneOf l S) : oneB l S = 0 ∧ oneS l S = S := by
 match S with
 | .inl x => exact ⟨rfl,rfl⟩
 | .inr ts =>
  have hN' : ∀ c ∈ l,isTk c.1 ts = false := hN
  refine ⟨?_,?_⟩
  ·clear hN
   induction l with
   | nil => rfl
   | cons c l ih =>
    have hc := hN' c (by simp)
    have := ih (fun x hx => hN' x (by simp [hx]))
    simp only [oneB,oneOf,hc] at this ⊢
    simpa using this
  ·have : (l.any fun c => isTk c.1 ts) = false := by
    rw [List.any_eq_false]
    intro c hc
    rw [hN' c hc]; simp
   simp only [oneS,this,Bool.false_eq_true,if_false]
theorem NoneOf.step {l : List (ByteArray × Int)} {S : Sa} {k : Nat} (hk : k < l.length) (hN : NoneOf (l.take k) S) (h : takeB l[k].1 S = false) : NoneOf (l.take (k + 1)) S := by
 intro c hc
 rw [List.take_succ_eq_append_getElem hk,List.mem_append,List.mem_singleton] at hc
 rcases hc with hc | rfl
 ·exact hN c hc
 ·exact h
set_option maxRecDepth 100000 in
set_option maxHeartbeats 1000000 in
theorem pOneOf_any {g b : Nat} {S : Sa} {d : Nat} {w : World} (h : Rp w g S d) (l : List (ByteArray × Int)) (hl : l.length ≤ 10) (hg : g ≠ b) (hs : Cw w b l) :
  Calls Tryz.prog 99 #[.pointer (some ⟨g,0,none⟩),.slice (some ⟨b,0,none⟩) l.length l.length] w fun x w' => x = .returned (.int .i64 (oneB l S)) ∧ Rp w' g (oneS l S) d ∧ But g w w' := by
 generalize hn : l.length = n at *
 have HS : Hid _ := hid hs
 have HL : Hid _ := hid hn
 clear hn hs
 go_enter Tryz.func99,Tryz.ntmps99
 go_wp2
 go_loopw [9] (fun i wr => ∃ k : Nat,k ≤ n ∧ i = .int .i64 k ∧ Rp wr g S d ∧ But g w wr ∧ Hid (NoneOf (l.take k) S)) (fun i _ => n - (intOf i).toNat)
 case atStart => exact ⟨0,Nat.zero_le _,rfl,h,But.refl _ _,hid (fun c hc => by simp at hc)⟩
 case round =>
  obtain ⟨k,hk,rfl,hr,hb,HN⟩ := hrel
  by_cases hlt : k < n
  ·have hlt' : k < l.length := by rw [HL.out]; exact hlt
   obtain ⟨c0,c1⟩ := HS.out k hlt'
   replace c0 := hb.cell c0 (Ne.symm hg)
   replace c1 := hb.cell c1 (Ne.symm hg)
   have HA : Hid (takeB l[k].1 S = true → oneB l S = l[k].2 ∧ oneS l S = takeS l[k].1 S) := hid (oneB_at hlt' HN.out)
   have HM : Hid (takeB l[k].1 S = false → NoneOf (l.take (k + 1)) S) := hid (HN.out.step hlt')
   generalize l[k] = p at *
   obtain ⟨s,z⟩ := p
   clear hlt' HN
   have HT : Hid (Calls Tryz.prog 44 #[.pointer (some ⟨g,0,none⟩),.string s] (wr.alloc (.cells #[.string s,.int .i64 z] 128)) fun x w' => x = .returned (.bool (takeB s S)) ∧ Rp w' g (takeS s S) d ∧ But g (wr.alloc (.cells #[.string s,.int .i64 z] 128)) w') := hid (pTake_any (hr.alloc _) s)
   have cz : (wr.alloc (.cells #[.string s,.int .i64 z] 128)).cell? ⟨wr.heap.size,1,none⟩ = some (.int .i64 z) := cell_new wr _ _ _ 1
   have hgw := hr.lt
   cases hB : takeB s S with
   | true =>
    obtain ⟨e1,e2⟩ := HA.out hB
    rw [hB,← e2] at HT
    have E1 : Hid _ := hid e1
    clear HA HM hB e1 e2 hr
    go_wp2_with fail
    refine Calls.mono HT.out ?_
    rintro e w1 ⟨rfl,hr1,hb1⟩
    have c2 := hb1.cell cz (by simp; omega)
    have hb2 := hb.trans hb1.behind
    clear HT hb hb1 c0 c1 cz
    go_wp2
    go_ret
    exact ⟨by rw [E1.out]; rfl,hr1,hb2⟩
   | false =>
    have HX : Hid _ := hid (HM.out hB)
    rw [hB,takeB_false hB] at HT
    clear HA HM hB hr
    go_wp2_with fail
    refine Calls.mono HT.out ?_
    rintro e w1 ⟨rfl,hr1,hb1⟩
    have hb2 := hb.trans hb1.behind
    clear HT hb hb1 c0 c1 cz
    go_wp2
    go_roundw
    case rel => exact ⟨k + 1,by omega,by go_num,hr1,hb2,HX⟩
    case measure => simp only [intOf]; omega
  ·obtain rfl : k = n := by omega
   have HX := HN.out
   rw [List.take_of_length_le (by rw [HL.out]; exact Nat.le_refl _)] at HX
   obtain ⟨e1,e2⟩ := oneB_none HX
   have E1 : Hid _ := hid e1
   rw [← e2] at hr
   clear HX HN e1 e2
   go_wp2
   go_ret
   exact ⟨by rw [E1.out]; rfl,hr,hb⟩
theorem kind_nx {k : Int} {S : Sa} (hk : k ≠ 0) : (nxT S).1 = k → ∃ ts,S = .inr (nxT S :: ts) ∧ runP (kindP k) S = .inr (nxT S,ts) := by
 intro h
 match S with
 | .inl x => exact absurd h.symm hk
 | .inr [] => exact absurd h.symm hk
 | .inr (t :: ts) =>
  have h' : t.1 = k := h
  exact ⟨ts,rfl,by show kindP k (t :: ts) = _; rw [kindP,if_pos h']; rfl⟩
theorem kind_not {w : World} {g d : Nat} {k : Int} {S : Sa} (hr : Rp w g S d) : (nxT S).1 ≠ k → runP (kindP k) S = (match failS 5 S with | .inl x => .inl x | .inr _ => .inl (0,0)) ∧ stO (runP (kindP k) S) = failS 5 S := by
 intro h
 match S with
 | .inl x => exact ⟨rfl,rfl⟩
 | .inr [] => obtain ⟨b,o,n,c,hq,hw⟩ := hr.ok; exact hw.ended.elim
 | .inr (t :: ts) =>
  have h' : t.1 ≠ k := h
  have e : kindP k (t :: ts) = .inl (t.2.2.2,5) := by rw [kindP,if_neg h']
  exact ⟨e,by show stO (kindP k (t :: ts)) = _; rw [e]; rfl⟩
set_option maxRecDepth 100000 in
set_option maxHeartbeats 1000000 in
theorem pKind_any {g : Nat} {S : Sa} {d : Nat} {w : World} (h : Rp w g S d) (k : Int) (hk : k ≠ 0) (h6 : k ≠ 6) :
  Calls Tryz.prog 82 #[.pointer (some ⟨g,0,none⟩),.int .i64 k] w fun e w' => ∃ t : Tk,e = .returned (tkA t) ∧ But g w w' ∧ Rp w' g (stO (runP (kindP k) S)) d ∧ ∀ u r,runP (kindP k) S = .inr (u,r) → t = u := by
 have hgl := h.lt
 have h0 := h.alloc (.cells #[.int .i64 0,.string ⟨#[]⟩,.int .i64 0,.int .i64 0] 44)
 have z0 := Zr.new w
 have H := pNext_any h0
 by_cases hn : (nxT S).1 = k
 ·obtain ⟨ts,hS,hR⟩ := kind_nx hk hn
  rw [hR]
  unfold tkA at H ⊢
  generalize nxT S = t at *
  obtain ⟨t0,t1,t2,t3⟩ := t
  replace hn : t0 = k := hn
  subst hn
  replace H : Hid _ := hid H
  clear hR
  subst hS
  go_enter Tryz.func82,Tryz.ntmps82
  go_wp2_with fail
  refine Calls.mono H.out ?_
  rintro e w1 ⟨rfl,hb1⟩
  have hb : But g w w1 := (But.of hb1).behind
  have hr1 := (h0.later hb1).alloc (.cells #[.int .i64 t0,.string t1,.int .i64 t2,.int .i64 t3] 44)
  have z1 := (z0.later hb1).later ((Below.refl _ _).alloc (Nat.le_refl _) (.cells #[.int .i64 t0,.string t1,.int .i64 t2,.int .i64 t3] 44))
  have HK : Hid _ := hid (pSkip_any hr1 (by exact h6))
  have k0 := Ct.new w1 (t0,t1,t2,t3) 44
  have hsz : w.heap.size < w1.heap.size := by have := hb1.size; simp at this; omega
  clear H hb1 z0 h0 hr1
  go_wp2_with fail
  refine Calls.mono HK.out ?_
  rintro e w2 ⟨rfl,hr2,hb2⟩
  have hq : But g w w2 := hb.trans hb2.behind
  have z2 := z1.but hb2 (by omega)
  have q0 := hb2.cell k0.1 (by simp; omega)
  have q1 := hb2.cell k0.2.1 (by simp; omega)
  have q2 := hb2.cell k0.2.2.1 (by simp; omega)
  have q3 := hb2.cell k0.2.2.2 (by simp; omega)
  obtain ⟨c0,c1,c2,c3⟩ := z2.cells
  obtain ⟨f0,f1,f2,f3⟩ := z2.free
  clear HK hb hb2 k0 z1 z2
  go_wp2
  refine bodyPost_ret (v := tkA (t0,t1,t2,t3)) (by simp [results,Tryz.results82,go_sem,c0,c1,c2,c3,tkA]) rfl ⟨(t0,t1,t2,t3),rfl,hq.new4 (Nat.le_refl _) _ _ _ _,?_,fun u r e => by cases e; rfl⟩
  exact (((hr2.other (by omega) 0 _).other (by omega) 1 _).other (by omega) 2 _).other (by omega) 3 _
 ·obtain ⟨hR,hR2⟩ := kind_not h hn
  have HU : Hid (∀ u r,runP (kindP k) S = .inr (u,r) → (0,⟨#[]⟩,0,0) = u) := hid fun u r e => by
   rw [hR] at e
   revert e
   split <;> intro e <;> cases e
  rw [hR2]
  clear hR hR2
  unfold tkA at H ⊢
  generalize nxT S = t at *
  obtain ⟨t0,t1,t2,t3⟩ := t
  have g1 : (t0 != k) = true := by simpa using hn
  replace H : Hid _ := hid H
  clear hn
  go_enter Tryz.func82,Tryz.ntmps82
  go_wp2_with fail
  refine Calls.mono H.out ?_
  rintro e w1 ⟨rfl,hb1⟩
  have hb : But g w w1 := (But.of hb1).behind
  have hr1 := (h0.later hb1).alloc (.cells #[.int .i64 t0,.string t1,.int .i64 t2,.int .i64 t3] 44)
  have z1 := (z0.later hb1).later ((Below.refl _ _).alloc (Nat.le_refl _) (.cells #[.int .i64 t0,.string t1,.int .i64 t2,.int .i64 t3] 44))
  have HK : Hid _ := hid (pFail_any hr1 5 (by decide))
  have hsz : w.heap.size < w1.heap.size := by have := hb1.size; simp at this; omega
  clear H hb1 z0 h0 hr1
  go_wp2_with fail
  refine Calls.mono HK.out ?_
  rintro e w2 ⟨rfl,hr2,hb2⟩
  have hq : But g w w2 := hb.trans hb2.behind
  have z2 := z1.but hb2 (by omega)
  obtain ⟨c0,c1,c2,c3⟩ := z2.cells
  obtain ⟨f0,f1,f2,f3⟩ := z2.free
  clear HK hb hb2 z1 z2
  go_wp2
  refine bodyPost_ret (v := tkA (0,⟨#[]⟩,0,0)) (by simp [results,Tryz.results82,go_sem,c0,c1,c2,c3,tkA]) rfl ⟨(0,⟨#[]⟩,0,0),rfl,hq.new4 (Nat.le_refl _) _ _ _ _,?_,HU.out⟩
  exact (((hr2.other (by omega) 0 _).other (by omega) 1 _).other (by omega) 2 _).other (by omega) 3 _
theorem fld_kind (a b c d : Value) (w : World) : (Instr.field 44 (.agg #[a,b,c,d]) 0).run Tryz.prog w = .ok a w := by kernel_rfl
theorem fld_text (a b c d : Value) (w : World) : (Instr.field 44 (.agg #[a,b,c,d]) 1).run Tryz.prog w = .ok b w := by kernel_rfl
theorem fld_int (a b c d : Value) (w : World) : (Instr.field 44 (.agg #[a,b,c,d]) 2).run Tryz.prog w = .ok c w := by kernel_rfl
theorem nameP_run (S : Sa) : runP nameP S = thenR (runP (kindP 1) S) fun t r => .inr (t.2.1,r) := by cases S <;> rfl
set_option maxRecDepth 100000 in
set_option maxHeartbeats 1000000 in
theorem pName_any {g : Nat} {S : Sa} {d : Nat} {w : World} (h : Rp w g S d) :
  Calls Tryz.prog 50 #[.pointer (some ⟨g,0,none⟩)] w fun e w' => ∃ s : ByteArray,e = .returned (.string s) ∧ But g w w' ∧ Rp w' g (stO (runP nameP S)) d ∧ ∀ u r,runP nameP S = .inr (u,r) → s = u := by
 have H : Hid _ := hid (pKind_any h 1 (by decide) (by decide))
 rw [nameP_run]
 generalize runP (kindP 1) S = R at *
 clear h
 go_enter Tryz.func50,Tryz.ntmps50
 go_wp2_with fail
 refine Calls.mono H.out ?_
 rintro e w1 ⟨t,rfl,hb,hr,hu⟩
 unfold tkA
 have hf := fld_text
 clear H
 go_wp2
 go_ret
 refine ⟨t.2.1,rfl,hb,?_,?_⟩
 ·cases R with
  | inl x => exact hr
  | inr x => exact hr
 ·cases R with
  | inl x => intro u r e; cases e
  | inr x => intro u r e; cases e; rw [hu x.1 x.2 rfl]
theorem endS_nx {w : World} {g d : Nat} {S : Sa} (hr : Rp w g S d) : endS S = if (nxT S).1 = 6 then S else failS 5 S := by
 match S with
 | .inl x => rfl
 | .inr [] => obtain ⟨b,o,n,c,hq,hw⟩ := hr.ok; exact hw.ended.elim
 | .inr (t :: ts) => rfl
set_option maxRecDepth 100000 in
set_option maxHeartbeats 1000000 in
theorem pEnd_any {g : Nat} {S : Sa} {d : Nat} {w : World} (h : Rp w g S d) :
  Calls Tryz.prog 32 #[.pointer (some ⟨g,0,none⟩)] w fun e w' => e = .returned (.tuple #[]) ∧ But g w w' ∧ Rp w' g (endS S) d := by
 have H := pNext_any h
 rw [endS_nx h]
 unfold tkA at H
 generalize nxT S = t at *
 obtain ⟨t0,t1,t2,t3⟩ := t
 replace H : Hid _ := hid H
 have hf := fld_kind
 by_cases h6 : t0 = 6
 ·subst h6
  rw [if_pos rfl]
  go_enter Tryz.func32,Tryz.ntmps32
  go_wp2_with fail
  refine Calls.mono H.out ?_
  rintro e w1 ⟨rfl,hb1⟩
  clear H
  go_wp2
  refine bodyPost_end (results_none rfl _ _ _) rfl ⟨rfl,But.of hb1,h.later hb1⟩
 ·rw [if_neg h6]
  have g6 : (t0 != 6) = true := by simpa using h6
  clear h6
  go_enter Tryz.func32,Tryz.ntmps32
  go_wp2_with fail
  refine Calls.mono H.out ?_
  rintro e w1 ⟨rfl,hb1⟩
  have HK : Hid _ := hid (pFail_any (h.later hb1) 5 (by decide))
  clear H
  go_wp2_with fail
  refine Calls.mono HK.out ?_
  rintro e w2 ⟨rfl,hr2,hb2⟩
  have hb := (But.of hb1).trans hb2
  clear HK hb1 hb2
  go_wp2
  refine bodyPost_end (results_none rfl _ _ _) rfl ⟨rfl,hb,hr2⟩
def exV (o : Int) (p : Pay) (sl : Value) : Value := .agg #[.int .i64 o,.int .i64 p.1,.int .i64 p.2.1,.string p.2.2.1,.string p.2.2.2.1,.string p.2.2.2.2,sl]
def Ce (w : World) (b o : Nat) (op : Int) (p : Pay) (sl : Value) : Prop :=
 w.cell? ⟨b,o,none⟩ = some (.int .i64 op) ∧ w.cell? ⟨b,o + 1,none⟩ = some (.int .i64 p.1) ∧ w.cell? ⟨b,o + 2,none⟩ = some (.int .i64 p.2.1) ∧ w.cell? ⟨b,o + 3,none⟩ = some (.string p.2.2.1) ∧ w.cell? ⟨b,o + 4,none⟩ = some (.string p.2.2.2.1) ∧ w.cell? ⟨b,o + 5,none⟩ = some (.string p.2.2.2.2) ∧ w.cell? ⟨b,o + 6,none⟩ = some sl
theorem Ce.keep {w w' : World} {b o : Nat} {op : Int} {p : Pay} {sl : Value} (h : Ce w b o op p sl) (hk : w'.heap[b]? = w.heap[b]?) : Ce w' b o op p sl := by
 obtain ⟨h0,h1,h2,h3,h4,h5,h6⟩ := h
 exact ⟨(World.cell?_of_block (a := ⟨b,_,none⟩) hk).trans h0,(World.cell?_of_block (a := ⟨b,_,none⟩) hk).trans h1,(World.cell?_of_block (a := ⟨b,_,none⟩) hk).trans h2,(World.cell?_of_block (a := ⟨b,_,none⟩) hk).trans h3,(World.cell?_of_block (a := ⟨b,_,none⟩) hk).trans h4,(World.cell?_of_block (a := ⟨b,_,none⟩) hk).trans h5,(World.cell?_of_block (a := ⟨b,_,none⟩) hk).trans h6⟩
theorem Ce.lt {w : World} {b o : Nat} {op : Int} {p : Pay} {sl : Value} (h : Ce w b o op p sl) : b < w.heap.size := World.block_lt_of_cell? _ _ h.1
def noT : Tr → Bool
 | .nil => true
 | .node _ _ _ _ _ => false
def Ex (Q : Nat → Prop) (w : World) : Tr → Value → Prop
 | .nil,_ => False
 | .node _ op p l r,v => ∃ ao n c,v = exV op p (.slice ao n c) ∧ n ≤ c ∧ c ≤ 1000 ∧
   ((noT l = true ∧ noT r = true ∧ n = 0) ∨
   (noT l = false ∧ noT r = true ∧ n = 1 ∧ ∃ b o op1 p1 a1 n1 c1,ao = some ⟨b,o,none⟩ ∧ Q b ∧ Ce w b o op1 p1 (.slice a1 n1 c1) ∧ Ex Q w l (exV op1 p1 (.slice a1 n1 c1))) ∨
   (noT l = false ∧ noT r = false ∧ n = 2 ∧ ∃ b o op1 p1 a1 n1 c1 op2 p2 a2 n2 c2,ao = some ⟨b,o,none⟩ ∧ Q b ∧ Ce w b o op1 p1 (.slice a1 n1 c1) ∧ Ce w b (o + 7) op2 p2 (.slice a2 n2 c2) ∧ Ex Q w l (exV op1 p1 (.slice a1 n1 c1)) ∧ Ex Q w r (exV op2 p2 (.slice a2 n2 c2))))
theorem Ex.not_nil {Q : Nat → Prop} {w : World} {t : Tr} {v : Value} (h : Ex Q w t v) : noT t = false := by
 cases t with
 | nil => exact h.elim
 | node => rfl
theorem Ex.keep {Q : Nat → Prop} {w w' : World} (hk : ∀ k,Q k → k < w.heap.size → w'.heap[k]? = w.heap[k]?) : ∀ {t : Tr} {v : Value},Ex Q w t v → Ex Q w' t v := by
 intro t
 induction t with
 | nil => intro v h; exact h.elim
 | node x op p l r ihl ihr =>
  rintro v ⟨ao,n,c,hv,hn,hc,h⟩
  refine ⟨ao,n,c,hv,hn,hc,?_⟩
  rcases h with h | ⟨h1,h2,h3,b,o,op1,p1,a1,n1,c1,ha,hq,hx,hl⟩ | ⟨h1,h2,h3,b,o,op1,p1,a1,n1,c1,op2,p2,a2,n2,c2,ha,hq,hx,hy,hl,hr⟩
  ·exact .inl h
  ·exact .inr (.inl ⟨h1,h2,h3,b,o,op1,p1,a1,n1,c1,ha,hq,hx.keep (hk b hq hx.lt),ihl hl⟩)
  ·exact .inr (.inr ⟨h1,h2,h3,b,o,op1,p1,a1,n1,c1,op2,p2,a2,n2,c2,ha,hq,hx.keep (hk b hq hx.lt),hy.keep (hk b hq hx.lt),ihl hl,ihr hr⟩)
theorem Ex.mono {Q Q' : Nat → Prop} {w : World} (hk : ∀ k,Q k → k < w.heap.size → Q' k) : ∀ {t : Tr} {v : Value},Ex Q w t v → Ex Q' w t v := by
 intro t
 induction t with
 | nil => intro v h; exact h.elim
 | node x op p l r ihl ihr =>
  rintro v ⟨ao,n,c,hv,hn,hc,h⟩
  refine ⟨ao,n,c,hv,hn,hc,?_⟩
  rcases h with h | ⟨h1,h2,h3,b,o,op1,p1,a1,n1,c1,ha,hq,hx,hl⟩ | ⟨h1,h2,h3,b,o,op1,p1,a1,n1,c1,op2,p2,a2,n2,c2,ha,hq,hx,hy,hl,hr⟩
  ·exact .inl h
  ·exact .inr (.inl ⟨h1,h2,h3,b,o,op1,p1,a1,n1,c1,ha,hk b hq hx.lt,hx,ihl hl⟩)
  ·exact .inr (.inr ⟨h1,h2,h3,b,o,op1,p1,a1,n1,c1,op2,p2,a2,n2,c2,ha,hk b hq hx.lt,hx,hy,ihl hl,ihr hr⟩)
theorem Ex.leaf {Q : Nat → Prop} {w : World} (x op : Nat) (p : Pay) : Ex Q w (.node x op p .nil .nil) (exV op p (.slice none 0 0)) :=
 ⟨none,0,0,rfl,Nat.le_refl _,by omega,.inl ⟨rfl,rfl,rfl⟩⟩
theorem Ex.one {Q : Nat → Prop} {w : World} {op : Nat} {t : Tr} {b : Nat} {op1 : Int} {p1 : Pay} {a1 : Option Addr} {n1 c1 : Nat} (hq : Q b) (hc : Ce w b 0 op1 p1 (.slice a1 n1 c1)) (h : Ex Q w t (exV op1 p1 (.slice a1 n1 c1))) :
  Ex Q w (tOne op t) (exV op nilP (.slice (some ⟨b,0,none⟩) 1 1)) :=
 ⟨_,1,1,rfl,Nat.le_refl _,by omega,.inr (.inl ⟨h.not_nil,rfl,rfl,b,0,op1,p1,a1,n1,c1,rfl,hq,hc,h⟩)⟩
theorem Ex.two {Q : Nat → Prop} {w : World} {op : Nat} {t u : Tr} {b : Nat} {op1 : Int} {p1 : Pay} {a1 : Option Addr} {n1 c1 : Nat} {op2 : Int} {p2 : Pay} {a2 : Option Addr} {n2 c2 : Nat} (hq : Q b) (hc : Ce w b 0 op1 p1 (.slice a1 n1 c1)) (hd : Ce w b 7 op2 p2 (.slice a2 n2 c2))
  (h : Ex Q w t (exV op1 p1 (.slice a1 n1 c1))) (k : Ex Q w u (exV op2 p2 (.slice a2 n2 c2))) :
  Ex Q w (tTwo op t u) (exV op nilP (.slice (some ⟨b,0,none⟩) 2 2)) :=
 ⟨_,2,2,rfl,Nat.le_refl _,by omega,.inr (.inr ⟨h.not_nil,k.not_nil,rfl,b,0,op1,p1,a1,n1,c1,op2,p2,a2,n2,c2,rfl,hq,hc,by simpa using hd,h,k⟩)⟩
structure Be (w : World) (b : Nat) (op : Int) (p : Pay) (sl : Value) : Prop where
 row : w.heap[b]? = some (.cells #[.int .i64 op,.int .i64 p.1,.int .i64 p.2.1,.string p.2.2.1,.string p.2.2.2.1,.string p.2.2.2.2,sl] 60 (0,0))
theorem Be.new (w : World) (op : Int) (p : Pay) (sl : Value) : Be (w.alloc (.cells #[.int .i64 op,.int .i64 p.1,.int .i64 p.2.1,.string p.2.2.1,.string p.2.2.2.1,.string p.2.2.2.2,sl] 60)) w.heap.size op p sl := ⟨heap_alloc_new w _⟩
theorem Be.lt {w : World} {b : Nat} {op : Int} {p : Pay} {sl : Value} (h : Be w b op p sl) : b < w.heap.size := (Array.getElem?_eq_some_iff.1 h.row).1
theorem Be.keep {w w' : World} {b : Nat} {op : Int} {p : Pay} {sl : Value} (h : Be w b op p sl) (hk : w'.heap[b]? = w.heap[b]?) : Be w' b op p sl := ⟨hk.trans h.row⟩
theorem Be.later {w w' : World} {b : Nat} {op : Int} {p : Pay} {sl : Value} (h : Be w b op p sl) (hb : Below w.heap.size w w') : Be w' b op p sl := h.keep (hb.block b h.lt)
theorem Be.but {w w' : World} {b g : Nat} {op : Int} {p : Pay} {sl : Value} (h : Be w b op p sl) (hb : But g w w') (hg : b ≠ g) : Be w' b op p sl := h.keep (hb.block b h.lt hg)
theorem Be.cells {w : World} {b : Nat} {op : Int} {p : Pay} {sl : Value} (h : Be w b op p sl) : Ce w b 0 op p sl := by
 unfold Ce World.cell?; rw [h.row]; exact ⟨rfl,rfl,rfl,rfl,rfl,rfl,rfl⟩
theorem Be.free {w : World} {b : Nat} {op : Int} {p : Pay} {sl : Value} (h : Be w b op p sl) : w.frozen? ⟨b,0,none⟩ = false ∧ w.frozen? ⟨b,1,none⟩ = false ∧ w.frozen? ⟨b,2,none⟩ = false ∧ w.frozen? ⟨b,3,none⟩ = false ∧ w.frozen? ⟨b,4,none⟩ = false ∧ w.frozen? ⟨b,5,none⟩ = false ∧ w.frozen? ⟨b,6,none⟩ = false := by
 unfold World.frozen?; rw [h.row]; exact ⟨rfl,rfl,rfl,rfl,rfl,rfl,rfl⟩
def set7 (w : World) (b : Nat) (op : Int) (p : Pay) (sl : Value) : World :=
 ((((((w.setCell ⟨b,0,none⟩ (.int .i64 op)).setCell ⟨b,1,none⟩ (.int .i64 p.1)).setCell ⟨b,2,none⟩ (.int .i64 p.2.1)).setCell ⟨b,3,none⟩ (.string p.2.2.1)).setCell ⟨b,4,none⟩ (.string p.2.2.2.1)).setCell ⟨b,5,none⟩ (.string p.2.2.2.2)).setCell ⟨b,6,none⟩ sl
theorem set7_heap (w : World) (b : Nat) (op : Int) (p : Pay) (sl : Value) {k : Nat} (hk : k ≠ b) : (set7 w b op p sl).heap[k]? = w.heap[k]? := by
 unfold set7
 rw [Below.heap_setCell _ _ _ _ hk,Below.heap_setCell _ _ _ _ hk,Below.heap_setCell _ _ _ _ hk,Below.heap_setCell _ _ _ _ hk,Below.heap_setCell _ _ _ _ hk,Below.heap_setCell _ _ _ _ hk,Below.heap_setCell _ _ _ _ hk]
theorem set7_size (w : World) (b : Nat) (op : Int) (p : Pay) (sl : Value) : (set7 w b op p sl).heap.size = w.heap.size := by simp [set7,World.setCell]
theorem Be.set {w : World} {b : Nat} {op : Int} {p : Pay} {sl : Value} (h : Be w b op p sl) (op' : Int) (p' : Pay) (sl' : Value) : Be (set7 w b op' p' sl') b op' p' sl' := ⟨by simp [set7,World.setCell,Array.getElem?_modify,h.row]⟩
theorem But.set7 {g : Nat} {a w : World} (h : But g a w) {b : Nat} (hb : a.heap.size ≤ b) (op : Int) (p : Pay) (sl : Value) : But g a (set7 w b op p sl) :=
 ((((((h.new hb 0 _).new hb 1 _).new hb 2 _).new hb 3 _).new hb 4 _).new hb 5 _).new hb 6 _
theorem Rp.set7 {w : World} {g : Nat} {S : Sa} {d : Nat} (h : Rp w g S d) {b : Nat} (hb : g < b) (op : Int) (p : Pay) (sl : Value) : Rp (set7 w b op p sl) g S d :=
 h.keep fun k hk => set7_heap _ _ _ _ _ (by omega)
theorem Ex.set7 {Q : Nat → Prop} {w : World} {t : Tr} {v : Value} (h : Ex Q w t v) {b : Nat} (hb : ¬ Q b) (op : Int) (p : Pay) (sl : Value) : Ex Q (set7 w b op p sl) t v :=
 h.keep fun k hq _ => set7_heap _ _ _ _ _ (by rintro rfl; exact hb hq)
theorem Ex.but {Q : Nat → Prop} {w w' : World} {t : Tr} {v : Value} {g : Nat} (h : Ex Q w t v) (hb : But g w w') (hg : ¬ Q g) : Ex Q w' t v :=
 h.keep fun k hq hk => hb.block k hk (by rintro rfl; exact hg hq)
theorem Ex.later {Q : Nat → Prop} {w w' : World} {t : Tr} {v : Value} (h : Ex Q w t v) (hb : Below w.heap.size w w') : Ex Q w' t v :=
 h.keep fun k hq hk => hb.block k hk
theorem bal {a w : World} (h : Below a.heap.size a w) (o : Obj) : Below a.heap.size a (w.alloc o) := h.alloc h.size o
def TeE (g d : Nat) (w : World) (R : Re Tr) (e : Ending) (w' : World) : Prop :=
 ∃ o p ao n c,e = .returned (exV o p (.slice ao n c)) ∧ But g w w' ∧ Rp w' g (stO R) d ∧ ∀ t r,R = .inr (t,r) → Ex (fun b => w.heap.size ≤ b) w' t (exV o p (.slice ao n c))
theorem TeE.fin {g d : Nat} {w w1 : World} {R : Re Tr} {o : Int} {p : Pay} {ao : Option Addr} {n c : Nat} (hg : g < w.heap.size) (hB : But g w w1) (hr : Rp w1 g (stO R) d)
  (hx : ∀ t r,R = .inr (t,r) → Ex (fun b => w.heap.size + 1 ≤ b) w1 t (exV o p (.slice ao n c))) :
  TeE g d w R (.returned (exV o p (.slice ao n c))) (set7 w1 w.heap.size o p (.slice ao n c)) :=
 ⟨o,p,ao,n,c,rfl,hB.set7 (Nat.le_refl _) _ _ _,hr.set7 hg _ _ _,fun t r e => ((hx t r e).set7 (by omega) _ _ _).mono fun k hk _ => by omega⟩
set_option maxRecDepth 100000 in
set_option maxHeartbeats 1000000 in
theorem pTwo_any (op : Int) (o1 : Int) (p1 : Pay) (s1 : Value) (o2 : Int) (p2 : Pay) (s2 : Value) (w : World) :
  Calls Tryz.prog 110 #[.int .i64 op,exV o1 p1 s1,exV o2 p2 s2] w fun e w' => ∃ b,e = .returned (exV op nilP (.slice (some ⟨b,0,none⟩) 2 2)) ∧ w.heap.size ≤ b ∧ Below w.heap.size w w' ∧ Ce w' b 0 o1 p1 s1 ∧ Ce w' b 7 o2 p2 s2 := by
 obtain ⟨k1,i1,t1,b1,m1⟩ := p1
 obtain ⟨k2,i2,t2,b2,m2⟩ := p2
 unfold exV
 go_enter Tryz.func110,Tryz.ntmps110
 go_wp2
 refine bodyPost_ret (v := exV op nilP (.slice (some ⟨w.heap.size + 3,0,none⟩) 2 2)) (by simp [results,Tryz.results110,go_sem,exV,nilP]) rfl ⟨w.heap.size + 3,rfl,by omega,?_,?_,?_⟩
 ·exact bal (bal (bal (bal (Below.refl _ _) _) _) _) _
 ·unfold Ce
  simp [go_sem]
 ·unfold Ce
  simp [go_sem]
set_option maxRecDepth 100000 in
set_option maxHeartbeats 1000000 in
theorem pOne_any (op : Int) (o1 : Int) (p1 : Pay) (s1 : Value) (w : World) :
  Calls Tryz.prog 117 #[.int .i64 op,exV o1 p1 s1] w fun e w' => ∃ b,e = .returned (exV op nilP (.slice (some ⟨b,0,none⟩) 1 1)) ∧ w.heap.size ≤ b ∧ Below w.heap.size w w' ∧ Ce w' b 0 o1 p1 s1 := by
 obtain ⟨k1,i1,t1,b1,m1⟩ := p1
 unfold exV
 go_enter Tryz.func117,Tryz.ntmps117
 go_wp2
 refine bodyPost_ret (v := exV op nilP (.slice (some ⟨w.heap.size + 2,0,none⟩) 1 1)) (by simp [results,Tryz.results117,go_sem,exV,nilP]) rfl ⟨w.heap.size + 2,rfl,by omega,?_,?_⟩
 ·exact bal (bal (bal (Below.refl _ _) _) _) _
 ·unfold Ce
  simp [go_sem]
def mapR {α β : Type} (f : α → β) (R : Re α) : Re β := thenR R fun t r => .inr (f t,r)
theorem stO_mapR {α β : Type} (f : α → β) (R : Re α) : stO (mapR f R) = stO R := by cases R <;> rfl
theorem mapR_inr {α β : Type} {f : α → β} {R : Re α} {t : β} {r : List Tk} (h : mapR f R = .inr (t,r)) : ∃ u,R = .inr (u,r) ∧ t = f u := by
 cases R with
 | inl x => cases h
 | inr x => cases h; exact ⟨x.1,rfl,rfl⟩
theorem stO_inr {α : Type} {R : Re α} {ts : List Tk} (h : stO R = .inr ts) : ∃ u,R = .inr (u,ts) := by
 cases R with
 | inl x => cases h
 | inr x => cases h; exact ⟨x.1,rfl⟩
theorem column_false {S : Sa} (h : takeB ⟨#[46]⟩ (stO (runP nameP S)) = false) : runP columnP S = mapR (tCol ⟨#[]⟩) (runP nameP S) := by
 match S with
 | .inl x => rfl
 | .inr ts =>
  have e : runP nameP (.inr ts) = nameP ts := rfl
  rw [e] at h ⊢
  show columnP ts = _
  rw [columnP]
  cases hn : nameP ts with
  | inl x => rfl
  | inr x =>
   rw [hn] at h
   have h' : isTk ⟨#[46]⟩ x.2 = false := h
   show (if isTk ⟨#[46]⟩ x.2 then _ else _) = _
   rw [if_neg (by rw [h']; simp)]
   rfl
theorem column_true {S : Sa} {n : ByteArray} {t : Tk} {ts : List Tk} (h : runP nameP S = .inr (n,t :: ts)) (hb : isTk ⟨#[46]⟩ (t :: ts) = true) : runP columnP S = mapR (tCol n) (nameP ts) := by
 match S with
 | .inl x => cases h
 | .inr us =>
  have e : nameP us = .inr (n,t :: ts) := h
  show columnP us = _
  rw [columnP,e]
  show (if isTk ⟨#[46]⟩ (t :: ts) then _ else _) = _
  rw [if_pos hb]
  rfl
theorem Be.set5 {w : World} {b : Nat} {op : Int} {k i : Int} {x t m : ByteArray} {sl : Value} (h : Be w b op (k,i,x,t,m) sl) (s : ByteArray) : Be (w.setCell ⟨b,5,none⟩ (.string s)) b op (k,i,x,t,s) sl := ⟨by simp [World.setCell,Array.getElem?_modify,h.row]⟩
theorem Be.set4 {w : World} {b : Nat} {op : Int} {k i : Int} {x t m : ByteArray} {sl : Value} (h : Be w b op (k,i,x,t,m) sl) (s : ByteArray) : Be (w.setCell ⟨b,4,none⟩ (.string s)) b op (k,i,x,s,m) sl := ⟨by simp [World.setCell,Array.getElem?_modify,h.row]⟩
theorem Be.other {w : World} {b : Nat} {op : Int} {p : Pay} {sl : Value} (h : Be w b op p sl) {r : Nat} (hr : b ≠ r) (o : Nat) (v : Value) : Be (w.setCell ⟨r,o,none⟩ v) b op p sl := h.keep (Below.heap_setCell _ _ _ _ hr)
abbrev zE : Obj := .cells #[.int .i64 0,.int .i64 0,.int .i64 0,.string ⟨#[]⟩,.string ⟨#[]⟩,.string ⟨#[]⟩,.slice none 0 0] 60
set_option maxRecDepth 100000 in
set_option maxHeartbeats 1000000 in
theorem pColumn_any {g : Nat} {S : Sa} {d : Nat} {w : World} (h : Rp w g S d) :
  Calls Tryz.prog 101 #[.pointer (some ⟨g,0,none⟩)] w (TeE g d w (runP columnP S)) := by
 have hgl := h.lt
 have b0 : Be ((w.alloc (.cells #[.int .i64 0,.int .i64 0,.int .i64 0,.string ⟨#[]⟩,.string ⟨#[]⟩,.string ⟨#[]⟩,.slice none 0 0] 60)).alloc (.cells #[.int .i64 2,.int .i64 0,.int .i64 0,.string ⟨#[]⟩,.string ⟨#[]⟩,.string ⟨#[]⟩,.slice none 0 0] 60)) w.heap.size 0 nilP (.slice none 0 0) := (Be.new w 0 nilP (.slice none 0 0)).later (bal (Below.refl _ _) _)
 have b1 : Be ((w.alloc (.cells #[.int .i64 0,.int .i64 0,.int .i64 0,.string ⟨#[]⟩,.string ⟨#[]⟩,.string ⟨#[]⟩,.slice none 0 0] 60)).alloc (.cells #[.int .i64 2,.int .i64 0,.int .i64 0,.string ⟨#[]⟩,.string ⟨#[]⟩,.string ⟨#[]⟩,.slice none 0 0] 60)) (w.heap.size + 1) 2 (0,0,⟨#[]⟩,⟨#[]⟩,⟨#[]⟩) (.slice none 0 0) := by
  have := Be.new (w.alloc (.cells #[.int .i64 0,.int .i64 0,.int .i64 0,.string ⟨#[]⟩,.string ⟨#[]⟩,.string ⟨#[]⟩,.slice none 0 0] 60)) 2 (0,0,⟨#[]⟩,⟨#[]⟩,⟨#[]⟩) (.slice none 0 0)
  simpa using this
 have HN : Hid _ := hid (pName_any ((h.alloc (.cells #[.int .i64 0,.int .i64 0,.int .i64 0,.string ⟨#[]⟩,.string ⟨#[]⟩,.string ⟨#[]⟩,.slice none 0 0] 60)).alloc (.cells #[.int .i64 2,.int .i64 0,.int .i64 0,.string ⟨#[]⟩,.string ⟨#[]⟩,.string ⟨#[]⟩,.slice none 0 0] 60)))
 clear h
 go_enter Tryz.func101,Tryz.ntmps101
 go_wp2_with fail
 refine Calls.mono HN.out ?_
 rintro e w1 ⟨s1,rfl,hb1,hr1,hu1⟩
 have hB : But g w w1 := hb1.behind.behind
 have x1 := b1.but hb1 (by omega)
 have z1 := b0.but hb1 (by omega)
 have f5 := x1.free.2.2.2.2.2.1
 have c5 := x1.cells.2.2.2.2.2.1
 rw [Nat.zero_add] at c5
 have hr2 := hr1.other (r := w.heap.size + 1) (by omega) 5 (.string s1)
 have x2 := x1.set5 s1
 have z2 := z1.other (by omega) (r := w.heap.size + 1) 5 (.string s1)
 have hB2 := hB.new (r := w.heap.size + 1) (by omega) 5 (.string s1)
 have HT := pTake_any hr2 ⟨#[46]⟩
 clear HN hb1 b0 b1
 cases hb : takeB ⟨#[46]⟩ (stO (runP nameP S)) with
 | false =>
  have e1 := column_false hb
  rw [hb,takeB_false hb] at HT
  replace HT : Hid _ := hid HT
  have E1 : Hid _ := hid e1
  clear hb e1
  go_wp2_with fail
  refine Calls.mono HT.out ?_
  rintro e w2 ⟨rfl,hr3,hb3⟩
  have hB3 := hB2.trans hb3
  have x3 := x2.but hb3 (by omega)
  have z3 := z2.but hb3 (by omega)
  obtain ⟨k0,k1,k2,k3,k4,k5,k6⟩ := x3.cells
  obtain ⟨m0,m1,m2,m3,m4,m5,m6⟩ := z3.cells
  obtain ⟨n0,n1,n2,n3,n4,n5,n6⟩ := z3.free
  clear HT hb3 hB hB2 hr1 hr2 x1 x2 z1 z2
  go_wp2
  refine bodyPost_ret (v := exV 2 (0,0,⟨#[]⟩,⟨#[]⟩,s1) (.slice none 0 0)) (by simp [results,Tryz.results101,go_sem,exV,m0,m1,m2,m3,m4,m5,m6]) rfl (TeE.fin hgl hB3 (by rw [E1.out,stO_mapR]; exact hr3) ?_)
  intro t r e
  rw [E1.out] at e
  obtain ⟨u,e2,rfl⟩ := mapR_inr e
  obtain rfl := hu1 u r e2
  exact Ex.leaf 0 2 _
 | true =>
  obtain ⟨t,ts,hS,ht,hT⟩ := takeB_true hb
  obtain ⟨n,hn⟩ := stO_inr hS
  obtain rfl := hu1 _ _ hn
  have e1 := column_true hn (by rw [hS] at hb; exact hb)
  rw [hb,hT] at HT
  replace HT : Hid _ := hid HT
  have E1 : Hid _ := hid e1
  clear hb hT hS hn hu1 e1
  go_wp2_with fail
  refine Calls.mono HT.out ?_
  rintro e w2 ⟨rfl,hr3,hb3⟩
  have hB3 := hB2.trans hb3
  have x3 := x2.but hb3 (by omega)
  have z3 := z2.but hb3 (by omega)
  obtain ⟨k0,k1,k2,k3,k4,k5,k6⟩ := x3.cells
  obtain ⟨v0,v1,v2,v3,v4,v5,v6⟩ := x3.free
  have hr4 := hr3.other (r := w.heap.size + 1) (by omega) 4 (.string s1)
  have x4 := x3.set4 s1
  have z4 := z3.other (by omega) (r := w.heap.size + 1) 4 (.string s1)
  have hB4 := hB3.new (r := w.heap.size + 1) (by omega) 4 (.string s1)
  have HN : Hid _ := hid (pName_any hr4)
  clear HT hb3 hB hB2 hB3 hr1 hr2 hr3 x1 x2 z1 z2 x3 z3
  go_wp2_with fail
  refine Calls.mono HN.out ?_
  rintro e w3 ⟨s2,rfl,hb5,hr5,hu5⟩
  have hB5 := hB4.trans hb5
  have x5 := x4.but hb5 (by omega)
  have z5 := z4.but hb5 (by omega)
  have hr6 := hr5.other (r := w.heap.size + 1) (by omega) 5 (.string s2)
  have x6 := x5.set5 s2
  have z6 := z5.other (by omega) (r := w.heap.size + 1) 5 (.string s2)
  have hB6 := hB5.new (r := w.heap.size + 1) (by omega) 5 (.string s2)
  obtain ⟨q0,q1,q2,q3,q4,q5,q6⟩ := x5.cells
  have q5f := x5.free.2.2.2.2.2.1
  obtain ⟨l0,l1,l2,l3,l4,l5,l6⟩ := z5.cells
  obtain ⟨m0,m1,m2,m3,m4,m5,m6⟩ := z6.cells
  obtain ⟨n0,n1,n2,n3,n4,n5,n6⟩ := z5.free
  clear HN hb5 hB4 hB5 hr4 hr5 x4 z4 x5 z5 k0 k1 k2 k3 k4 k5 k6 v0 v1 v2 v3 v4 v5 v6
  go_wp2
  refine bodyPost_ret (v := exV 2 (0,0,⟨#[]⟩,s1,s2) (.slice none 0 0)) (by simp [results,Tryz.results101,go_sem,exV,l0,l1,l2,l3,l4,l5,l6]) rfl (TeE.fin hgl hB6 (by rw [E1.out,stO_mapR]; exact hr6) ?_)
  intro t r e
  rw [E1.out] at e
  obtain ⟨u,e2,rfl⟩ := mapR_inr e
  obtain rfl := hu5 u r e2
  exact Ex.leaf 0 2 _
end Go.Proofs.YtfopfhlohihihaaGreat
