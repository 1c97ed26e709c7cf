/- The walks of the reader's want, oneOf, kind, name, end. -/
import Derived.Test.YtjlmcnbmhgabpaaGreatPc
namespace Go.Proofs.YtjlmcnbmhgabpaaGreat
open Go.RowKit
set_option linter.unusedVariables false

/-- The texts lie in block b, one behind the other. -/
def Sw (w : World) (b : Nat) (ls : List ByteArray) : Prop := ∀ i (h : i < ls.length), w.cell? ⟨b, i, none⟩ = some (.string ls[i])
theorem Sw.but {g b : Nat} {w w' : World} {ls : List ByteArray} (h : Sw w b ls) (hb : But g w w') (hg : b ≠ g) : Sw w' b ls := fun i hi => hb.cell (h i hi) hg
def wantsS (ls : List ByteArray) (S : Sa) : Sa := ls.foldl (fun S s => wantS s S) S
theorem wantS_true {s : ByteArray} {S : Sa} (h : takeB s S = true) : wantS s S = takeS s S := by
  match S with
  | .inl x => rfl
  | .inr ts => have h' : isTk s ts = true := h; simp [wantS, takeS, h']
theorem wantS_false {s : ByteArray} {S : Sa} (h : takeB s S = false) : wantS s S = failS 5 S := by
  match S with
  | .inl x => rfl
  | .inr ts => have h' : isTk s ts = false := h; simp [wantS, failS, h']

set_option maxRecDepth 100000 in
set_option maxHeartbeats 1000000 in
theorem pWant_any {g b : Nat} {S : Sa} {d : Nat} {w : World} (h : Rp w g S d) (ls : List ByteArray) (hl : ls.length ≤ 10) (hg : g ≠ b) (hs : Sw w b ls) :
    Calls Tryz.prog 81 #[.pointer (some ⟨g, 0, none⟩), .slice (some ⟨b, 0, none⟩) ls.length ls.length] w fun x w' => x = .returned (.tuple #[]) ∧ Rp w' g (wantsS ls S) d ∧ But g w w' := by
  generalize hn : ls.length = n at *
  have HS : Hid _ := hid hs
  have HL : Hid _ := hid hn
  clear hn hs
  go_enter Tryz.func81, Tryz.ntmps81
  go_wp2
  go_loopw [8] (fun i wr => ∃ k : Nat, k ≤ n ∧ i = .int .i64 k ∧ Rp wr g (wantsS (ls.take k) S) d ∧ But g w wr) (fun i _ => n - (intOf i).toNat)
  case atStart => exact ⟨0, Nat.zero_le _, rfl, h, But.refl _ _⟩
  case round =>
    obtain ⟨k, hk, rfl, hr, hb⟩ := hrel
    by_cases hlt : k < n
    · have c0 := hb.cell (HS.out k (by rw [HL.out]; exact hlt)) (Ne.symm hg)
      have HN : Hid (wantsS (ls.take (k + 1)) S = wantS (ls[k]'(by rw [HL.out]; exact hlt)) (wantsS (ls.take k) S)) := hid (by
        rw [wantsS, wantsS, List.take_succ_eq_append_getElem (by rw [HL.out]; exact hlt), List.foldl_append]; rfl)
      generalize ls[k]'(by rw [HL.out]; exact hlt) = s at *
      have HT : Hid _ := hid (pTake_any hr s)
      cases hB : takeB s (wantsS (ls.take k) S) with
      | true =>
        rw [hB, ← wantS_true hB, ← HN.out] at HT
        clear hr HN hB
        go_wp2_with fail
        refine Calls.mono HT.out ?_
        rintro e w1 ⟨rfl, hr1, hb1⟩
        have hb2 := hb.trans hb1
        clear HT hb hb1 c0
        go_wp2
        go_roundw
        case rel => exact ⟨k + 1, by omega, by go_num, hr1, hb2⟩
        case measure => simp only [intOf]; omega
      | false =>
        rw [hB, takeB_false hB] at HT
        rw [wantS_false hB] at HN
        clear hr hB
        go_wp2_with fail
        refine Calls.mono HT.out ?_
        rintro e w1 ⟨rfl, hr1, hb1⟩
        have hb2 := hb.trans hb1
        have HF : Hid _ := hid (pFail_any hr1 5 (by decide))
        rw [← HN.out] at HF
        clear HT hb hb1 c0 hr1 HN
        go_wp2_with fail
        refine Calls.mono HF.out ?_
        rintro e w2 ⟨rfl, hr3, hb3⟩
        have hb4 := hb2.trans hb3
        clear HF hb2 hb3
        go_wp2
        go_roundw
        case rel => exact ⟨k + 1, by omega, by go_num, hr3, hb4⟩
        case measure => simp only [intOf]; omega
    · obtain rfl : k = n := by omega
      go_wp2
      refine bodyPost_end (results_none rfl _ _ _) rfl ⟨rfl, ?_, hb⟩
      rw [List.take_of_length_le (by rw [HL.out]; exact Nat.le_refl _)] at hr
      exact hr

/-- The choices lie in block b, one behind the other. -/
def Cw (w : World) (b : Nat) (l : List (ByteArray × Int)) : Prop := ∀ i (h : i < l.length), w.cell? ⟨b, i * 2, none⟩ = some (.string l[i].1) ∧ w.cell? ⟨b, i * 2 + 1, none⟩ = some (.int .i64 l[i].2)
theorem Cw.but {g b : Nat} {w w' : World} {l : List (ByteArray × Int)} (h : Cw w b l) (hb : But g w w') (hg : b ≠ g) : Cw w' b l := fun i hi => ⟨hb.cell (h i hi).1 hg, hb.cell (h i hi).2 hg⟩
/-- None of the first k choices stands there. -/
def NoneOf (l : List (ByteArray × Int)) (S : Sa) : Prop := ∀ c ∈ l, takeB c.1 S = false
theorem oneB_at {l : List (ByteArray × Int)} {S : Sa} {k : Nat} (hk : k < l.length) (hN : NoneOf (l.take k) S) (h : takeB l[k].1 S = true) : oneB l S = l[k].2 ∧ oneS l S = takeS l[k].1 S := by
  match S with
  | .inl x => simp [takeB] at h
  | .inr ts =>
    have h' : isTk l[k].1 ts = true := h
    have hN' : ∀ c ∈ l.take k, isTk c.1 ts = false := hN
    clear hN h
    refine ⟨?_, ?_⟩
    · induction l generalizing k with
      | nil => simp at hk
      | cons c l ih =>
        cases k with
        | zero => simp only [List.getElem_cons_zero] at h'; simp [oneB, oneOf, h']
        | succ k =>
          have hc := hN' c (by simp)
          simp only [List.getElem_cons_succ] at h' ⊢
          have := ih (k := k) (by simpa using hk) h' (fun x hx => hN' x (by simp [hx]))
          simp only [oneB, oneOf, hc] at this ⊢
          simpa using this
    · have : (l.any fun c => isTk c.1 ts) = true := List.any_eq_true.2 ⟨l[k], List.getElem_mem hk, h'⟩
      simp only [oneS, takeS, this, h', if_true]
theorem oneB_none {l : List (ByteArray × Int)} {S : Sa} (hN : NoneOf l S) : oneB l S = 0 ∧ oneS l S = S := by
  match S with
  | .inl x => exact ⟨rfl, rfl⟩
  | .inr ts =>
    have hN' : ∀ c ∈ l, isTk c.1 ts = false := hN
    refine ⟨?_, ?_⟩
    · clear hN
      induction l with
      | nil => rfl
      | cons c l ih =>
        have hc := hN' c (by simp)
        have := ih (fun x hx => hN' x (by simp [hx]))
        simp only [oneB, oneOf, hc] at this ⊢
        simpa using this
    · have : (l.any fun c => isTk c.1 ts) = false := by
        rw [List.any_eq_false]
        intro c hc
        rw [hN' c hc]; simp
      simp only [oneS, this, Bool.false_eq_true, if_false]
theorem NoneOf.step {l : List (ByteArray × Int)} {S : Sa} {k : Nat} (hk : k < l.length) (hN : NoneOf (l.take k) S) (h : takeB l[k].1 S = false) : NoneOf (l.take (k + 1)) S := by
  intro c hc
  rw [List.take_succ_eq_append_getElem hk, List.mem_append, List.mem_singleton] at hc
  rcases hc with hc | rfl
  · exact hN c hc
  · exact h

set_option maxRecDepth 100000 in
set_option maxHeartbeats 1000000 in
theorem pOneOf_any {g b : Nat} {S : Sa} {d : Nat} {w : World} (h : Rp w g S d) (l : List (ByteArray × Int)) (hl : l.length ≤ 10) (hg : g ≠ b) (hs : Cw w b l) :
    Calls Tryz.prog 116 #[.pointer (some ⟨g, 0, none⟩), .slice (some ⟨b, 0, none⟩) l.length l.length] w fun x w' => x = .returned (.int .i64 (oneB l S)) ∧ Rp w' g (oneS l S) d ∧ But g w w' := by
  generalize hn : l.length = n at *
  have HS : Hid _ := hid hs
  have HL : Hid _ := hid hn
  clear hn hs
  go_enter Tryz.func116, Tryz.ntmps116
  go_wp2
  go_loopw [9] (fun i wr => ∃ k : Nat, k ≤ n ∧ i = .int .i64 k ∧ Rp wr g S d ∧ But g w wr ∧ Hid (NoneOf (l.take k) S)) (fun i _ => n - (intOf i).toNat)
  case atStart => exact ⟨0, Nat.zero_le _, rfl, h, But.refl _ _, hid (fun c hc => by simp at hc)⟩
  case round =>
    obtain ⟨k, hk, rfl, hr, hb, HN⟩ := hrel
    by_cases hlt : k < n
    · have hlt' : k < l.length := by rw [HL.out]; exact hlt
      obtain ⟨c0, c1⟩ := HS.out k hlt'
      replace c0 := hb.cell c0 (Ne.symm hg)
      replace c1 := hb.cell c1 (Ne.symm hg)
      have HA : Hid (takeB l[k].1 S = true → oneB l S = l[k].2 ∧ oneS l S = takeS l[k].1 S) := hid (oneB_at hlt' HN.out)
      have HM : Hid (takeB l[k].1 S = false → NoneOf (l.take (k + 1)) S) := hid (HN.out.step hlt')
      generalize l[k] = p at *
      obtain ⟨s, z⟩ := p
      clear hlt' HN
      have HT : Hid (Calls Tryz.prog 36 #[.pointer (some ⟨g, 0, none⟩), .string s] (wr.alloc (.cells #[.string s, .int .i64 z] 131)) fun x w' => x = .returned (.bool (takeB s S)) ∧ Rp w' g (takeS s S) d ∧ But g (wr.alloc (.cells #[.string s, .int .i64 z] 131)) w') := hid (pTake_any (hr.alloc _) s)
      have cz : (wr.alloc (.cells #[.string s, .int .i64 z] 131)).cell? ⟨wr.heap.size, 1, none⟩ = some (.int .i64 z) := cell_new wr _ _ _ 1
      have hgw := hr.lt
      cases hB : takeB s S with
      | true =>
        obtain ⟨e1, e2⟩ := HA.out hB
        rw [hB, ← e2] at HT
        have E1 : Hid _ := hid e1
        clear HA HM hB e1 e2 hr
        go_wp2_with fail
        refine Calls.mono HT.out ?_
        rintro e w1 ⟨rfl, hr1, hb1⟩
        have c2 := hb1.cell cz (by simp; omega)
        have hb2 := hb.trans hb1.behind
        clear HT hb hb1 c0 c1 cz
        go_wp2
        go_ret
        exact ⟨by rw [E1.out]; rfl, hr1, hb2⟩
      | false =>
        have HX : Hid _ := hid (HM.out hB)
        rw [hB, takeB_false hB] at HT
        clear HA HM hB hr
        go_wp2_with fail
        refine Calls.mono HT.out ?_
        rintro e w1 ⟨rfl, hr1, hb1⟩
        have hb2 := hb.trans hb1.behind
        clear HT hb hb1 c0 c1 cz
        go_wp2
        go_roundw
        case rel => exact ⟨k + 1, by omega, by go_num, hr1, hb2, HX⟩
        case measure => simp only [intOf]; omega
    · obtain rfl : k = n := by omega
      have HX := HN.out
      rw [List.take_of_length_le (by rw [HL.out]; exact Nat.le_refl _)] at HX
      obtain ⟨e1, e2⟩ := oneB_none HX
      have E1 : Hid _ := hid e1
      rw [← e2] at hr
      clear HX HN e1 e2
      go_wp2
      go_ret
      exact ⟨by rw [E1.out]; rfl, hr, hb⟩

theorem kind_nx {k : Int} {S : Sa} (hk : k ≠ 0) : (nxT S).1 = k → ∃ ts, S = .inr (nxT S :: ts) ∧ runP (kindP k) S = .inr (nxT S, ts) := by
  intro h
  match S with
  | .inl x => exact absurd h.symm hk
  | .inr [] => exact absurd h.symm hk
  | .inr (t :: ts) =>
    have h' : t.1 = k := h
    exact ⟨ts, rfl, by show kindP k (t :: ts) = _; rw [kindP, if_pos h']; rfl⟩
theorem kind_not {w : World} {g d : Nat} {k : Int} {S : Sa} (hr : Rp w g S d) : (nxT S).1 ≠ k → runP (kindP k) S = (match failS 5 S with | .inl x => .inl x | .inr _ => .inl (0, 0)) ∧ stO (runP (kindP k) S) = failS 5 S := by
  intro h
  match S with
  | .inl x => exact ⟨rfl, rfl⟩
  | .inr [] => obtain ⟨b, o, n, c, hq, hw⟩ := hr.ok; exact hw.ended.elim
  | .inr (t :: ts) =>
    have h' : t.1 ≠ k := h
    have e : kindP k (t :: ts) = .inl (t.2.2.2, 5) := by rw [kindP, if_neg h']
    exact ⟨e, by show stO (kindP k (t :: ts)) = _; rw [e]; rfl⟩

/-- What a call tells: the reader goes on, and the value is what was read. -/
structure Tells {α : Type} (g d : Nat) (V : Nat → World → α → Value → Prop) (w : World) (R : Re α) (e : Ending) (w' : World) : Prop where
  but : But g w w'
  rp : Rp w' g (stO R) d
  val : ∃ v, e = .returned v ∧ (∀ t r, R = .inr (t, r) → V w.heap.size w' t v)

set_option maxRecDepth 100000 in
set_option maxHeartbeats 1000000 in
theorem pKind_any {g : Nat} {S : Sa} {d : Nat} {w : World} (h : Rp w g S d) (k : Int) (hk : k ≠ 0) (h6 : k ≠ 6) :
    Calls Tryz.prog 88 #[.pointer (some ⟨g, 0, none⟩), .int .i64 k] w fun e w' => ∃ t : Tk, e = .returned (tkA t) ∧ But g w w' ∧ Rp w' g (stO (runP (kindP k) S)) d ∧ ∀ u r, runP (kindP k) S = .inr (u, r) → t = u := by
  have hgl := h.lt
  have h0 := h.alloc (.cells #[.int .i64 0, .string ⟨#[]⟩, .int .i64 0, .int .i64 0] 45)
  have z0 := Zr.new w
  have H := pNext_any h0
  by_cases hn : (nxT S).1 = k
  · obtain ⟨ts, hS, hR⟩ := kind_nx hk hn
    rw [hR]
    unfold tkA at H ⊢
    generalize nxT S = t at *
    obtain ⟨t0, t1, t2, t3⟩ := t
    replace hn : t0 = k := hn
    subst hn
    replace H : Hid _ := hid H
    clear hR
    subst hS
    go_enter Tryz.func88, Tryz.ntmps88
    go_wp2_with fail
    refine Calls.mono H.out ?_
    rintro e w1 ⟨rfl, hb1⟩
    have hb : But g w w1 := (But.of hb1).behind
    have hr1 := (h0.later hb1).alloc (.cells #[.int .i64 t0, .string t1, .int .i64 t2, .int .i64 t3] 45)
    have z1 := (z0.later hb1).later ((Below.refl _ _).alloc (Nat.le_refl _) (.cells #[.int .i64 t0, .string t1, .int .i64 t2, .int .i64 t3] 45))
    have HK : Hid _ := hid (pSkip_any hr1 (by exact h6))
    have k0 := Ct.new w1 (t0, t1, t2, t3) 45
    have hsz : w.heap.size < w1.heap.size := by have := hb1.size; simp at this; omega
    clear H hb1 z0 h0 hr1
    go_wp2_with fail
    refine Calls.mono HK.out ?_
    rintro e w2 ⟨rfl, hr2, hb2⟩
    have hq : But g w w2 := hb.trans hb2.behind
    have z2 := z1.but hb2 (by omega)
    have q0 := hb2.cell k0.1 (by simp; omega)
    have q1 := hb2.cell k0.2.1 (by simp; omega)
    have q2 := hb2.cell k0.2.2.1 (by simp; omega)
    have q3 := hb2.cell k0.2.2.2 (by simp; omega)
    obtain ⟨c0, c1, c2, c3⟩ := z2.cells
    obtain ⟨f0, f1, f2, f3⟩ := z2.free
    clear HK hb hb2 k0 z1 z2
    go_wp2
    refine bodyPost_ret (v := tkA (t0, t1, t2, t3)) (by simp [results, Tryz.results88, go_sem, c0, c1, c2, c3, tkA]) rfl ⟨(t0, t1, t2, t3), rfl, hq.new4 (Nat.le_refl _) _ _ _ _, ?_, fun u r e => by cases e; rfl⟩
    exact (((hr2.other (by omega) 0 _).other (by omega) 1 _).other (by omega) 2 _).other (by omega) 3 _
  · obtain ⟨hR, hR2⟩ := kind_not h hn
    have HU : Hid (∀ u r, runP (kindP k) S = .inr (u, r) → (0, ⟨#[]⟩, 0, 0) = u) := hid fun u r e => by
      rw [hR] at e
      revert e
      split <;> intro e <;> cases e
    rw [hR2]
    clear hR hR2
    unfold tkA at H ⊢
    generalize nxT S = t at *
    obtain ⟨t0, t1, t2, t3⟩ := t
    have g1 : (t0 != k) = true := by simpa using hn
    replace H : Hid _ := hid H
    clear hn
    go_enter Tryz.func88, Tryz.ntmps88
    go_wp2_with fail
    refine Calls.mono H.out ?_
    rintro e w1 ⟨rfl, hb1⟩
    have hb : But g w w1 := (But.of hb1).behind
    have hr1 := (h0.later hb1).alloc (.cells #[.int .i64 t0, .string t1, .int .i64 t2, .int .i64 t3] 45)
    have z1 := (z0.later hb1).later ((Below.refl _ _).alloc (Nat.le_refl _) (.cells #[.int .i64 t0, .string t1, .int .i64 t2, .int .i64 t3] 45))
    have HK : Hid _ := hid (pFail_any hr1 5 (by decide))
    have hsz : w.heap.size < w1.heap.size := by have := hb1.size; simp at this; omega
    clear H hb1 z0 h0 hr1
    go_wp2_with fail
    refine Calls.mono HK.out ?_
    rintro e w2 ⟨rfl, hr2, hb2⟩
    have hq : But g w w2 := hb.trans hb2.behind
    have z2 := z1.but hb2 (by omega)
    obtain ⟨c0, c1, c2, c3⟩ := z2.cells
    obtain ⟨f0, f1, f2, f3⟩ := z2.free
    clear HK hb hb2 z1 z2
    go_wp2
    refine bodyPost_ret (v := tkA (0, ⟨#[]⟩, 0, 0)) (by simp [results, Tryz.results88, go_sem, c0, c1, c2, c3, tkA]) rfl ⟨(0, ⟨#[]⟩, 0, 0), rfl, hq.new4 (Nat.le_refl _) _ _ _ _, ?_, HU.out⟩
    exact (((hr2.other (by omega) 0 _).other (by omega) 1 _).other (by omega) 2 _).other (by omega) 3 _

theorem fld_kind (a b c d : Value) (w : World) : (Instr.field 45 (.agg #[a, b, c, d]) 0).run Tryz.prog w = .ok a w := by kernel_rfl
theorem fld_text (a b c d : Value) (w : World) : (Instr.field 45 (.agg #[a, b, c, d]) 1).run Tryz.prog w = .ok b w := by kernel_rfl
theorem fld_int (a b c d : Value) (w : World) : (Instr.field 45 (.agg #[a, b, c, d]) 2).run Tryz.prog w = .ok c w := by kernel_rfl
theorem nameP_run (S : Sa) : runP nameP S = thenR (runP (kindP 1) S) fun t r => .inr (t.2.1, r) := by cases S <;> rfl

set_option maxRecDepth 100000 in
set_option maxHeartbeats 1000000 in
theorem pName_any {g : Nat} {S : Sa} {d : Nat} {w : World} (h : Rp w g S d) :
    Calls Tryz.prog 42 #[.pointer (some ⟨g, 0, none⟩)] w fun e w' => ∃ s : ByteArray, e = .returned (.string s) ∧ But g w w' ∧ Rp w' g (stO (runP nameP S)) d ∧ ∀ u r, runP nameP S = .inr (u, r) → s = u := by
  have H : Hid _ := hid (pKind_any h 1 (by decide) (by decide))
  rw [nameP_run]
  generalize runP (kindP 1) S = R at *
  clear h
  go_enter Tryz.func42, Tryz.ntmps42
  go_wp2_with fail
  refine Calls.mono H.out ?_
  rintro e w1 ⟨t, rfl, hb, hr, hu⟩
  unfold tkA
  have hf := fld_text
  clear H
  go_wp2
  go_ret
  refine ⟨t.2.1, rfl, hb, ?_, ?_⟩
  · cases R with
    | inl x => exact hr
    | inr x => exact hr
  · cases R with
    | inl x => intro u r e; cases e
    | inr x => intro u r e; cases e; rw [hu x.1 x.2 rfl]

theorem endS_nx {w : World} {g d : Nat} {S : Sa} (hr : Rp w g S d) : endS S = if (nxT S).1 = 6 then S else failS 5 S := by
  match S with
  | .inl x => rfl
  | .inr [] => obtain ⟨b, o, n, c, hq, hw⟩ := hr.ok; exact hw.ended.elim
  | .inr (t :: ts) => rfl
set_option maxRecDepth 100000 in
set_option maxHeartbeats 1000000 in
theorem pEnd_any {g : Nat} {S : Sa} {d : Nat} {w : World} (h : Rp w g S d) :
    Calls Tryz.prog 17 #[.pointer (some ⟨g, 0, none⟩)] w fun e w' => e = .returned (.tuple #[]) ∧ But g w w' ∧ Rp w' g (endS S) d := by
  have H := pNext_any h
  rw [endS_nx h]
  unfold tkA at H
  generalize nxT S = t at *
  obtain ⟨t0, t1, t2, t3⟩ := t
  replace H : Hid _ := hid H
  have hf := fld_kind
  by_cases h6 : t0 = 6
  · subst h6
    rw [if_pos rfl]
    go_enter Tryz.func17, Tryz.ntmps17
    go_wp2_with fail
    refine Calls.mono H.out ?_
    rintro e w1 ⟨rfl, hb1⟩
    clear H
    go_wp2
    refine bodyPost_end (results_none rfl _ _ _) rfl ⟨rfl, But.of hb1, h.later hb1⟩
  · rw [if_neg h6]
    have g6 : (t0 != 6) = true := by simpa using h6
    clear h6
    go_enter Tryz.func17, Tryz.ntmps17
    go_wp2_with fail
    refine Calls.mono H.out ?_
    rintro e w1 ⟨rfl, hb1⟩
    have HK : Hid _ := hid (pFail_any (h.later hb1) 5 (by decide))
    clear H
    go_wp2_with fail
    refine Calls.mono HK.out ?_
    rintro e w2 ⟨rfl, hr2, hb2⟩
    have hb := (But.of hb1).trans hb2
    clear HK hb1 hb2
    go_wp2
    refine bodyPost_end (results_none rfl _ _ _) rfl ⟨rfl, hb, hr2⟩

end Go.Proofs.YtjlmcnbmhgabpaaGreat
